/-
  THE READER (layer 2, columns): what its block and its rows hold; what its steps may turn; the contract of finish.
-/
import Derived.Test.YteceealibfemjaaDoorChk
import Derived.Test.YteceealibfemjaaDoorBld
import Derived.Outline
namespace Go.Proofs.YteceealibfemjaaDoor
open Go.RowKit

/-- blocks that are rows of the reader's own types -/
def rowy (o : Obj) : Bool := match elemT o with
  | some e => e == 5 || e == 71 || e == 115 || e == 4
  | none => false
/-- what a step of the reader in block br may turn: that block, and its rows from block B on -/
def FrR (B br : Nat) (w w' : World) : Prop := Mods (fun k => k = br ∨ (B ≤ k ∧ ∃ o, w.heap[k]? = some o ∧ rowy o = true)) w w'
theorem FrR.refl (B br : Nat) (w : World) : FrR B br w w := Mods.refl _ _
theorem FrR.trans {B br : Nat} {a b c : World} (h : FrR B br a b) (k : FrR B br b c) : FrR B br a c :=
  Mods.trans' h k (fun i hi hM => by
    rcases hM with rfl | ⟨hB, o, ho, hr⟩
    · exact .inl rfl
    · by_cases hn : i = br ∨ (B ≤ i ∧ ∃ o, a.heap[i]? = some o ∧ rowy o = true)
      · exact hn
      · have := h.block i hi hn
        rw [ho] at this
        exact absurd (.inr ⟨hB, o, this.symm, hr⟩) hn)
theorem FrR.of {M : Nat → Prop} {B br : Nat} {w w' : World} (h : Mods M w w') (hM : ∀ i, i < w.heap.size → M i → i = br ∨ (B ≤ i ∧ ∃ o, w.heap[i]? = some o ∧ rowy o = true)) : FrR B br w w' := h.weak hM
theorem FrR.below {B br : Nat} {a b c : World} (h : FrR B br a b) (k : Below b.heap.size b c) : FrR B br a c := Mods.below h k
theorem FrR.toBelow {B br : Nat} {w w' : World} (h : FrR B br w w') (hB : B ≤ w.heap.size) (B0 : Nat) (h0 : B0 ≤ B) (hbr : B0 ≤ br) : Below B0 w w' :=
  Mods.toBelow h (by omega) (fun i hi hM => by rcases hM with rfl | ⟨h1, _⟩ <;> omega)
theorem FrR.blk {B br : Nat} {w w' : World} {b : Nat} {cs : Array Value} {T : TypeId} (h : Blk w b cs T) (k : FrR B br w w') (hb : b ≠ br) (hT : rowy (.cells cs T (0, 0)) = false) : Blk w' b cs T :=
  h.mods k (fun hM => by
    rcases hM with e | ⟨_, o, ho, hr⟩
    · exact hb e
    · rw [show w.heap[b]? = _ from h] at ho; cases ho; rw [hT] at hr; cases hr)
theorem FrR.low {B br : Nat} {w w' : World} {b : Nat} {cs : Array Value} {T : TypeId} (h : Blk w b cs T) (k : FrR B br w w') (hb : b ≠ br) (hB : b < B) : Blk w' b cs T :=
  h.mods k (fun hM => by
    rcases hM with e | ⟨h1, _⟩
    · exact hb e
    · omega)

/-- the value of the closure that counts quotes -/
def cntV (qb : Nat) : Value := .func (.func 53) #[] #[.pointer (some ⟨qb, 0, none⟩)]

/-- cards that are finished, and no other: the reader before its first line, or when it has finished a card -/
def RFin (B br : Nat) (w : World) (all : List CardL) : Prop :=
  ∃ (cs : List (CardL × Value)) (A : Option Addr) (cap : Nat) (fv : Value) (ln co : Int), Blk w br #[.slice A cs.length cap, .pointer none, .slice none 0 0, fv, .bool false, .int .i64 ln, .int .i64 co] 88 ∧
    cs.map (·.1) = all ∧ (∀ d ∈ cs, d.2 = clipV d.2) ∧ OutI w B (.slice A cs.length cap) cs

/-- a card that may be continued behind finished ones -/
structure RCurX (B br : Nat) (w : World) (pre : List CardL) (c : CardL) (ln co : Int) (cs : List (CardL × Value)) (g cap : Nat) (mv p bv : Value) (qb : Nat) : Prop where
  blk : Blk w br #[.slice (some ⟨g, 0, none⟩) (cs.length + 1) cap, p, bv, .func (.func 53) #[] #[.pointer (some ⟨qb, 0, none⟩)], .bool (openL c.text), .int .i64 ln, .int .i64 co] 88
  pre : cs.map (·.1) = pre
  tight : ∀ d ∈ cs, d.2 = clipV d.2
  out : OutI w B (.slice (some ⟨g, 0, none⟩) (cs.length + 1) cap) (cs ++ [(⟨c.left, [], c.marks⟩, mv)])
  mown : w.ownsRow B 115 3 mv c.marks.length (markCells c.marks)
  addr : p = .pointer none ∨ p = .pointer (some ⟨br, 1, none⟩)
  text : w.ownsRow B 5 1 bv c.text.length (Lib.byteCells c.text)
  box : Boxed w qb 4 (.bool (openL c.text))
  above : B ≤ qb
def RCur (B br : Nat) (w : World) (pre : List CardL) (c : CardL) (ln co : Int) : Prop := ∃ cs g cap mv p bv qb, RCurX B br w pre c ln co cs g cap mv p bv qb

theorem bin_of_reader {w : World} {br : Nat} {cs : Array Value} (h : Blk w br cs 88) (hs : cs.size = 7) : BIn w br 1 88 cs :=
  ⟨h, by omega, by rw [hs]; kernel_rfl, by decide⟩

/-- slices.Clip of a slice of cards, of marks -/
theorem clipC_c (A : Option Addr) (n c : Nat) (w : World) (_hn : n ≤ 2000000) (hc : n ≤ c) :
    Calls Tryd.prog 50 #[.slice A n c] w fun e w' => e = .returned (.slice A n n) ∧ w = w' := by
  go_enter Tryd.func50, Tryd.ntmps50
  go_wp2_with fail
  go_ret
  exact ⟨rfl, rfl⟩
theorem clipM_c (A : Option Addr) (n c : Nat) (w : World) (_hn : n ≤ 2000000) (hc : n ≤ c) :
    Calls Tryd.prog 74 #[.slice A n c] w fun e w' => e = .returned (.slice A n n) ∧ w = w' := by
  go_enter Tryd.func74, Tryd.ntmps74
  go_wp2_with fail
  go_ret
  exact ⟨rfl, rfl⟩
end Go.Proofs.YteceealibfemjaaDoor
