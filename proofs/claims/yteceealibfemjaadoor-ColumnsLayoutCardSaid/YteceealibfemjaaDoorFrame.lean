/-
  WHAT A STEP MAY TURN: 'Mods M w w'': of the blocks of w those alone turn that M names (layer 2, columns).
-/
import Derived.Test.YteceealibfemjaaDoorLeaf
import Derived.Test.YteceealibfemjaaDoorCrds
import Derived.RangeFuncBox
import Derived.Lib.Builder
namespace Go.Proofs.YteceealibfemjaaDoor
open Go.RowKit

structure Mods (M : Nat → Prop) (w w' : World) : Prop where
  os : w'.os = w.os
  tape : w'.tape = w.tape
  output : w'.output = w.output
  size : w.heap.size ≤ w'.heap.size
  block : ∀ k, k < w.heap.size → ¬ M k → w'.heap[k]? = w.heap[k]?

theorem Mods.refl (M : Nat → Prop) (w : World) : Mods M w w := ⟨rfl, rfl, rfl, Nat.le_refl _, fun _ _ _ => rfl⟩
theorem Mods.trans {M : Nat → Prop} {a b c : World} (h : Mods M a b) (k : Mods M b c) : Mods M a c :=
  ⟨k.os.trans h.os, k.tape.trans h.tape, k.output.trans h.output, Nat.le_trans h.size k.size, fun i hi hM => (k.block i (Nat.lt_of_lt_of_le hi h.size) hM).trans (h.block i hi hM)⟩
/-- a step that may turn more, but of the first world's blocks no more -/
theorem Mods.trans' {M M' : Nat → Prop} {a b c : World} (h : Mods M a b) (k : Mods M' b c) (hM : ∀ i, i < a.heap.size → M' i → M i) : Mods M a c :=
  ⟨k.os.trans h.os, k.tape.trans h.tape, k.output.trans h.output, Nat.le_trans h.size k.size, fun i hi hn => (k.block i (Nat.lt_of_lt_of_le hi h.size) (fun e => hn (hM i hi e))).trans (h.block i hi hn)⟩
theorem Mods.weak {M M' : Nat → Prop} {a b : World} (h : Mods M a b) (hM : ∀ i, i < a.heap.size → M i → M' i) : Mods M' a b :=
  ⟨h.os, h.tape, h.output, h.size, fun i hi hn => h.block i hi (fun e => hn (hM i hi e))⟩
theorem Mods.drew {M : Nat → Prop} {a b : World} (h : Mods M a b) : Mods M a b.drew := ⟨h.os, h.tape, h.output, h.size, h.block⟩
theorem Mods.drewN {M : Nat → Prop} {a b : World} (h : Mods M a b) (n : Nat) : Mods M a (b.drewN n) := ⟨h.os, h.tape, h.output, h.size, h.block⟩
theorem Mods.alloc {M : Nat → Prop} {a b : World} (h : Mods M a b) (o : Obj) : Mods M a (b.alloc o) :=
  h.trans' (M' := fun _ => False) ⟨rfl, rfl, rfl, by simp, fun k hk _ => heap_alloc_old b o hk⟩ (fun _ _ e => e.elim)
theorem Mods.set {M : Nat → Prop} {a b : World} (h : Mods M a b) (blk i : Nat) (v : Value) (hM : blk < a.heap.size → M blk) : Mods M a (b.setCell ⟨blk, i, none⟩ v) :=
  h.trans' (M' := fun k => k = blk) ⟨rfl, rfl, rfl, by simp [World.setCell], fun k _ hk => Below.heap_setCell _ _ _ _ hk⟩ (fun i hi e => by subst e; exact hM hi)
theorem Mods.of_below {w w' : World} (h : Below w.heap.size w w') : Mods (fun _ => False) w w' := ⟨h.os, h.tape, h.output, h.size, fun k hk _ => h.block k hk⟩
theorem Mods.below {M : Nat → Prop} {a b c : World} (h : Mods M a b) (k : Below b.heap.size b c) : Mods M a c := h.trans' (Mods.of_below k) (fun _ _ e => e.elim)
theorem Mods.of_grown {w w' : World} {row : Option Nat} (h : w.grownBy w' row) : Mods (fun k => row = some k) w w' := ⟨h.os, h.tape, h.output, h.size, fun k hk hn => h.block k hk (fun e => hn e.symm)⟩
theorem Mods.toBelow {M : Nat → Prop} {B : Nat} {w w' : World} (h : Mods M w w') (hB : B ≤ w.heap.size) (hM : ∀ i, i < B → ¬ M i) : Below B w w' := ⟨h.os, h.tape, h.output, h.size, fun k hk => h.block k (by omega) (hM k hk)⟩
theorem Mods.grown {M : Nat → Prop} {w w' : World} (h : Mods M w w') (row : Option Nat) (hM : ∀ i, i < w.heap.size → M i → row = some i) : w.grownBy w' row := ⟨h.os, h.tape, h.output, h.size, fun k hk hn => h.block k hk (fun e => hn (hM k hk e).symm)⟩
theorem Mods.cell {M : Nat → Prop} {w w' : World} (h : Mods M w w') (b o : Nat) (hb : b < w.heap.size) (hM : ¬ M b) : w'.cell? ⟨b, o, none⟩ = w.cell? ⟨b, o, none⟩ := World.cell?_of_block (h.block b hb hM)
theorem Mods.free {M : Nat → Prop} {w w' : World} (h : Mods M w w') (b o : Nat) (hb : b < w.heap.size) (hM : ¬ M b) : w'.frozen? ⟨b, o, none⟩ = w.frozen? ⟨b, o, none⟩ := World.frozen?_of_block (h.block b hb hM)

/-- what is owned stays owned where no cell of its row turns -/
theorem own_kept {M : Nat → Prop} {w w' : World} {B : Nat} {e : TypeId} {size : Nat} {v : Value} {n : Nat} {xs : List Value} (h : w.ownsRow B e size v n xs) (hm : Mods M w w') (hM : ∀ k, v.ownBlock = some k → ¬ M k) : w'.ownsRow B e size v n xs := by
  rcases h with ⟨hl, hv | ⟨g, cap, cur, rfl, hg, hb, h1, h2, h3, h4⟩⟩
  · exact ⟨hl, .inl hv⟩
  · exact ⟨hl, .inr ⟨g, cap, cur, rfl, hg, (hm.block g (lt_of_block hb) (hM g rfl)).trans hb, h1, h2, h3, h4⟩⟩
theorem box_kept {M : Nat → Prop} {w w' : World} {B : Nat} {t : TypeId} {v : Value} (h : Boxed w B t v) (hm : Mods M w w') (hM : ¬ M B) : Boxed w' B t v := (hm.block B h.lt hM).trans h
theorem OutI.kept' {M : Nat → Prop} {w w' : World} {B : Nat} {v : Value} {cs : List (CardL × Value)} (h : OutI w B v cs) (hm : Mods M w w') (hv : ∀ k, v.ownBlock = some k → ¬ M k) (hc : ∀ c ∈ cs, ∀ k, c.2.ownBlock = some k → ¬ M k) : OutI w' B v cs := by
  refine ⟨own_kept h.own hm hv, fun c hcs => ?_, h.far, h.apart⟩
  obtain ⟨o, ho, hs⟩ := h.marks c hcs
  refine ⟨o, own_kept ho hm (fun k hk => hc c hcs k ?_), hs⟩
  rcases hs with e | e
  · rw [e]; exact hk
  · rw [e, clipV_block]; exact hk

/-- the type of the elements of a block of cells -/
def elemT : Obj → Option TypeId
  | .cells _ e _ => some e
  | _ => none
theorem own_elem {w : World} {B : Nat} {e : TypeId} {size : Nat} {v : Value} {n : Nat} {xs : List Value} (h : w.ownsRow B e size v n xs) (k : Nat) (hk : v.ownBlock = some k) : ∃ o, w.heap[k]? = some o ∧ elemT o = some e ∧ B ≤ k := by
  rcases h with ⟨hl, ⟨rfl, _⟩ | ⟨g, cap, cur, rfl, hg, hb, _⟩⟩
  · simp [Value.ownBlock] at hk
  · obtain rfl : g = k := by simpa [Value.ownBlock] using hk
    exact ⟨_, hb, rfl, hg⟩
theorem OwnM.elem {w : World} {B : Nat} {v : Value} {ms : List MarkL} (h : OwnM w B v ms) (k : Nat) (hk : v.ownBlock = some k) : ∃ o, w.heap[k]? = some o ∧ elemT o = some 115 ∧ B ≤ k := by
  obtain ⟨o, ho, hs⟩ := h
  refine own_elem ho k ?_
  rcases hs with rfl | rfl
  · exact hk
  · rw [clipV_block] at hk; exact hk
/-- a block of cells, none of them frozen -/
def Blk (w : World) (b : Nat) (cs : Array Value) (T : TypeId) : Prop := w.heap[b]? = some (.cells cs T (0, 0))
theorem Blk.lt {w : World} {b : Nat} {cs : Array Value} {T : TypeId} (h : Blk w b cs T) : b < w.heap.size := lt_of_block h
theorem Blk.cell {w : World} {b : Nat} {cs : Array Value} {T : TypeId} (h : Blk w b cs T) (j : Nat) : w.cell? ⟨b, j, none⟩ = cs[j]? := Lib.cell_of_heap h j
theorem Blk.free {w : World} {b : Nat} {cs : Array Value} {T : TypeId} (h : Blk w b cs T) (j : Nat) : w.frozen? ⟨b, j, none⟩ = false := Lib.frozen_of_heap h j
theorem blk_new (w : World) (cs : Array Value) (T : TypeId) : Blk (w.alloc (.cells cs T)) w.heap.size cs T := heap_alloc_new w _
theorem blk_kept {w w' : World} {b : Nat} {cs : Array Value} {T : TypeId} (hb : Below w.heap.size w w') (h : Blk w b cs T) : Blk w' b cs T := (hb.block b h.lt).trans h
theorem Blk.mods {M : Nat → Prop} {w w' : World} {b : Nat} {cs : Array Value} {T : TypeId} (h : Blk w b cs T) (hm : Mods M w w') (hM : ¬ M b) : Blk w' b cs T := (hm.block b h.lt hM).trans h
theorem Blk.alloc {w : World} {b : Nat} {cs : Array Value} {T : TypeId} (h : Blk w b cs T) (o : Obj) : Blk (w.alloc o) b cs T := (heap_alloc_old w o h.lt).trans h
theorem Blk.set {w : World} {b : Nat} {cs : Array Value} {T : TypeId} (h : Blk w b cs T) (j : Nat) (v : Value) : Blk (w.setCell ⟨b, j, none⟩ v) b (cs.setIfInBounds j v) T := by
  simp [Blk, World.setCell, Array.getElem?_modify, show w.heap[b]? = _ from h]

theorem below_set3 {B b : Nat} {w w' : World} (h : Below B w w') (hb : B ≤ b) (x y z : Value) : Below B w (((w'.setCell ⟨b, 0, none⟩ x).setCell ⟨b, 1, none⟩ y).setCell ⟨b, 2, none⟩ z) :=
  ((h.setCell (p := ⟨b, 0, none⟩) hb _).setCell (p := ⟨b, 1, none⟩) hb _).setCell (p := ⟨b, 2, none⟩) hb _
end Go.Proofs.YteceealibfemjaaDoor
