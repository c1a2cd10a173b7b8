/-
  CARDS IN MEMORY; cards that the call owns: a []Card that grows, each with a []Mark of its own (layer 2, columns).
-/
import Derived.Test.YteceealibfemjaaDoorBase
namespace Go.Proofs.YteceealibfemjaaDoor
open Go.RowKit


/-- a mark: from, line, column -/
abbrev MarkL := Int × Int × Int
structure CardL where
  left : Bool
  text : List UInt8
  marks : List MarkL
deriving DecidableEq
/-- marks in memory below a block -/
def MarksAt (w : World) (B : Nat) (A : Option Addr) (ms : List MarkL) : Prop :=
  ms = [] ∨ ∃ b off, A = some ⟨b, off, none⟩ ∧ b < B ∧ ∀ j (h : j < ms.length), w.cell? ⟨b, off + j * 3, none⟩ = some (.int .i64 ms[j].1) ∧ w.cell? ⟨b, off + j * 3 + 1, none⟩ = some (.int .i64 ms[j].2.1) ∧ w.cell? ⟨b, off + j * 3 + 2, none⟩ = some (.int .i64 ms[j].2.2)
/-- a card in memory -/
def CardAt (w : World) (B b off : Nat) (c : CardL) : Prop :=
  w.cell? ⟨b, off, none⟩ = some (.bool c.left) ∧ w.cell? ⟨b, off + 1, none⟩ = some (.string (mk c.text)) ∧
    ∃ A cap, w.cell? ⟨b, off + 2, none⟩ = some (.slice A c.marks.length cap) ∧ MarksAt w B A c.marks
/-- cards in memory below a block -/
def CardsAt (w : World) (B : Nat) (A : Option Addr) (cs : List CardL) : Prop :=
  cs = [] ∨ ∃ b off, A = some ⟨b, off, none⟩ ∧ b < B ∧ ∀ j (h : j < cs.length), CardAt w B b (off + j * 3) cs[j]
theorem below_drewN {B : Nat} {a w : World} (h : Below B a w) (n : Nat) : Below B a (w.drewN n) := ⟨h.os, h.tape, h.output, h.size, h.block⟩
theorem mk_beq (a b : List UInt8) : ((mk a).toList == (mk b).toList) = (a == b) := by rw [ByteArray.toList_eq, ByteArray.toList_eq]; rfl
theorem MarksAt.at_ {w : World} {B : Nat} {A : Option Addr} {ms : List MarkL} (h : MarksAt w B A ms) (j : Nat) (hj : j < ms.length) : ∃ b off, A = some ⟨b, off, none⟩ ∧ b < B ∧ w.cell? ⟨b, off + j * 3, none⟩ = some (.int .i64 ms[j].1) ∧ w.cell? ⟨b, off + j * 3 + 1, none⟩ = some (.int .i64 ms[j].2.1) ∧ w.cell? ⟨b, off + j * 3 + 2, none⟩ = some (.int .i64 ms[j].2.2) := by
  rcases h with rfl | ⟨b, off, rfl, hb, hc⟩
  · simp at hj
  · exact ⟨b, off, rfl, hb, hc j hj⟩
theorem CardsAt.at_ {w : World} {B : Nat} {A : Option Addr} {cs : List CardL} (h : CardsAt w B A cs) (j : Nat) (hj : j < cs.length) : ∃ b off, A = some ⟨b, off, none⟩ ∧ b < B ∧ CardAt w B b (off + j * 3) cs[j] := by
  rcases h with rfl | ⟨b, off, rfl, hb, hc⟩
  · simp at hj
  · exact ⟨b, off, rfl, hb, hc j hj⟩

def markCells (ms : List MarkL) : List Value := ms.flatMap fun m => [.int .i64 m.1, .int .i64 m.2.1, .int .i64 m.2.2]
/-- the cells of cards; with each card the value of its marks -/
def cardCells (cs : List (CardL × Value)) : List Value := cs.flatMap fun c => [.bool c.1.left, .string (mk c.1.text), c.2]
theorem markCells_length (ms : List MarkL) : (markCells ms).length = ms.length * 3 := by
  induction ms with
  | nil => rfl
  | cons m ms ih => rw [markCells, List.flatMap_cons, List.length_append]; rw [markCells] at ih; rw [ih]; simp; omega
theorem cardCells_length (cs : List (CardL × Value)) : (cardCells cs).length = cs.length * 3 := by
  induction cs with
  | nil => rfl
  | cons m ms ih => rw [cardCells, List.flatMap_cons, List.length_append]; rw [cardCells] at ih; rw [ih]; simp; omega
theorem markCells_append (a b : List MarkL) : markCells (a ++ b) = markCells a ++ markCells b := List.flatMap_append
theorem cardCells_append (a b : List (CardL × Value)) : cardCells (a ++ b) = cardCells a ++ cardCells b := List.flatMap_append
theorem markCells_at (ms : List MarkL) (j : Nat) (h : j < ms.length) : (markCells ms)[j * 3]? = some (.int .i64 ms[j].1) ∧ (markCells ms)[j * 3 + 1]? = some (.int .i64 ms[j].2.1) ∧ (markCells ms)[j * 3 + 2]? = some (.int .i64 ms[j].2.2) := by
  induction ms generalizing j with
  | nil => simp at h
  | cons m ms ih =>
    cases j with
    | zero => simp [markCells]
    | succ j =>
      have := ih j (by simpa using h)
      rw [markCells, List.flatMap_cons]
      rw [markCells] at this
      rw [show (j + 1) * 3 = j * 3 + 3 by omega, show j * 3 + 3 + 1 = (j * 3 + 1) + 3 by omega, show j * 3 + 3 + 2 = (j * 3 + 2) + 3 by omega]
      simpa using this
theorem cardCells_at (cs : List (CardL × Value)) (j : Nat) (h : j < cs.length) : (cardCells cs)[j * 3]? = some (.bool cs[j].1.left) ∧ (cardCells cs)[j * 3 + 1]? = some (.string (mk cs[j].1.text)) ∧ (cardCells cs)[j * 3 + 2]? = some cs[j].2 := by
  induction cs generalizing j with
  | nil => simp at h
  | cons m ms ih =>
    cases j with
    | zero => simp [cardCells]
    | succ j =>
      have := ih j (by simpa using h)
      rw [cardCells, List.flatMap_cons]
      rw [cardCells] at this
      rw [show (j + 1) * 3 = j * 3 + 3 by omega, show j * 3 + 3 + 1 = (j * 3 + 1) + 3 by omega, show j * 3 + 3 + 2 = (j * 3 + 2) + 3 by omega]
      simpa using this
/-- a slice without its spare places -/
def clipV : Value → Value
  | .slice A n _ => .slice A n n
  | v => v
theorem clipV_block (v : Value) : (clipV v).ownBlock = v.ownBlock := by
  cases v with
  | slice A n c => cases A <;> rfl
  | _ => rfl
/-- marks that are the call's own; the value that is held may have lost its spare places -/
def OwnM (w : World) (B : Nat) (v : Value) (ms : List MarkL) : Prop := ∃ o, w.ownsRow B 115 3 o ms.length (markCells ms) ∧ (v = o ∨ v = clipV o)
theorem OwnM.of {w : World} {B : Nat} {v : Value} {ms : List MarkL} (h : w.ownsRow B 115 3 v ms.length (markCells ms)) : OwnM w B v ms := ⟨v, h, .inl rfl⟩
theorem OwnM.kept {w w' : World} {B : Nat} {v : Value} {ms : List MarkL} {row : Option Nat} (h : OwnM w B v ms) (hg : w.grownBy w' row) (hm : v.ownBlock = none ∨ v.ownBlock ≠ row) : OwnM w' B v ms := by
  obtain ⟨o, ho, hv⟩ := h
  have e : v.ownBlock = o.ownBlock := by
    rcases hv with rfl | rfl
    · rfl
    · exact clipV_block o
  exact ⟨o, ho.kept hg (by rw [← e]; exact hm), hv⟩
theorem OwnM.alloc {w : World} {B : Nat} {v : Value} {ms : List MarkL} (h : OwnM w B v ms) (x : Obj) : OwnM (w.alloc x) B v ms := by
  obtain ⟨o, ho, hv⟩ := h
  exact ⟨o, ho.alloc x, hv⟩
theorem OwnM.lt {w : World} {B : Nat} {v : Value} {ms : List MarkL} (h : OwnM w B v ms) (k : Nat) (hk : v.ownBlock = some k) : B ≤ k ∧ k < w.heap.size := by
  obtain ⟨o, ho, hv⟩ := h
  refine ho.lt k ?_
  rcases hv with rfl | rfl
  · exact hk
  · rw [clipV_block] at hk; exact hk
theorem OwnM.clip {w : World} {B : Nat} {v : Value} {ms : List MarkL} (h : OwnM w B v ms) : OwnM w B (clipV v) ms := by
  obtain ⟨o, ho, hv⟩ := h
  refine ⟨o, ho, .inr ?_⟩
  rcases hv with rfl | rfl
  · rfl
  · cases o <;> rfl

/-- a list of cards that is the call's own, above a block -/
structure OutI (w : World) (B : Nat) (v : Value) (cs : List (CardL × Value)) : Prop where
  laid ::
  own : w.ownsRow B 71 3 v cs.length (cardCells cs)
  marks : ∀ c ∈ cs, OwnM w B c.2 c.1.marks
  far : ∀ c ∈ cs, c.2.ownBlock = none ∨ c.2.ownBlock ≠ v.ownBlock
  apart : cs.Pairwise (fun c d => c.2.ownBlock = none ∨ c.2.ownBlock ≠ d.2.ownBlock)
theorem OutI.nil (w : World) (B : Nat) : OutI w B (.slice none 0 0) [] := ⟨World.ownsRow_nil _ _ _ _, by simp, by simp, List.Pairwise.nil⟩
theorem OutI.kept {w w' : World} {B : Nat} {v : Value} {cs : List (CardL × Value)} {row : Option Nat} (h : OutI w B v cs) (hg : w.grownBy w' row) (hv : v.ownBlock = none ∨ v.ownBlock ≠ row) (hm : ∀ c ∈ cs, c.2.ownBlock = none ∨ c.2.ownBlock ≠ row) : OutI w' B v cs :=
  ⟨h.own.kept hg hv, fun c hc => (h.marks c hc).kept hg (hm c hc), h.far, h.apart⟩
theorem OutI.alloc {w : World} {B : Nat} {v : Value} {cs : List (CardL × Value)} (h : OutI w B v cs) (o : Obj) : OutI (w.alloc o) B v cs :=
  ⟨h.own.alloc o, fun c hc => (h.marks c hc).alloc o, h.far, h.apart⟩
theorem OutI.drew {w : World} {B : Nat} {v : Value} {cs : List (CardL × Value)} (h : OutI w B v cs) : OutI w.drew B v cs := ⟨h.own, h.marks, h.far, h.apart⟩
theorem OutI.drewN {w : World} {B : Nat} {v : Value} {cs : List (CardL × Value)} (h : OutI w B v cs) (n : Nat) : OutI (w.drewN n) B v cs := ⟨h.own, h.marks, h.far, h.apart⟩
/-- a card is appended -/
theorem OutI.push {w w' : World} {B g n cap : Nat} {v : Value} {cs : List (CardL × Value)} (h : OutI w B v cs) (left : Bool) (hn : n = cs.length + 1)
    (hown : w'.ownsRow B 71 3 (.slice (some ⟨g, 0, none⟩) n cap) n (cardCells cs ++ [.bool left, .string ⟨#[]⟩, .slice none 0 0])) (hg : w.grownBy w' v.ownBlock) (hat : v.ownBlock = some g ∨ g = w.heap.size) :
    OutI w' B (.slice (some ⟨g, 0, none⟩) n cap) (cs ++ [(⟨left, [], []⟩, .slice none 0 0)]) := by
  subst hn
  refine ⟨?_, ?_, ?_, ?_⟩
  · have e : cardCells [((⟨left, [], []⟩ : CardL), Value.slice none 0 0)] = [.bool left, .string ⟨#[]⟩, .slice none 0 0] := rfl
    rw [cardCells_append, e, List.length_append]
    exact hown
  · intro c hc
    rcases List.mem_append.1 hc with hc | hc
    · exact (h.marks c hc).kept hg (h.far c hc)
    · obtain rfl : c = (⟨left, [], []⟩, .slice none 0 0) := by simpa using hc
      exact .of (World.ownsRow_nil _ _ _ _)
  · intro c hc
    rcases List.mem_append.1 hc with hc | hc
    · rcases hat with hat | rfl
      · have := h.far c hc
        rw [hat] at this
        exact this
      · by_cases hb : c.2.ownBlock = none
        · exact .inl hb
        · right
          intro he
          have := ((h.marks c hc).lt _ he).2
          simp at this
    · obtain rfl : c = (⟨left, [], []⟩, .slice none 0 0) := by simpa using hc
      exact .inl rfl
  · rw [List.pairwise_append]
    refine ⟨h.apart, List.pairwise_singleton _ _, fun c hc d hd => ?_⟩
    obtain rfl : d = (⟨left, [], []⟩, .slice none 0 0) := by simpa using hd
    by_cases hb : c.2.ownBlock = none
    · exact .inl hb
    · exact .inr hb
/-- the cells of one card -/
theorem OutI.at_ {w : World} {B g n cap : Nat} {cs : List (CardL × Value)} (h : OutI w B (.slice (some ⟨g, 0, none⟩) n cap) cs) (hn : n = cs.length) (j : Nat) (hj : j < cs.length) :
    w.cell? ⟨g, j * 3, none⟩ = some (.bool cs[j].1.left) ∧ w.cell? ⟨g, j * 3 + 1, none⟩ = some (.string (mk cs[j].1.text)) ∧ w.cell? ⟨g, j * 3 + 2, none⟩ = some cs[j].2 := by
  subst hn
  obtain ⟨h1, h2, h3⟩ := cardCells_at cs j hj
  exact ⟨by rw [h.own.cellAt _ (by omega), h1], by rw [h.own.cellAt _ (by omega), h2], by rw [h.own.cellAt _ (by omega), h3]⟩
theorem set_last (pre : List (CardL × Value)) (c : CardL × Value) (t : List UInt8) (ms : List MarkL) (mv : Value) :
    (cardCells (pre ++ [c])).set (pre.length * 3 + 1) (.string (mk t)) = cardCells (pre ++ [({ c.1 with text := t }, c.2)]) ∧
    (cardCells (pre ++ [c])).set (pre.length * 3 + 2) mv = cardCells (pre ++ [({ c.1 with marks := ms }, mv)]) := by
  have hl := cardCells_length pre
  rw [cardCells_append, cardCells_append, cardCells_append, List.set_append_right _ _ (by omega), List.set_append_right _ _ (by omega), hl]
  constructor
  · rw [show pre.length * 3 + 1 - pre.length * 3 = 1 by omega]; rfl
  · rw [show pre.length * 3 + 2 - pre.length * 3 = 2 by omega]; rfl
/-- the text of the last card is stored -/
theorem OutI.text {w : World} {B g n cap : Nat} {pre : List (CardL × Value)} {c : CardL × Value} (h : OutI w B (.slice (some ⟨g, 0, none⟩) n cap) (pre ++ [c])) (hn : n = pre.length + 1) (t : List UInt8) :
    OutI (w.setCell ⟨g, pre.length * 3 + 1, none⟩ (.string (mk t))) B (.slice (some ⟨g, 0, none⟩) n cap) (pre ++ [({ c.1 with text := t }, c.2)]) := by
  subst hn
  have hl : (pre ++ [c]).length = pre.length + 1 := by simp
  have ho := h.own
  rw [hl] at ho
  obtain ⟨hown, hfar⟩ := ho.stored (pre.length * 3 + 1) (.string (mk t))
  rw [(set_last pre c t [] (.bool false)).1] at hown
  have hm : ∀ d ∈ pre ++ [c], OwnM (w.setCell ⟨g, pre.length * 3 + 1, none⟩ (.string (mk t))) B d.2 d.1.marks := fun d hd => (h.marks d hd).kept hfar (h.far d hd)
  refine ⟨by rw [List.length_append]; exact hown, ?_, ?_, ?_⟩
  · intro d hd
    rcases List.mem_append.1 hd with hd | hd
    · exact hm d (List.mem_append_left _ hd)
    · obtain rfl : d = ({ c.1 with text := t }, c.2) := by simpa using hd
      exact hm c (by simp)
  · intro d hd
    rcases List.mem_append.1 hd with hd | hd
    · exact h.far d (List.mem_append_left _ hd)
    · obtain rfl : d = ({ c.1 with text := t }, c.2) := by simpa using hd
      exact h.far c (by simp)
  · have ha := List.pairwise_append.1 h.apart
    refine List.pairwise_append.2 ⟨ha.1, List.pairwise_singleton _ _, fun d hd d' hd' => ?_⟩
    obtain rfl : d' = ({ c.1 with text := t }, c.2) := by simpa using hd'
    exact ha.2.2 d hd c (by simp)
/-- a mark is appended to the last card's, and the new value stored -/
theorem OutI.mark {w w1 : World} {B g n cap g1 c1 : Nat} {pre : List (CardL × Value)} {c : CardL × Value} (h : OutI w B (.slice (some ⟨g, 0, none⟩) n cap) (pre ++ [c])) (hn : n = pre.length + 1) (m : MarkL)
    (hown : w1.ownsRow B 115 3 (.slice (some ⟨g1, 0, none⟩) (c.1.marks.length + 1) c1) (c.1.marks.length + 1) (markCells c.1.marks ++ [.int .i64 m.1, .int .i64 m.2.1, .int .i64 m.2.2]))
    (hg : w.grownBy w1 c.2.ownBlock) (hat : c.2.ownBlock = some g1 ∨ g1 = w.heap.size) :
    OutI (w1.setCell ⟨g, pre.length * 3 + 2, none⟩ (.slice (some ⟨g1, 0, none⟩) (c.1.marks.length + 1) c1)) B (.slice (some ⟨g, 0, none⟩) n cap) (pre ++ [({ c.1 with marks := c.1.marks ++ [m] }, .slice (some ⟨g1, 0, none⟩) (c.1.marks.length + 1) c1)]) := by
  subst hn
  have hl : (pre ++ [c]).length = pre.length + 1 := by simp
  have ho := h.own
  rw [hl] at ho
  have hgl : g < w.heap.size := (ho.lt g rfl).2
  have hcg : c.2.ownBlock ≠ some g := by
    rcases h.far c (by simp) with hb | hb
    · rw [hb]; simp
    · exact hb
  have hg1 : g1 ≠ g := by
    rcases hat with hat | rfl
    · intro e; subst e; exact hcg hat
    · omega
  have ho1 := ho.kept hg (.inr (fun e => hcg e.symm))
  obtain ⟨hown2, hfar⟩ := ho1.stored (pre.length * 3 + 2) (.slice (some ⟨g1, 0, none⟩) (c.1.marks.length + 1) c1)
  rw [(set_last pre c [] (c.1.marks ++ [m]) _).2] at hown2
  have ha := List.pairwise_append.1 h.apart
  have hpre : ∀ d ∈ pre, d.2.ownBlock = none ∨ d.2.ownBlock ≠ some g1 := fun d hd => by
    rcases hat with hat | rfl
    · have := ha.2.2 d hd c (by simp)
      rw [hat] at this; exact this
    · by_cases hb : d.2.ownBlock = none
      · exact .inl hb
      · right
        intro he
        have := ((h.marks d (List.mem_append_left _ hd)).lt _ he).2
        omega
  refine ⟨by rw [List.length_append]; exact hown2, ?_, ?_, ?_⟩
  · intro d hd
    rcases List.mem_append.1 hd with hd | hd
    · have hdw := (h.marks d (List.mem_append_left _ hd)).kept hg (ha.2.2 d hd c (by simp))
      exact hdw.kept hfar (h.far d (List.mem_append_left _ hd))
    · obtain rfl : d = ({ c.1 with marks := c.1.marks ++ [m] }, .slice (some ⟨g1, 0, none⟩) (c.1.marks.length + 1) c1) := by simpa using hd
      have e : markCells [m] = [.int .i64 m.1, .int .i64 m.2.1, .int .i64 m.2.2] := rfl
      refine .of ?_
      show World.ownsRow _ _ _ _ _ (c.1.marks ++ [m]).length (markCells (c.1.marks ++ [m]))
      rw [markCells_append, e, List.length_append]
      exact hown.kept hfar (.inr (by simp [Value.ownBlock]; exact hg1))
  · intro d hd
    rcases List.mem_append.1 hd with hd | hd
    · exact h.far d (List.mem_append_left _ hd)
    · obtain rfl : d = ({ c.1 with marks := c.1.marks ++ [m] }, .slice (some ⟨g1, 0, none⟩) (c.1.marks.length + 1) c1) := by simpa using hd
      exact .inr (by simp [Value.ownBlock]; exact hg1)
  · refine List.pairwise_append.2 ⟨ha.1, List.pairwise_singleton _ _, fun d hd d' hd' => ?_⟩
    obtain rfl : d' = ({ c.1 with marks := c.1.marks ++ [m] }, .slice (some ⟨g1, 0, none⟩) (c.1.marks.length + 1) c1) := by simpa using hd'
    exact hpre d hd
theorem marksAt_of_own {w : World} {B cap : Nat} {A : Option Addr} {ms : List MarkL} (h : w.ownsRow B 115 3 (.slice A ms.length cap) ms.length (markCells ms)) : MarksAt w w.heap.size A ms := by
  by_cases h0 : 0 < ms.length
  · obtain ⟨g, c, hv, _, hlt⟩ := h.form h0
    obtain rfl : A = some ⟨g, 0, none⟩ := by injection hv
    refine .inr ⟨g, 0, rfl, hlt, fun j hj => ?_⟩
    obtain ⟨h1, h2, h3⟩ := markCells_at ms j hj
    rw [Nat.zero_add]
    exact ⟨by rw [h.cellAt _ (by omega), h1], by rw [h.cellAt _ (by omega), h2], by rw [h.cellAt _ (by omega), h3]⟩
  · exact .inl (List.eq_nil_of_length_eq_zero (by omega))
theorem own_shape {w : World} {B : Nat} {e : TypeId} {size : Nat} {v : Value} {n : Nat} {xs : List Value} (h : w.ownsRow B e size v n xs) : ∃ A c, v = .slice A n c := by
  rcases h.2 with ⟨hv, h0⟩ | ⟨g, cap, cur, hv, _⟩
  · exact ⟨none, 0, by rw [hv, h0]⟩
  · exact ⟨_, _, hv⟩
theorem OwnM.shape {w : World} {B : Nat} {v : Value} {ms : List MarkL} (h : OwnM w B v ms) : ∃ A c, v = .slice A ms.length c ∧ MarksAt w w.heap.size A ms := by
  obtain ⟨o, ho, hv⟩ := h
  obtain ⟨A, c, rfl⟩ := own_shape ho
  rcases hv with rfl | rfl
  · exact ⟨A, c, rfl, marksAt_of_own ho⟩
  · exact ⟨A, _, rfl, marksAt_of_own ho⟩
theorem map_set_last (pre : List (CardL × Value)) (c : CardL × Value) (f : CardL × Value) : (pre ++ [c]).map (·.1) = pre.map (·.1) ++ [c.1] ∧ (pre ++ [f]).length = (pre ++ [c]).length := by simp
/-- the last card's marks lose their spare places -/
theorem OutI.clip {w : World} {B g n cap : Nat} {pre : List (CardL × Value)} {c : CardL × Value} (h : OutI w B (.slice (some ⟨g, 0, none⟩) n cap) (pre ++ [c])) (hn : n = pre.length + 1) :
    OutI (w.setCell ⟨g, pre.length * 3 + 2, none⟩ (clipV c.2)) B (.slice (some ⟨g, 0, none⟩) n cap) (pre ++ [(c.1, clipV c.2)]) := by
  subst hn
  have hl : (pre ++ [c]).length = pre.length + 1 := by simp
  have ho := h.own
  rw [hl] at ho
  obtain ⟨hown, hfar⟩ := ho.stored (pre.length * 3 + 2) (clipV c.2)
  rw [(set_last pre c [] c.1.marks (clipV c.2)).2] at hown
  have hm : ∀ d ∈ pre ++ [c], OwnM (w.setCell ⟨g, pre.length * 3 + 2, none⟩ (clipV c.2)) B d.2 d.1.marks := fun d hd => (h.marks d hd).kept hfar (h.far d hd)
  refine ⟨by rw [List.length_append]; exact hown, ?_, ?_, ?_⟩
  · intro d hd
    rcases List.mem_append.1 hd with hd | hd
    · exact hm d (List.mem_append_left _ hd)
    · obtain rfl : d = (c.1, clipV c.2) := by simpa using hd
      exact (hm c (by simp)).clip
  · intro d hd
    rcases List.mem_append.1 hd with hd | hd
    · exact h.far d (List.mem_append_left _ hd)
    · obtain rfl : d = (c.1, clipV c.2) := by simpa using hd
      rw [clipV_block]; exact h.far c (by simp)
  · have ha := List.pairwise_append.1 h.apart
    refine List.pairwise_append.2 ⟨ha.1, List.pairwise_singleton _ _, fun d hd d' hd' => ?_⟩
    obtain rfl : d' = (c.1, clipV c.2) := by simpa using hd'
    rw [clipV_block]; exact ha.2.2 d hd c (by simp)
/-- a card in memory whose marks have no spare places -/
def TightAt (w : World) (A : Option Addr) (cs : List CardL) : Prop := ∀ b off, A = some ⟨b, off, none⟩ → ∀ j (h : j < cs.length), ∃ A', w.cell? ⟨b, off + j * 3 + 2, none⟩ = some (.slice A' cs[j].marks.length cs[j].marks.length)
/-- what is owned can be read -/
theorem OutI.cards {w : World} {B cap : Nat} {A : Option Addr} {cs : List (CardL × Value)} (h : OutI w B (.slice A cs.length cap) cs) : CardsAt w w.heap.size A (cs.map (·.1)) := by
  by_cases h0 : 0 < cs.length
  · obtain ⟨g, c, hv, _, hlt⟩ := h.own.form h0
    obtain rfl : A = some ⟨g, 0, none⟩ := by injection hv
    refine .inr ⟨g, 0, rfl, hlt, fun j hj => ?_⟩
    have hj' : j < cs.length := by simpa using hj
    obtain ⟨h1, h2, h3⟩ := h.at_ rfl j hj'
    obtain ⟨A', c', hs, hm⟩ := (h.marks cs[j] (List.getElem_mem hj')).shape
    rw [hs] at h3
    rw [Nat.zero_add]
    simp only [List.getElem_map]
    exact ⟨h1, h2, A', c', h3, hm⟩
  · exact .inl (by rw [List.eq_nil_of_length_eq_zero (show cs.length = 0 by omega)]; rfl)
theorem OutI.tight {w : World} {B cap : Nat} {A : Option Addr} {cs : List (CardL × Value)} (h : OutI w B (.slice A cs.length cap) cs) (ht : ∀ c ∈ cs, c.2 = clipV c.2) : TightAt w A (cs.map (·.1)) := by
  rintro b off rfl j hj
  have hj' : j < cs.length := by simpa using hj
  obtain ⟨g, c, hv, _, hlt⟩ := h.own.form (by omega : 0 < cs.length)
  obtain ⟨rfl, rfl⟩ : b = g ∧ off = 0 := by injection hv with h1; injection h1 with h1; injection h1 with h1 h2; exact ⟨h1, h2⟩
  obtain ⟨h1, h2, h3⟩ := h.at_ rfl j hj'
  obtain ⟨A', c', hs, hm⟩ := (h.marks cs[j] (List.getElem_mem hj')).shape
  have := ht cs[j] (List.getElem_mem hj')
  rw [hs] at this h3
  rw [this] at h3
  simp only [List.getElem_map, Nat.zero_add]
  exact ⟨A', h3⟩
end Go.Proofs.YteceealibfemjaaDoor
