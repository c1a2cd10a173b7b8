/-
  THE CONTRACT of Read (layer 2, columns).
-/
import Derived.Test.YteceealibfemjaaDoorSpc
import Derived.Outline
import Derived.Sort.CutIn
import Derived.WalkMore
namespace Go.Proofs.YteceealibfemjaaDoor
open Go.RowKit Go.Shelf
attribute [local go_sem] Oper.semAt_some

theorem Mods.set3 {M : Nat → Prop} {a b : World} (h : Mods M a b) (blk : Nat) (x y z : Value) (hM : M blk) : Mods M a (((b.setCell ⟨blk, 0, none⟩ x).setCell ⟨blk, 1, none⟩ y).setCell ⟨blk, 2, none⟩ z) :=
  ((h.set _ _ _ (fun _ => hM)).set _ _ _ (fun _ => hM)).set _ _ _ (fun _ => hM)
theorem Blk.drew {w : World} {b : Nat} {cs : Array Value} {T : TypeId} (h : Blk w b cs T) : Blk w.drew b cs T := h
theorem StAt.mods {M : Nat → Prop} {B br : Nat} {w w' : World} {st : RSt} (h : StAt B br w st) (hm : Mods M w w') (hM : ∀ j, M j → j ≠ br ∧ (j < B ∨ ∀ o, w.heap[j]? = some o → rowy o = false)) : StAt B br w' st := by
  have hno : ∀ j o e, M j → w.heap[j]? = some o → B ≤ j → elemT o = some e → (e == 5 || e == 71 || e == 115 || e == 4) = false := fun j o e hj ho hB he => by
    rcases (hM j hj).2 with h1 | h1
    · omega
    · have := h1 o ho
      rw [rowy, he] at this
      exact this
  have hbr : ¬ M br := fun e => (hM br e).1 rfl
  unfold StAt at *
  cases hc : st.cur with
  | none =>
    rw [hc] at h
    obtain ⟨cs, A, cap, fv, ln, co, h1, h2, h3, h4⟩ := h
    exact ⟨cs, A, cap, fv, ln, co, h1.mods hm hbr, h2, h3, h4.other hm (fun j o hj ho hB => ⟨fun he => by have := hno j o _ hj ho hB he; revert this; decide, fun he => by have := hno j o _ hj ho hB he; revert this; decide⟩)⟩
  | some c =>
    rw [hc] at h
    obtain ⟨cs, g, cap, mv, p, bv, qb, h⟩ := h
    refine ⟨cs, g, cap, mv, p, bv, qb, h.blk.mods hm hbr, h.pre, h.tight, h.out.other hm (fun j o hj ho hB => ⟨fun he => by have := hno j o _ hj ho hB he; revert this; decide, fun he => by have := hno j o _ hj ho hB he; revert this; decide⟩), own_kept h.mown hm (fun j hj hMj => ?_), h.addr, own_kept h.text hm (fun j hj hMj => ?_), box_kept h.box hm (fun hMj => ?_), h.above⟩
    · obtain ⟨o, ho, he, hB⟩ := own_elem h.mown j hj
      have := hno j o _ hMj ho hB he; revert this; decide
    · obtain ⟨o, ho, he, hB⟩ := own_elem h.text j hj
      have := hno j o _ hMj ho hB he; revert this; decide
    · have := hno qb _ 4 hMj h.box h.above (by simp [elemT]); revert this; decide
theorem runL_error (debug : Bool) (a b : List (List UInt8)) (st : RSt) (n : Nat) (f : FaultL) (h : runL debug st n a = .error f) : runL debug st n (a ++ b) = .error f := by
  induction a generalizing st n with
  | nil => simp [runL] at h
  | cons x r ih =>
    simp only [List.cons_append, runL] at h ⊢
    cases hs : stepL debug st ((n + 1 : Nat) : Int) x with
    | error g => rw [hs] at h; exact h
    | ok st' => rw [hs] at h; exact ih st' (n + 1) h

/-- what holds between two lines -/
structure ReadI (n0 : Nat) (w : World) (debug : Bool) (pre : List ByteArray) (W : World) : Prop where
  st : ∃ st, runL debug .ini 0 (pre.map fun x => stripL x.data.toList) = .ok st ∧ StAt (n0 + 1 + 1 + 1 + 1 + 1 + 1) (n0 + 1 + 1) W st
  num : Blk W (n0 + 1 + 1 + 1 + 1) #[.int .i64 (pre.length : Int)] 3
  flt : Blk W (n0 + 1 + 1 + 1) #[.int .i64 0, .int .i64 0, .int .i64 0] 40
  res : Blk W (n0 + 1) #[.int .i64 0, .int .i64 0, .int .i64 0] 40
  dbg : Blk W n0 #[.bool debug] 4
  bel : Below n0 w W
  siz : n0 + 1 + 1 + 1 + 1 + 1 + 1 ≤ W.heap.size
/-- a fault was found -/
structure ReadX (n0 : Nat) (w : World) (debug : Bool) (c : Code) (pre : List ByteArray) (W : World) : Prop where
  jump : c = .exit 0
  flt : ∃ f : FaultL, runL debug .ini 0 (pre.map fun x => stripL x.data.toList) = .error f ∧ (f.1 == 0) = false ∧ Blk W (n0 + 1 + 1 + 1) #[.int .i64 f.1, .int .i64 f.2.1, .int .i64 f.2.2] 40
  res : Blk W (n0 + 1) #[.int .i64 0, .int .i64 0, .int .i64 0] 40
  bel : Below n0 w W
  siz : n0 + 1 + 1 + 1 + 1 + 1 + 1 ≤ W.heap.size

theorem ReadI.mods {n0 : Nat} {w W W' : World} {debug : Bool} {pre : List ByteArray} {M : Nat → Prop} (h : ReadI n0 w debug pre W) (hm : Mods M W W') (hM : ∀ j, M j → n0 + 1 + 1 + 1 + 1 + 1 ≤ j ∧ (j < n0 + 1 + 1 + 1 + 1 + 1 + 1 ∨ ∀ o, W.heap[j]? = some o → rowy o = false)) : ReadI n0 w debug pre W' := by
  obtain ⟨st, h1, h2⟩ := h.st
  have hs := h.siz
  exact ⟨⟨st, h1, h2.mods hm (fun j hj => ⟨by have := (hM j hj).1; omega, (hM j hj).2⟩)⟩, h.num.mods hm (fun e => by have := (hM _ e).1; omega), h.flt.mods hm (fun e => by have := (hM _ e).1; omega), h.res.mods hm (fun e => by have := (hM _ e).1; omega),
    h.dbg.mods hm (fun e => by have := (hM _ e).1; omega), h.bel.trans (hm.toBelow (by omega) (fun i hi e => by have := (hM _ e).1; omega)), Nat.le_trans hs hm.size⟩
theorem ReadX.mods {n0 : Nat} {w W W' : World} {debug : Bool} {c : Code} {pre : List ByteArray} {M : Nat → Prop} (h : ReadX n0 w debug c pre W) (hm : Mods M W W') (hM : ∀ j, M j → n0 + 1 + 1 + 1 + 1 + 1 ≤ j) : ReadX n0 w debug c pre W' := by
  obtain ⟨f, h1, h2, h3⟩ := h.flt
  have hs := h.siz
  exact ⟨h.jump, ⟨f, h1, h2, h3.mods hm (fun e => by have := (hM _ e); omega)⟩, h.res.mods hm (fun e => by have := (hM _ e); omega), h.bel.trans (hm.toBelow (by omega) (fun i hi e => by have := (hM _ e); omega)), Nat.le_trans hs hm.size⟩
theorem rowy_cells {o : Obj} (h : o.isCells = false) : rowy o = false := by
  cases o with
  | cells cs t f => simp [Obj.isCells] at h
  | _ => rfl

/-- what a round may turn -/
def Rnd (n0 : Nat) (w w' : World) : Prop := Mods (fun k => k = n0 + 1 + 1 ∨ k = n0 + 1 + 1 + 1 ∨ k = n0 + 1 + 1 + 1 + 1 ∨ (n0 + 1 + 1 + 1 + 1 + 1 + 1 ≤ k ∧ ∃ o, w.heap[k]? = some o ∧ rowy o = true)) w w'
theorem Rnd.refl (n0 : Nat) (w : World) : Rnd n0 w w := Mods.refl _ _
theorem Rnd.trans {n0 : Nat} {a b c : World} (h : Rnd n0 a b) (k : Rnd n0 b c) : Rnd n0 a c :=
  Mods.trans' h k (fun i hi hM => by
    rcases hM with e | e | e | ⟨hB, o, ho, hr⟩
    · exact .inl e
    · exact .inr (.inl e)
    · exact .inr (.inr (.inl e))
    · by_cases hn : i = n0 + 1 + 1 ∨ i = n0 + 1 + 1 + 1 ∨ i = n0 + 1 + 1 + 1 + 1 ∨ (n0 + 1 + 1 + 1 + 1 + 1 + 1 ≤ i ∧ ∃ o, a.heap[i]? = some o ∧ rowy o = true)
      · exact hn
      · have := h.block i hi hn
        rw [ho] at this
        exact absurd (.inr (.inr (.inr ⟨hB, o, this.symm, hr⟩))) hn)
theorem Rnd.frR {n0 : Nat} {w w' : World} (h : FrR (n0 + 1 + 1 + 1 + 1 + 1 + 1) (n0 + 1 + 1) w w') : Rnd n0 w w' := Mods.weak h (fun i _ hi => by
  rcases hi with e | e
  · exact .inl e
  · exact .inr (.inr (.inr e)))
theorem Rnd.below {n0 : Nat} {a b c : World} (h : Rnd n0 a b) (k : Below b.heap.size b c) : Rnd n0 a c := Mods.below h k
theorem Rnd.set {n0 : Nat} {a b : World} (h : Rnd n0 a b) (blk i : Nat) (v : Value) (hM : blk = n0 + 1 + 1 + 1 ∨ blk = n0 + 1 + 1 + 1 + 1) : Rnd n0 a (b.setCell ⟨blk, i, none⟩ v) :=
  Mods.set h blk i v (fun _ => by rcases hM with e | e <;> simp [e])
theorem Rnd.set3 {n0 : Nat} {a b : World} (h : Rnd n0 a b) (x y z : Value) : Rnd n0 a (((b.setCell ⟨n0 + 1 + 1 + 1, 0, none⟩ x).setCell ⟨n0 + 1 + 1 + 1, 1, none⟩ y).setCell ⟨n0 + 1 + 1 + 1, 2, none⟩ z) :=
  ((h.set _ _ _ (.inl rfl)).set _ _ _ (.inl rfl)).set _ _ _ (.inl rfl)
theorem Rnd.keeps {n0 B : Nat} {a b : World} (h : Rnd n0 a b) (hB : n0 + 1 + 1 + 1 + 1 + 1 + 1 ≤ B) : KeepsFrom B a b := ⟨h.size, fun k o hk ho hc => by
  refine (h.block k (Array.getElem?_eq_some_iff.1 ho).1 ?_).trans ho
  rintro (e | e | e | ⟨_, o', ho', hr⟩)
  · omega
  · omega
  · omega
  · obtain rfl := Option.some.inj (ho.symm.trans ho')
    rw [rowy_cells hc] at hr; cases hr⟩
theorem Rnd.at_ {n0 b : Nat} {x y : World} (h : Rnd n0 x y) (hb : b < x.heap.size) (h6 : b < n0 + 1 + 1 ∨ b = n0 + 1 + 1 + 1 + 1 + 1) : y.heap[b]? = x.heap[b]? := h.block b hb (by
  rintro (e | e | e | ⟨e, _⟩) <;> omega)
theorem Rnd.bel {n0 : Nat} {w a b : World} (h : Rnd n0 a b) (k : Below n0 w a) (hs : n0 ≤ a.heap.size) : Below n0 w b := k.trans (Mods.toBelow h hs (by rintro i hi (e | e | e | ⟨e, _⟩) <;> omega))

theorem counts_first (debug : Bool) (l : List UInt8) (h : countsL debug l = true) : firstN (textOf l) < 65 := by
  unfold countsL at h
  split at h
  · cases h
  · split at h
    · simp only [Bool.and_eq_true, decide_eq_true_eq] at h; exact h.2
    · simpa using h
theorem RSt.Wf.le {st : RSt} {n m : Nat} (h : st.Wf n) (hn : n ≤ m) : st.Wf m := ⟨h.1, fun c hc => by
  obtain ⟨h1, h2, h3, h4⟩ := h.2 c hc
  exact ⟨h1, by omega, by omega, by omega⟩⟩
theorem runL_wf (debug : Bool) (ls : List (List UInt8)) (st st' : RSt) (n m : Nat) (hw : st.Wf m) (h : runL debug st n ls = .ok st') : st'.Wf (m + (ls.filter (countsL debug)).length) := by
  induction ls generalizing st n m with
  | nil => simp only [runL] at h; injection h with h; subst h; exact hw
  | cons l r ih =>
    simp only [runL] at h
    cases hs : stepL debug st ((n + 1 : Nat) : Int) l with
    | error f => rw [hs] at h; cases h
    | ok st1 =>
      rw [hs] at h
      unfold stepL at hs
      split at hs
      · split at hs
        · rename_i hc
          have := ih st1 (n + 1) (m + 1) (takeL_wf st st1 m _ l hw (counts_first debug l hc) hs) h
          rw [List.filter_cons_of_pos hc, List.length_cons]
          exact this.le (by omega)
        · rename_i hc
          injection hs with hs; subst hs
          rw [List.filter_cons_of_neg (by simpa using hc)]
          exact ih st (n + 1) m hw h
      · cases hs

theorem chunks_mem (l c : List UInt8) (h : c ∈ chunks l) : c.length ≤ l.length := by
  induction hn : l.length using Nat.strongRecOn generalizing l with
  | ind n ih =>
    by_cases hl : l = []
    · subst hl; rw [chunks_nil] at h; cases h
    · rw [chunks_cons l hl] at h
      have h1 := lineLen_pos l hl
      have h2 := List.length_pos_iff.2 hl
      rcases List.mem_cons.1 h with e | e
      · subst e; rw [List.length_take]; omega
      · have := ih (l.drop (lineLen l)).length (by rw [List.length_drop]; omega) _ e rfl
        rw [List.length_drop] at this; omega
theorem chunks_length (l : List UInt8) : (chunks l).length ≤ l.length := by
  induction hn : l.length using Nat.strongRecOn generalizing l with
  | ind n ih =>
    by_cases hl : l = []
    · subst hl; rw [chunks_nil]; exact Nat.zero_le _
    · rw [chunks_cons l hl]
      have h1 := lineLen_pos l hl
      have h2 := List.length_pos_iff.2 hl
      have := ih (l.drop (lineLen l)).length (by rw [List.length_drop]; omega) _ rfl
      rw [List.length_drop] at this
      rw [List.length_cons]; omega
theorem filter_prefix_le {α : Type} (p : α → Bool) {a b : List α} (h : a <+: b) : (a.filter p).length ≤ (b.filter p).length := by
  obtain ⟨r, rfl⟩ := h
  rw [List.filter_append, List.length_append]; omega
theorem strip_strings (x : ByteArray) (w : World) (hs : x.size ≤ 2000000) :
    Calls Tryd.prog 45 #[.string x, .string ⟨#[10]⟩] w fun e w' => e = .returned (.string (mk (stripL x.data.toList))) ∧ w = w' :=
  (Tryd.strings_TrimSuffix x ⟨#[10]⟩ w (by omega)).mono fun _ _ h => ⟨h.1, h.2.symm⟩
theorem strip_len (l : List UInt8) : (stripL l).length ≤ l.length := by
  unfold stripL Lib.trimSuffix
  split
  · rw [List.length_take]; omega
  · exact Nat.le_refl _

/-- within a round: the line's row lies in block b, the fault found last is f -/
structure Mid (n0 : Nat) (debug : Bool) (st : RSt) (k : Nat) (b : Nat) (t : ByteArray) (f : FaultL) (W0 W : World) : Prop where
  rnd : Rnd n0 W0 W
  num : Blk W (n0 + 1 + 1 + 1 + 1) #[.int .i64 ((k : Int) + 1)] 3
  flt : Blk W (n0 + 1 + 1 + 1) #[.int .i64 f.1, .int .i64 f.2.1, .int .i64 f.2.2] 40
  res : Blk W (n0 + 1) #[.int .i64 0, .int .i64 0, .int .i64 0] 40
  dbg : Blk W n0 #[.bool debug] 4
  st : StAt (n0 + 1 + 1 + 1 + 1 + 1 + 1) (n0 + 1 + 1) W st
  row : Blk W b #[.int .i64 ((k : Int) + 1), .string t] 93
  far : n0 + 1 + 1 + 1 + 1 + 1 + 1 ≤ b
  siz : n0 + 1 + 1 + 1 + 1 + 1 + 1 ≤ W0.heap.size
theorem Mid.mods {n0 k b : Nat} {debug : Bool} {st : RSt} {t : ByteArray} {f : FaultL} {W0 W W' : World} (h : Mid n0 debug st k b t f W0 W) (hm : Below W.heap.size W W') : Mid n0 debug st k b t f W0 W' := by
  have hm' := Mods.of_below hm
  exact ⟨h.rnd.below hm, h.num.mods hm' id, h.flt.mods hm' id, h.res.mods hm' id, h.dbg.mods hm' id, h.st.mods hm' (fun j hj => hj.elim), h.row.mods hm' id, h.far, h.siz⟩
theorem Mid.setF {n0 k b : Nat} {debug : Bool} {st : RSt} {t : ByteArray} {f : FaultL} {W0 W : World} (h : Mid n0 debug st k b t f W0 W) (x y z : Int) :
    Mid n0 debug st k b t (x, y, z) W0 (((W.setCell ⟨n0 + 1 + 1 + 1, 0, none⟩ (.int .i64 x)).setCell ⟨n0 + 1 + 1 + 1, 1, none⟩ (.int .i64 y)).setCell ⟨n0 + 1 + 1 + 1, 2, none⟩ (.int .i64 z)) := by
  have hm : Mods (· = n0 + 1 + 1 + 1) W (((W.setCell ⟨n0 + 1 + 1 + 1, 0, none⟩ (.int .i64 x)).setCell ⟨n0 + 1 + 1 + 1, 1, none⟩ (.int .i64 y)).setCell ⟨n0 + 1 + 1 + 1, 2, none⟩ (.int .i64 z)) :=
    (((Mods.refl (· = n0 + 1 + 1 + 1) W).set _ _ _ (fun _ => rfl)).set _ _ _ (fun _ => rfl)).set _ _ _ (fun _ => rfl)
  have hf := h.far
  exact ⟨h.rnd.set3 _ _ _, h.num.mods hm (by omega), by simpa using ((h.flt.set 0 (.int .i64 x)).set 1 (.int .i64 y)).set 2 (.int .i64 z), h.res.mods hm (by omega), h.dbg.mods hm (by omega), h.st.mods hm (fun j hj => ⟨by omega, .inl (by omega)⟩), h.row.mods hm (by omega), h.far, h.siz⟩
theorem Mid.start {n0 : Nat} {debug : Bool} {w W : World} {pre : List ByteArray} {st : RSt} (h : ReadI n0 w debug pre W) (hs : StAt (n0 + 1 + 1 + 1 + 1 + 1 + 1) (n0 + 1 + 1) W st) (t : ByteArray) :
    Mid n0 debug st pre.length W.heap.size t (0, 0, 0) W ((W.setCell ⟨n0 + 1 + 1 + 1 + 1, 0, none⟩ (.int .i64 ((pre.length : Int) + 1))).alloc (.cells #[.int .i64 ((pre.length : Int) + 1), .string t] 93)).drew := by
  have hm : Mods (· = n0 + 1 + 1 + 1 + 1) W ((W.setCell ⟨n0 + 1 + 1 + 1 + 1, 0, none⟩ (.int .i64 ((pre.length : Int) + 1))).alloc (.cells #[.int .i64 ((pre.length : Int) + 1), .string t] 93)).drew :=
    (((Mods.refl (· = n0 + 1 + 1 + 1 + 1) W).set _ _ _ (fun _ => rfl)).alloc _).drew
  have hsz := h.siz
  have hr : Rnd n0 W ((W.setCell ⟨n0 + 1 + 1 + 1 + 1, 0, none⟩ (.int .i64 ((pre.length : Int) + 1))).alloc (.cells #[.int .i64 ((pre.length : Int) + 1), .string t] 93)).drew :=
    Mods.drew (Mods.alloc ((Rnd.refl n0 W).set _ _ _ (.inr rfl)) _)
  refine ⟨hr, ?_, h.flt.mods hm (by omega), h.res.mods hm (by omega), h.dbg.mods hm (by omega), hs.mods hm (fun j hj => ⟨by omega, .inl (by omega)⟩), ?_, hsz, hsz⟩
  · exact (by simpa using h.num.set 0 (.int .i64 ((pre.length : Int) + 1)) : Blk _ _ #[.int .i64 ((pre.length : Int) + 1)] 3).alloc _
  · have := blk_new (W.setCell ⟨n0 + 1 + 1 + 1 + 1, 0, none⟩ (.int .i64 ((pre.length : Int) + 1))) #[.int .i64 ((pre.length : Int) + 1), .string t] 93
    exact (by simpa [World.setCell] using this : Blk ((W.setCell ⟨n0 + 1 + 1 + 1 + 1, 0, none⟩ (.int .i64 ((pre.length : Int) + 1))).alloc (.cells #[.int .i64 ((pre.length : Int) + 1), .string t] 93)) W.heap.size #[.int .i64 ((pre.length : Int) + 1), .string t] 93)
theorem Mid.read {n0 k b : Nat} {debug : Bool} {st st' : RSt} {t : ByteArray} {f : FaultL} {W0 W W' : World} (h : Mid n0 debug st k b t f W0 W) (hf : FrR (n0 + 1 + 1 + 1 + 1 + 1 + 1) (n0 + 1 + 1) W W') (hs : StAt (n0 + 1 + 1 + 1 + 1 + 1 + 1) (n0 + 1 + 1) W' st') : Mid n0 debug st' k b t f W0 W' := by
  have hfar := h.far
  exact ⟨h.rnd.trans (Rnd.frR hf), FrR.low h.num hf (by omega) (by omega), FrR.low h.flt hf (by omega) (by omega), FrR.low h.res hf (by omega) (by omega), FrR.low h.dbg hf (by omega) (by omega), hs, FrR.blk h.row hf (by omega) rfl, h.far, h.siz⟩

theorem run_step (debug : Bool) (pre : List ByteArray) (x : ByteArray) (st : RSt) (h : runL debug .ini 0 (pre.map fun x => stripL x.data.toList) = .ok st) :
    runL debug .ini 0 ((pre ++ [x]).map fun x => stripL x.data.toList) = stepL debug st ((pre.length : Int) + 1) (stripL x.data.toList) := by
  rw [List.map_append, List.map_singleton, runL_snoc, h]
  simp
theorem takeL_err (st : RSt) (line : Int) (l : List UInt8) (f : FaultL) (h : takeL st line l = .error f) : (f.1 == 0) = false := by
  unfold takeL at h
  cases hc : st.cur with
  | none =>
    rw [hc] at h
    simp only at h
    split at h
    · injection h with h; subst h; rfl
    · cases h
  | some c =>
    rw [hc] at h
    simp only at h
    split at h
    · split at h
      · injection h with h; subst h; rfl
      · split at h <;> cases h
    · split at h
      · injection h with h; subst h; rfl
      · cases h
theorem Mid.stop {n0 b B : Nat} {debug : Bool} {st : RSt} {t : ByteArray} {f : FaultL} {w W0 W : World} {pre : List ByteArray} {x : ByteArray} (h : Mid n0 debug st pre.length b t f W0 W) (hbel : Below n0 w W0) (hB : n0 + 1 + 1 + 1 + 1 + 1 + 1 ≤ B)
    (hrun : runL debug .ini 0 ((pre ++ [x]).map fun x => stripL x.data.toList) = .error f) (hf : (f.1 == 0) = false) : KeepsFrom B W0 W ∧ ReadX n0 w debug (.exit 0) (pre ++ [x]) W := by
  have hs := h.siz
  exact ⟨h.rnd.keeps hB, rfl, ⟨f, hrun, hf, h.flt⟩, h.res, h.rnd.bel hbel (by omega), Nat.le_trans hs h.rnd.size⟩
theorem Mid.go {n0 b B : Nat} {debug : Bool} {st : RSt} {t : ByteArray} {w W0 W : World} {pre : List ByteArray} {x : ByteArray} (h : Mid n0 debug st pre.length b t (0, 0, 0) W0 W) (hbel : Below n0 w W0) (hB : n0 + 1 + 1 + 1 + 1 + 1 + 1 ≤ B)
    (hrun : runL debug .ini 0 ((pre ++ [x]).map fun x => stripL x.data.toList) = .ok st) : KeepsFrom B W0 W ∧ W.heap[n0 + 1 + 1 + 1 + 1 + 1]? = W0.heap[n0 + 1 + 1 + 1 + 1 + 1]? ∧ ReadI n0 w debug (pre ++ [x]) W := by
  have hs := h.siz
  refine ⟨h.rnd.keeps hB, h.rnd.at_ (by omega) (.inr rfl), ⟨st, hrun, h.st⟩, ?_, h.flt, h.res, h.dbg, h.rnd.bel hbel (by omega), Nat.le_trans hs h.rnd.size⟩
  have := h.num
  rw [List.length_append, List.length_singleton]
  exact this

/-- what Read returns -/
def ReadP (w : World) (r : Except FaultL (List CardL)) (e : Ending) (w' : World) : Prop := match r with
  | .error f => e = .returned (.tuple #[.slice none 0 0, fault f]) ∧ Below w.heap.size w w'
  | .ok cs => ∃ A, e = .returned (.tuple #[.slice A cs.length cs.length, fault (0, 0, 0)]) ∧ CardsAt w' w'.heap.size A cs ∧ TightAt w' A cs ∧ Below w.heap.size w w'

set_option maxHeartbeats 4000000 in
set_option maxRecDepth 100000 in
theorem Read_c (s : ByteArray) (debug : Bool) (w : World) (hs : s.size ≤ 1048576) (hcnt : (((chunks s.data.toList).map stripL).filter (countsL debug)).length ≤ 70000) :
    Calls Tryd.prog 28 #[.string s, .bool debug] w (ReadP w (readL debug s.data.toList)) := by
  refine (callsIn_wide (n := 10)).1 (callsIn_of_wp_marks Tryd.func28 rfl trivial ?_ rfl)
  simp only [Tryd.ntmps28, List.size_toArray, List.length_cons, List.length_nil, Nat.reduceAdd, Nat.reduceSub, Array.replicate_succ, Array.replicate_zero, List.push_toArray, List.append_toArray, List.nil_append, List.cons_append]
  refine wpIn_wide.2 ?_
  go_wp2_with fail
  go_step3
  go_wp2_with fail
  go_step3
  go_wp2_with fail
  refine (lines_mk s _).mono ?_
  rintro e w' ⟨rfl, rfl⟩
  go_wp2_with fail
  have hbel : Below w.heap.size w ((((((w.alloc (.cells #[.bool debug] 4)).alloc (.cells #[.int .i64 0, .int .i64 0, .int .i64 0] 40)).alloc (.cells #[.slice none 0 0, .pointer none, .slice none 0 0, .nilFunc, .bool false, .int .i64 0, .int .i64 0] 88)).alloc (.cells #[.int .i64 0, .int .i64 0, .int .i64 0] 40)).alloc (.cells #[.int .i64 0] 3)).alloc (.cells #[.string s] 9)) :=
    (((((((Below.refl _ w).alloc (Nat.le_refl _) _).alloc (by simp) _).alloc (by simp; omega) _).alloc (by simp; omega) _).alloc (by simp; omega) _).alloc (by simp; omega) _)
  obtain ⟨W0, hW0⟩ : ∃ W0, W0 = ((((((w.alloc (.cells #[.bool debug] 4)).alloc (.cells #[.int .i64 0, .int .i64 0, .int .i64 0] 40)).alloc (.cells #[.slice none 0 0, .pointer none, .slice none 0 0, .nilFunc, .bool false, .int .i64 0, .int .i64 0] 88)).alloc (.cells #[.int .i64 0, .int .i64 0, .int .i64 0] 40)).alloc (.cells #[.int .i64 0] 3)).alloc (.cells #[.string s] 9)) := ⟨_, rfl⟩
  rw [← hW0] at hbel
  have hsz : W0.heap.size = w.heap.size + 1 + 1 + 1 + 1 + 1 + 1 := by rw [hW0]; simp
  have hbox : Boxed W0 (w.heap.size + 1 + 1 + 1 + 1 + 1) 9 (.string s) := by
    rw [hW0]
    have := Boxed.new (((((w.alloc (.cells #[.bool debug] 4)).alloc (.cells #[.int .i64 0, .int .i64 0, .int .i64 0] 40)).alloc (.cells #[.slice none 0 0, .pointer none, .slice none 0 0, .nilFunc, .bool false, .int .i64 0, .int .i64 0] 88)).alloc (.cells #[.int .i64 0, .int .i64 0, .int .i64 0] 40)).alloc (.cells #[.int .i64 0] 3)) 9 (.string s)
    simpa using this
  have hI0 : ReadI w.heap.size w debug [] W0 := by
    have hb0 := (((((blk_new w #[.bool debug] 4).alloc (.cells #[.int .i64 0, .int .i64 0, .int .i64 0] 40)).alloc (.cells #[.slice none 0 0, .pointer none, .slice none 0 0, .nilFunc, .bool false, .int .i64 0, .int .i64 0] 88)).alloc (.cells #[.int .i64 0, .int .i64 0, .int .i64 0] 40)).alloc (.cells #[.int .i64 0] 3)).alloc (.cells #[.string s] 9)
    have hb1 := ((((blk_new (w.alloc (.cells #[.bool debug] 4)) #[.int .i64 0, .int .i64 0, .int .i64 0] 40).alloc (.cells #[.slice none 0 0, .pointer none, .slice none 0 0, .nilFunc, .bool false, .int .i64 0, .int .i64 0] 88)).alloc (.cells #[.int .i64 0, .int .i64 0, .int .i64 0] 40)).alloc (.cells #[.int .i64 0] 3)).alloc (.cells #[.string s] 9)
    have hb2 := (((blk_new ((w.alloc (.cells #[.bool debug] 4)).alloc (.cells #[.int .i64 0, .int .i64 0, .int .i64 0] 40)) #[.slice none 0 0, .pointer none, .slice none 0 0, .nilFunc, .bool false, .int .i64 0, .int .i64 0] 88).alloc (.cells #[.int .i64 0, .int .i64 0, .int .i64 0] 40)).alloc (.cells #[.int .i64 0] 3)).alloc (.cells #[.string s] 9)
    have hb3 := ((blk_new (((w.alloc (.cells #[.bool debug] 4)).alloc (.cells #[.int .i64 0, .int .i64 0, .int .i64 0] 40)).alloc (.cells #[.slice none 0 0, .pointer none, .slice none 0 0, .nilFunc, .bool false, .int .i64 0, .int .i64 0] 88)) #[.int .i64 0, .int .i64 0, .int .i64 0] 40).alloc (.cells #[.int .i64 0] 3)).alloc (.cells #[.string s] 9)
    have hb4 := (blk_new ((((w.alloc (.cells #[.bool debug] 4)).alloc (.cells #[.int .i64 0, .int .i64 0, .int .i64 0] 40)).alloc (.cells #[.slice none 0 0, .pointer none, .slice none 0 0, .nilFunc, .bool false, .int .i64 0, .int .i64 0] 88)).alloc (.cells #[.int .i64 0, .int .i64 0, .int .i64 0] 40)) #[.int .i64 0] 3).alloc (.cells #[.string s] 9)
    simp only [World.size_alloc] at hb1 hb2 hb3 hb4
    rw [← hW0] at hb0 hb1 hb2 hb3 hb4
    exact ⟨⟨.ini, rfl, ⟨[], none, 0, .nilFunc, 0, 0, hb2, rfl, by simp, OutI.nil _ _⟩⟩, hb4, hb3, hb1, hb0, hbel, by omega⟩
  have hseq := lines_seq 9 _ s W0 (by omega) (by omega) hbox
  have HI0 := hide hI0
  clear hbox hI0
  rw [← hW0]

  refine (wpIn_wide (n := 10)).1 ?_
  refine wpIn_rangeFunc_C (n := 10) (F := Fence.wide) rfl (by omega) (gf := 66) (lb := #[.pointer (some ⟨w.heap.size + 1 + 1 + 1 + 1 + 1, 0, none⟩)]) rfl trivial (enters_of Tryd.func66 (by kernel_rfl) rfl)
    hseq (by omega) (Below.refl _ _) (fun _ => rfl) (ReadI w.heap.size w debug) (ReadX w.heap.size w debug) ?hI ?hIx ?hIb ?hIxb HI0.out (fun x => { tmps := #[.string s, .bool debug, undef, .pointer (some ⟨w.heap.size, 0, none⟩), .slice none 0 0, .pointer (some ⟨w.heap.size + 1, 0, none⟩), .pointer (some ⟨w.heap.size + 1 + 1, 0, none⟩), .pointer (some ⟨w.heap.size + 1 + 1 + 1, 0, none⟩), .pointer (some ⟨w.heap.size + 1 + 1 + 1 + 1, 0, none⟩), .string x, undef, .string s, .int .i64 s.size, .bool (decide (1048576 < (s.size : Int))), undef, .string s, .func (.func 66) #[] #[.pointer (some ⟨w.heap.size + 1 + 1 + 1 + 1 + 1, 0, none⟩)], .string x, undef, undef, undef, undef, undef, undef, undef, undef, undef, undef, undef, undef, undef, undef, undef, undef, undef, undef, undef, undef, undef, undef, undef, undef, undef, undef, undef, undef, undef, undef, undef, undef, undef], defers := [] }) ?assign ?body ?done ?stop
  case assign =>
    intro l x W K hK
    gi_wp2
    exact hK
  case hI =>
    intro pre W W' row h hg hr
    exact h.mods (Mods.of_grown hg) (fun j hj => by
      obtain ⟨h1, o, ho, hc⟩ := hr j hj
      exact ⟨by omega, .inr (fun o' ho' => by obtain rfl := Option.some.inj (ho.symm.trans ho'); exact rowy_cells hc)⟩)
  case hIx =>
    intro c pre W W' row h hg hr
    exact h.mods (Mods.of_grown hg) (fun j hj => by
      obtain ⟨h1, _⟩ := hr j hj
      omega)
  case hIb =>
    intro pre W W' h hg
    exact h.mods (Mods.of_grown hg) (fun j hj => by injection hj with hj; subst hj; exact ⟨Nat.le_refl _, .inl (by omega)⟩)
  case hIxb =>
    intro c pre W W' h hg
    exact h.mods (Mods.of_grown hg) (fun j hj => by injection hj with hj; subst hj; exact Nat.le_refl _)
  case body =>
    intro l pre x W hl hi hpre
    obtain ⟨st, hrun, hst⟩ := hi.st
    have hmem : x ∈ (chunks s.data.toList).map mk := hpre.subset (by simp)
    obtain ⟨c, hc, hcx⟩ := List.mem_map.1 hmem
    have hcl := chunks_mem _ _ hc
    have hxs : x.size ≤ 1048576 := by rw [← hcx, show (mk c).size = c.length by simp [mk, ByteArray.size]]; rw [len_data] at hcl; omega
    have hlen := hpre.length_le
    have hcln := chunks_length s.data.toList
    rw [List.length_append, List.length_map, List.length_singleton] at hlen
    rw [len_data] at hcln
    have hpl : pre.length ≤ 1048576 := by omega
    have hn0 : W.cell? ⟨w.heap.size + 1 + 1 + 1 + 1, 0, none⟩ = some (.int .i64 (pre.length : Int)) := hi.num.cell 0
    have hnf := hi.num.free 0
    have hsz6 := hi.siz
    have hlt4 := hi.num.lt
    have hwr : IntKind.i64.wrap ((pre.length : Int) + 1) = (pre.length : Int) + 1 := IntWalk.i64_in _ (by omega)
    have hts := hide (fun (w1 : World) => strip_strings x w1 (by omega))
    have HWF : Hid (∃ n, n ≤ 70000 ∧ st.Wf n) := by
      refine ⟨_, Nat.le_trans ?_ hcnt, (runL_wf debug _ .ini st 0 0 ⟨fun _ => rfl, by simp [RSt.ini]⟩ hrun)⟩
      rw [Nat.zero_add]
      have hp1 : (pre ++ [x]).map (fun x => stripL x.data.toList) <+: (chunks s.data.toList).map stripL := by
        have := hpre.map (fun x : ByteArray => stripL x.data.toList)
        rwa [List.map_map, show ((fun x : ByteArray => stripL x.data.toList) ∘ mk) = stripL from rfl] at this
      refine filter_prefix_le _ (List.IsPrefix.trans ?_ hp1)
      rw [List.map_append]
      exact List.prefix_append _ _
    have HST := hide hst
    have HRUN := hide hrun
    have HI := hide hi
    have HPRE := hide hpre
    clear hst hrun hi hpre hmem hc hcx hcl hlen hcln hcnt HI0 hseq hbel hs hW0
    gi_wp2
    have hmo : Tryd.prog.follows .mixedOrders = true := by kernel_rfl
    have hfn : Fence.wide.fn 45 := trivial
    gi_cut [10] from 18 (fun s10 wc => s10 = .pointer (some ⟨W.heap.size, 0, none⟩) ∧ wc = ((W.setCell ⟨w.heap.size + 1 + 1 + 1 + 1, 0, none⟩ (.int .i64 ((pre.length : Int) + 1))).alloc (.cells #[.int .i64 ((pre.length : Int) + 1), .string (mk (stripL x.data.toList))] 93)).drew)
    case first =>
      gi_region_with_o (gi_at_call 45; refine (CallsIn.inRound l (callsIn_wide.2 (hts.out _))).mono ?_; rintro e w1 ⟨rfl, rfl⟩)
      all_goals gi_wp2
      all_goals go_meet
      all_goals exact ⟨rfl, rfl⟩
    obtain ⟨rfl, hwc⟩ := hcut
    have hmid : Mid w.heap.size debug st pre.length W.heap.size (mk (stripL x.data.toList)) (0, 0, 0) W wc := by rw [hwc]; exact Mid.start HI.out HST.out _
    clear hwc hn0 hnf hwr hlt4
    have b0 : wc.cell? ⟨W.heap.size, 0, none⟩ = some (.int .i64 ((pre.length : Int) + 1)) := hmid.row.cell 0
    have b1 : wc.cell? ⟨W.heap.size, 1, none⟩ = some (.string (mk (stripL x.data.toList))) := hmid.row.cell 1
    obtain ⟨t, ht⟩ : ∃ t, t = mk (stripL x.data.toList) := ⟨_, rfl⟩
    rw [← ht] at hmid b1
    have htl : t.size ≤ 1048576 := by rw [ht]; show (mk (stripL x.data.toList)).size ≤ _; have := strip_len x.data.toList; rw [len_data] at this; rw [show (mk (stripL x.data.toList)).size = (stripL x.data.toList).length by simp [mk, ByteArray.size]]; omega
    have htd : t.data.toList = stripL x.data.toList := by rw [ht]; simp [mk]
    clear hts
    have hck : ∀ w1, Calls Tryd.prog 46 #[.agg #[.int .i64 ((pre.length : Int) + 1), .string t]] w1 fun e w' => e = .returned (fault (chkL ((pre.length : Int) + 1) t.data.toList)) ∧ Below w1.heap.size w1 w' := fun w1 => check_c ((pre.length : Int) + 1) t w1 (by omega)
    obtain ⟨f, hfe⟩ : ∃ f, f = chkL ((pre.length : Int) + 1) t.data.toList := ⟨_, rfl⟩
    rw [← hfe] at hck
    have hf0 : f = (0, 0, 0) ∨ (f.1 == 0) = false := by
      rw [hfe]; unfold chkL
      split
      · right; rfl
      · split
        · right; rfl
        · split
          · left; rfl
          · right; rfl
    obtain ⟨f1, f2, f3⟩ := f
    have HCK : Hid (∀ w1, Calls Tryd.prog 46 #[.agg #[.int .i64 ((pre.length : Int) + 1), .string t]] w1 fun e w' => e = .returned (.agg #[.int .i64 f1, .int .i64 f2, .int .i64 f3]) ∧ Below w1.heap.size w1 w') := hck
    clear hck
    have hstep := run_step debug pre x st HRUN.out
    rw [← htd] at hstep
    have HMID := hide hmid
    clear hmid ht
    rcases hf0 with hf0 | hf0
    · obtain ⟨rfl, rfl, rfl⟩ : f1 = 0 ∧ f2 = 0 ∧ f3 = 0 := by simpa using hf0
      have HSTEP : Hid (runL debug .ini 0 ((pre ++ [x]).map fun x => stripL x.data.toList) = if countsL debug t.data.toList then takeL st ((pre.length : Int) + 1) t.data.toList else .ok st) := by
        unfold Hid; rw [hstep, stepL, if_pos hfe.symm]
      clear hstep hfe hf0
      gi_wp2
      refine ⟨trivial, CallsIn.inRound l (callsIn_wide.2 ((HCK.out _).mono ?_))⟩
      rintro e w1 ⟨rfl, hb1⟩
      have hm1 := HMID.out.mods hb1
      have k0 := hm1.flt.cell 0
      have k1 := hm1.flt.cell 1
      have k2 := hm1.flt.cell 2
      have q0 := hm1.flt.free 0
      have q1 := hm1.flt.free 1
      have q2 := hm1.flt.free 2
      have hm2 := hm1.setF 0 0 0
      have r0 := hm2.row.cell 0
      have r1 := hm2.row.cell 1
      have d0 := hm2.dbg.cell 0
      have HM2 := hide hm2
      clear hm1 hb1 hm2
      have HIG := hide (fun (w1 : World) => ignored_c ((pre.length : Int) + 1) t debug w1 (by omega))
      gi_wp2
      refine ⟨trivial, CallsIn.inRound l (callsIn_wide.2 ((HIG.out _).mono ?_))⟩
      rintro e w2 ⟨rfl, hb2⟩
      have HM3 := hide (HM2.out.mods hb2)
      clear b0 b1 k0 k1 k2 q0 q1 q2 r0 r1 d0
      cases hcn : countsL debug t.data.toList
      · rw [hcn] at HSTEP
        have hrun2 : runL debug .ini 0 ((pre ++ [x]).map fun x => stripL x.data.toList) = .ok st := HSTEP.out
        gi_wp2
        exact HM3.out.go HI.out.bel (by omega) hrun2
      · rw [hcn] at HSTEP
        have r0 := HM3.out.row.cell 0
        have r1 := HM3.out.row.cell 1
        have hft := counts_first debug _ hcn
        have hwf : Hid (∃ n, n ≤ 70000 ∧ st.Wf n) := HWF
        cases htk : takeL st ((pre.length : Int) + 1) t.data.toList with
        | error f =>
          have hrun2 : Hid (runL debug .ini 0 ((pre ++ [x]).map fun x => stripL x.data.toList) = .error f) := HSTEP.out.trans (by rw [htk]; rfl)
          have hf0 := takeL_err _ _ _ _ htk
          obtain ⟨f1, f2, f3⟩ := f
          have hrd : Hid (∀ w1, StAt (w.heap.size + 1 + 1 + 1 + 1 + 1 + 1) (w.heap.size + 1 + 1) w1 st → Calls Tryd.prog 48 #[.pointer (some ⟨w.heap.size + 1 + 1, 0, none⟩), .agg #[.int .i64 ((pre.length : Int) + 1), .string t]] w1 fun e w' => e = .returned (.agg #[.int .i64 f1, .int .i64 f2, .int .i64 f3]) ∧ Below w1.heap.size w1 w') :=
            fun w1 hst1 => take_fault (w.heap.size + 1 + 1 + 1 + 1 + 1 + 1) (w.heap.size + 1 + 1) w1 st ((pre.length : Int) + 1) t (f1, f2, f3) (by omega) hft hst1 htk
          have hf1 : (f1 == 0) = false := hf0
          clear htk hft hf0 hwf HSTEP
          gi_wp2
          refine ⟨trivial, CallsIn.inRound l (callsIn_wide.2 ((hrd.out _ HM3.out.st).mono ?_))⟩
          rintro e w3 ⟨rfl, hb3⟩
          have hm4 := HM3.out.mods hb3
          have k0 := hm4.flt.cell 0
          have k1 := hm4.flt.cell 1
          have k2 := hm4.flt.cell 2
          have q0 := hm4.flt.free 0
          have q1 := hm4.flt.free 1
          have q2 := hm4.flt.free 2
          have HM5 := hide (hm4.setF f1 f2 f3)
          clear hm4 hb3 r0 r1
          gi_wp2
          exact HM5.out.stop HI.out.bel (by omega) hrun2.out hf1
        | ok st' =>
          have hrun2 : Hid (runL debug .ini 0 ((pre ++ [x]).map fun x => stripL x.data.toList) = .ok st') := HSTEP.out.trans (by rw [htk]; rfl)
          obtain ⟨nn, hnn, hwf1⟩ := hwf.out
          have hrd : Hid (∀ w1, StAt (w.heap.size + 1 + 1 + 1 + 1 + 1 + 1) (w.heap.size + 1 + 1) w1 st → w.heap.size + 1 + 1 + 1 + 1 + 1 + 1 ≤ w1.heap.size → Calls Tryd.prog 48 #[.pointer (some ⟨w.heap.size + 1 + 1, 0, none⟩), .agg #[.int .i64 ((pre.length : Int) + 1), .string t]] w1 fun e w' => e = .returned (.agg #[.int .i64 0, .int .i64 0, .int .i64 0]) ∧ StAt (w.heap.size + 1 + 1 + 1 + 1 + 1 + 1) (w.heap.size + 1 + 1) w' st' ∧ FrR (w.heap.size + 1 + 1 + 1 + 1 + 1 + 1) (w.heap.size + 1 + 1) w1 w') :=
            fun w1 hst1 hw1 => take_ok (w.heap.size + 1 + 1 + 1 + 1 + 1 + 1) (w.heap.size + 1 + 1) w1 st st' nn ((pre.length : Int) + 1) t (by omega) hft hst1 hwf1 hnn (by omega) hw1 htk
          clear htk hft hwf HSTEP hwf1
          gi_wp2
          refine ⟨trivial, CallsIn.inRound l (callsIn_wide.2 ((hrd.out _ HM3.out.st (Nat.le_trans HM3.out.siz HM3.out.rnd.size)).mono ?_))⟩
          rintro e w3 ⟨rfl, hst3, hfr3⟩
          have hm4 := HM3.out.read hfr3 hst3
          have k0 := hm4.flt.cell 0
          have k1 := hm4.flt.cell 1
          have k2 := hm4.flt.cell 2
          have q0 := hm4.flt.free 0
          have q1 := hm4.flt.free 1
          have q2 := hm4.flt.free 2
          have HM5 := hide (hm4.setF 0 0 0)
          clear hm4 hst3 hfr3 r0 r1
          gi_wp2
          exact HM5.out.go HI.out.bel (by omega) hrun2.out
    · have hf1 : (f1 == 0) = false := hf0
      have hrun2 : Hid (runL debug .ini 0 ((pre ++ [x]).map fun x => stripL x.data.toList) = .error (f1, f2, f3)) := by
        unfold Hid; rw [hstep, stepL, if_neg (by rw [← hfe]; intro e; rw [Prod.mk.injEq] at e; rw [e.1] at hf1; cases hf1), hfe]
      clear hf0 hstep hfe
      gi_wp2
      refine ⟨trivial, CallsIn.inRound l (callsIn_wide.2 ((HCK.out _).mono ?_))⟩
      rintro e w1 ⟨rfl, hb1⟩
      have hm1 := HMID.out.mods hb1
      have k0 := hm1.flt.cell 0
      have k1 := hm1.flt.cell 1
      have k2 := hm1.flt.cell 2
      have q0 := hm1.flt.free 0
      have q1 := hm1.flt.free 1
      have q2 := hm1.flt.free 2
      have HM2 := hide (hm1.setF f1 f2 f3)
      clear hm1 hb1
      gi_wp2
      exact HM2.out.stop HI.out.bel (by omega) hrun2.out hf1
  case done =>
    intro D W hD hi hDK
    obtain ⟨st, hrun, hst⟩ := hi.st
    have hmm : ((chunks s.data.toList).map mk).map (fun x => stripL x.data.toList) = (chunks s.data.toList).map stripL := by
      rw [List.map_map, show ((fun x : ByteArray => stripL x.data.toList) ∘ mk) = stripL from rfl]
    rw [hmm] at hrun
    have hwf := runL_wf debug _ .ini st 0 0 ⟨fun _ => rfl, by simp [RSt.ini]⟩ hrun
    rw [Nat.zero_add] at hwf
    have hwf := hwf.le hcnt
    have hRL : readL debug s.data.toList = endL' st := by unfold readL; rw [hrun]
    have hsz6 := hi.siz
    have hfl := hi.flt
    have hrs := hi.res
    have hcase : (∃ f2 f3, readL debug s.data.toList = .error (4, f2, f3) ∧ Calls Tryd.prog 49 #[.pointer (some ⟨w.heap.size + 1 + 1, 0, none⟩)] W (fun e w' => e = .returned (.agg #[.int .i64 4, .int .i64 f2, .int .i64 f3]) ∧ Below W.heap.size W w')) ∨
        (∃ all, all.length ≤ 70000 ∧ readL debug s.data.toList = .ok all ∧ Calls Tryd.prog 49 #[.pointer (some ⟨w.heap.size + 1 + 1, 0, none⟩)] W (fun e w' => e = .returned (.agg #[.int .i64 0, .int .i64 0, .int .i64 0]) ∧ RFin (w.heap.size + 1 + 1 + 1 + 1 + 1 + 1) (w.heap.size + 1 + 1) w' all ∧ FrR (w.heap.size + 1 + 1 + 1 + 1 + 1 + 1) (w.heap.size + 1 + 1) W w')) := by
      unfold StAt at hst
      unfold endL' at hRL
      cases hc : st.cur with
      | none =>
        rw [hc] at hst hRL
        exact .inr ⟨[], by simp, hRL, (finish_none _ _ W hst).mono fun _ _ h => ⟨h.1, h.2.1, FrR.below (FrR.refl _ _ _) h.2.2⟩⟩
      | some c =>
        rw [hc] at hst hRL
        obtain ⟨h1, h2, h3, h4⟩ := hwf.2 c hc
        simp only at hst hRL
        split at hRL
        · rename_i hop
          exact .inl ⟨st.ln, st.co, hRL, (finish_open _ _ W _ c _ _ hst hop).mono fun _ _ h => h⟩
        · rename_i hop
          exact .inr ⟨st.pre ++ [c], by simp; omega, hRL, finish_cur _ _ W _ c _ _ hst (by simpa using hop) h1 (by omega) (by omega) (by omega) (by omega)⟩
    have k0 := hfl.cell 0
    have k1 := hfl.cell 1
    have k2 := hfl.cell 2
    have HI := hide hi
    have HDK := hide hDK
    have HFL := hide hfl
    have HRS := hide hrs
    have hmP : ∀ W1 : World, Mods (· = D) W1 (W1.putObj D (.deferred none)) := fun W1 => (Mods.of_grown (grownBy_putObj' W1 D (.deferred none))).weak (fun i _ e => by injection e with e; exact e.symm)
    clear hi hDK hfl hrs hrun hst hmm hwf hRL hcnt hW0 HI0 hseq
    rcases hcase with ⟨f2, f3, hR, hfin⟩ | ⟨all, hal, hR, hfin⟩
    · have HR := hide hR
      have HFIN := hide hfin
      clear hR hfin
      gi_wp2
      go_wp2_with fail
      refine HFIN.out.mono ?_
      rintro e w1 ⟨rfl, hb1⟩
      have hfl1 := HFL.out.mods (Mods.of_below hb1) id
      have hrs1 := HRS.out.mods (Mods.of_below hb1) id
      have q0 := hfl1.free 0
      have q1 := hfl1.free 1
      have q2 := hfl1.free 2
      have l0 := hfl1.cell 0
      have l1 := hfl1.cell 1
      have l2 := hfl1.cell 2
      have hm2 : Mods (· = w.heap.size + 1 + 1 + 1) w1 (((w1.setCell ⟨w.heap.size + 1 + 1 + 1, 0, none⟩ (.int .i64 4)).setCell ⟨w.heap.size + 1 + 1 + 1, 1, none⟩ (.int .i64 f2)).setCell ⟨w.heap.size + 1 + 1 + 1, 2, none⟩ (.int .i64 f3)) :=
        (((Mods.refl (· = w.heap.size + 1 + 1 + 1) w1).set _ _ _ (fun _ => rfl)).set _ _ _ (fun _ => rfl)).set _ _ _ (fun _ => rfl)
      have hrs2 := hrs1.mods hm2 (by omega)
      have r0 := hrs1.cell 0
      have r1 := hrs1.cell 1
      have r2 := hrs1.cell 2
      have p0 := hrs1.free 0
      have p1 := hrs1.free 1
      have p2 := hrs1.free 2
      have HB1 := hide hb1
      have HRS2 := hide hrs2
      have HM2 := hide hm2
      clear hfl1 hrs1 hb1 hrs2 hm2
      go_wp2_with fail
      go_region
      go_wp2_with fail
      have hmS : Mods (fun k => k = w.heap.size + 1 + 1 + 1 ∨ k = w.heap.size + 1) w1 ((((((w1.setCell ⟨w.heap.size + 1 + 1 + 1, 0, none⟩ (.int .i64 4)).setCell ⟨w.heap.size + 1 + 1 + 1, 1, none⟩ (.int .i64 f2)).setCell ⟨w.heap.size + 1 + 1 + 1, 2, none⟩ (.int .i64 f3)).setCell ⟨w.heap.size + 1, 0, none⟩ (.int .i64 4)).setCell ⟨w.heap.size + 1, 1, none⟩ (.int .i64 f2)).setCell ⟨w.heap.size + 1, 2, none⟩ (.int .i64 f3)).drew :=
        Mods.drew (((Mods.refl (fun k => k = w.heap.size + 1 + 1 + 1 ∨ k = w.heap.size + 1) w1).set3 (w.heap.size + 1 + 1 + 1) (.int .i64 4) (.int .i64 f2) (.int .i64 f3) (.inl rfl)).set3 (w.heap.size + 1) (.int .i64 4) (.int .i64 f2) (.int .i64 f3) (.inr rfl))
      have hDl := lt_of_block HDK.out
      have hs1 := HB1.out.size
      have hK2 := (hmS.block D (by omega) (by omega)).trans ((HB1.out.block D hDl).trans HDK.out)
      refine ⟨by simp, .inl ⟨_, _, rfl, run_takeDeferred hK2, ?_⟩⟩
      have hb := ((HRS2.out.set 0 (.int .i64 4)).set 1 (.int .i64 f2)).set 2 (.int .i64 f3)
      have hb2 : Blk _ _ _ _ := Blk.mods (Blk.drew hb) (hmP _) (by omega)
      have z0 := hb2.cell 0
      have z1 := hb2.cell 1
      have z2 := hb2.cell 2
      refine ⟨.tuple #[.slice none 0 0, .agg #[.int .i64 4, .int .i64 f2, .int .i64 f3]], by simp [results, Tryd.results28, go_sem, z0, z1, z2], ?_⟩
      rw [HR.out]
      have h1 := hmS.size
      refine ⟨rfl, ((HI.out.bel.trans (HB1.out.mono (by omega))).trans (Mods.toBelow hmS (by omega) (by rintro i hi e; omega))).trans (Mods.toBelow (hmP _) (by omega) (by rintro i hi e; omega))⟩
    · have HR := hide hR
      have HFIN := hide hfin
      clear hR hfin
      gi_wp2
      go_wp2_with fail
      refine HFIN.out.mono ?_
      rintro e w1 ⟨rfl, hrf, hfr⟩
      obtain ⟨cs, A, cap, fv, ln, co, hbr, hcs, htt, hout⟩ := hrf
      have hfl1 := FrR.low HFL.out hfr (by omega) (by omega)
      have hrs1 := FrR.low HRS.out hfr (by omega) (by omega)
      have q0 := hfl1.free 0
      have q1 := hfl1.free 1
      have q2 := hfl1.free 2
      have l0 := hfl1.cell 0
      have l1 := hfl1.cell 1
      have l2 := hfl1.cell 2
      have c0 := hbr.cell 0
      have r0 := hrs1.cell 0
      have r1 := hrs1.cell 1
      have r2 := hrs1.cell 2
      have p0 := hrs1.free 0
      have p1 := hrs1.free 1
      have p2 := hrs1.free 2
      have hcl : cs.length ≤ 70000 := by have := congrArg List.length hcs; rw [List.length_map] at this; omega
      have hcap := (own_cap hout.own).2
      have HFR := hide hfr
      have HOUT := hide hout
      have HRS1 := hide hrs1
      have HTT := hide htt
      clear hfl1 hrs1 hfr hout hbr htt
      go_wp2_with fail
      refine (clipC_c A cs.length cap _ (by omega) hcap).mono ?_
      rintro e w2 ⟨rfl, rfl⟩
      go_wp2_with fail
      have hmS : Mods (fun k => k = w.heap.size + 1 + 1 + 1 ∨ k = w.heap.size + 1) w1 ((((((w1.setCell ⟨w.heap.size + 1 + 1 + 1, 0, none⟩ (.int .i64 0)).setCell ⟨w.heap.size + 1 + 1 + 1, 1, none⟩ (.int .i64 0)).setCell ⟨w.heap.size + 1 + 1 + 1, 2, none⟩ (.int .i64 0)).setCell ⟨w.heap.size + 1, 0, none⟩ (.int .i64 0)).setCell ⟨w.heap.size + 1, 1, none⟩ (.int .i64 0)).setCell ⟨w.heap.size + 1, 2, none⟩ (.int .i64 0)) :=
        ((Mods.refl (fun k => k = w.heap.size + 1 + 1 + 1 ∨ k = w.heap.size + 1) w1).set3 (w.heap.size + 1 + 1 + 1) (.int .i64 0) (.int .i64 0) (.int .i64 0) (.inl rfl)).set3 (w.heap.size + 1) (.int .i64 0) (.int .i64 0) (.int .i64 0) (.inr rfl)
      have hDl := lt_of_block HDK.out
      have hs1 := HFR.out.size
      have hK2 := (hmS.block D (by omega) (by omega)).trans ((HFR.out.block D hDl (by
        rintro (e | ⟨_, o, ho, hr⟩)
        · omega
        · obtain rfl := Option.some.inj (HDK.out.symm.trans ho)
          cases hr)).trans HDK.out)
      refine ⟨by simp, .inl ⟨_, _, rfl, run_takeDeferred hK2, ?_⟩⟩
      have hm1 : Mods (· = w.heap.size + 1 + 1 + 1) w1 (((w1.setCell ⟨w.heap.size + 1 + 1 + 1, 0, none⟩ (.int .i64 0)).setCell ⟨w.heap.size + 1 + 1 + 1, 1, none⟩ (.int .i64 0)).setCell ⟨w.heap.size + 1 + 1 + 1, 2, none⟩ (.int .i64 0)) :=
        (((Mods.refl (· = w.heap.size + 1 + 1 + 1) w1).set _ _ _ (fun _ => rfl)).set _ _ _ (fun _ => rfl)).set _ _ _ (fun _ => rfl)
      have hb := (((HRS1.out.mods hm1 (by omega)).set 0 (.int .i64 0)).set 1 (.int .i64 0)).set 2 (.int .i64 0)
      have hb2 : Blk _ _ _ _ := Blk.mods hb (hmP _) (by omega)
      have z0 := hb2.cell 0
      have z1 := hb2.cell 1
      have z2 := hb2.cell 2
      have ho2 := HOUT.out.other hmS (fun k o hk ho hB => by omega)
      have ho3 := ho2.other (hmP _) (fun k o hk ho hB => by
        subst hk
        obtain rfl := Option.some.inj (hK2.symm.trans ho)
        exact ⟨by decide, by decide⟩)
      refine ⟨.tuple #[.slice A cs.length cs.length, .agg #[.int .i64 0, .int .i64 0, .int .i64 0]], by simp [results, Tryd.results28, go_sem, z0, z1, z2], ?_⟩
      rw [HR.out, ← hcs]
      have h1 := hmS.size
      refine ⟨A, by rw [List.length_map]; rfl, ho3.cards, ho3.tight HTT.out, ((HI.out.bel.trans (HFR.out.toBelow (by omega) _ (by omega) (by omega))).trans (Mods.toBelow hmS (by omega) (by rintro i hi e; omega))).trans (Mods.toBelow (hmP _) (by omega) (by rintro i hi e; omega))⟩
  case stop =>
    intro D c pre W hD hpre hx hDK
    obtain ⟨⟨f1, f2, f3⟩, hrun, hf0, hflt⟩ := hx.flt
    have hf1 : (f1 == 0) = false := hf0
    have hres := hx.res
    have hR : Hid (readL debug s.data.toList = .error (f1, f2, f3)) := by
      have hp1 : pre.map (fun x => stripL x.data.toList) <+: (chunks s.data.toList).map stripL := by
        have := hpre.map (fun x : ByteArray => stripL x.data.toList)
        rwa [List.map_map, show ((fun x : ByteArray => stripL x.data.toList) ∘ mk) = stripL from rfl] at this
      obtain ⟨r, hr⟩ := hp1
      unfold Hid readL
      rw [← hr, runL_error debug _ r _ _ _ hrun]
    obtain rfl := hx.jump
    have k0 := hflt.cell 0
    have k1 := hflt.cell 1
    have k2 := hflt.cell 2
    have r0 := hres.cell 0
    have r1 := hres.cell 1
    have r2 := hres.cell 2
    have q0 := hres.free 0
    have q1 := hres.free 1
    have q2 := hres.free 2
    have HX := hide hx
    have HDK := hide hDK
    have HRES := hide hres
    clear hx hDK hpre hrun hf0 hflt hres hcnt hW0 HI0 hseq
    gi_wp2
    go_wp2_with fail
    go_region
    go_wp2_with fail
    have hmS : Mods (· = w.heap.size + 1) W (((W.setCell ⟨w.heap.size + 1, 0, none⟩ (.int .i64 f1)).setCell ⟨w.heap.size + 1, 1, none⟩ (.int .i64 f2)).setCell ⟨w.heap.size + 1, 2, none⟩ (.int .i64 f3)).drew :=
      Mods.drew ((((Mods.refl (· = w.heap.size + 1) W).set _ _ _ (fun _ => rfl)).set _ _ _ (fun _ => rfl)).set _ _ _ (fun _ => rfl))
    have hDl := lt_of_block HDK.out
    have hK2 := (hmS.block D hDl (by omega)).trans HDK.out
    refine ⟨by simp, .inl ⟨_, _, rfl, run_takeDeferred hK2, ?_⟩⟩
    have hb := ((HRES.out.set 0 (.int .i64 f1)).set 1 (.int .i64 f2)).set 2 (.int .i64 f3)
    have hmP : ∀ W1 : World, Mods (· = D) W1 (W1.putObj D (.deferred none)) := fun W1 => (Mods.of_grown (grownBy_putObj' W1 D (.deferred none))).weak (fun i _ e => by injection e with e; exact e.symm)
    have hb2 : Blk _ _ _ _ := Blk.mods (Blk.drew hb) (hmP _) (by omega)
    have z0 := hb2.cell 0
    have z1 := hb2.cell 1
    have z2 := hb2.cell 2
    refine ⟨.tuple #[.slice none 0 0, .agg #[.int .i64 f1, .int .i64 f2, .int .i64 f3]], by simp [results, Tryd.results28, go_sem, z0, z1, z2], ?_⟩
    rw [hR.out]
    refine ⟨rfl, (HX.out.bel.trans (Mods.toBelow hmS (by have := HX.out.siz; omega) (by rintro i hi e; omega))).trans (Mods.toBelow (hmP _) ?_ (by rintro i hi e; omega))⟩
    have h1 := hmS.size
    have h2 := HX.out.siz
    omega
end Go.Proofs.YteceealibfemjaaDoor
