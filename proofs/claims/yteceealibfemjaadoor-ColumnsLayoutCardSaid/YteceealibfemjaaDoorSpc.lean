/-
  WHAT READ DOES, LINE BY LINE (layer 2, columns): a machine over lists of bytes; what the world holds of its state; the contract of one line.
-/
import Derived.Test.YteceealibfemjaaDoorRed
import Derived.Test.YteceealibfemjaaDoorLin
namespace Go.Proofs.YteceealibfemjaaDoor
open Go.RowKit

abbrev FaultL := Int × Int × Int
/-- finished cards, the card that may be continued, where its last part begins -/
structure RSt where
  pre : List CardL
  cur : Option CardL
  ln : Int
  co : Int
def RSt.ini : RSt := ⟨[], none, 0, 0⟩
/-- a line that counts -/
def takeL (st : RSt) (line : Int) (l : List UInt8) : Except FaultL RSt :=
  let k := firstN (textOf l)
  match st.cur with
  | none => if contL l then .error (6, line, 7) else .ok ⟨[], some (addC ⟨decide (k < 4), [], []⟩ (tailL ((textOf l).drop k) []) line ((k : Int) + 8)), line, (k : Int) + 8⟩
  | some c =>
    if contL l then
      if k < 4 ∨ (openL c.text = true ∧ (textOf l).getD k 0 ≠ 34) then .error (4, line, (k : Int) + 8)
      else if openL c.text then .ok ⟨st.pre, some (addC c (tailL ((textOf l).drop (k + 1)) c.text) line (((k + 1 : Nat) : Int) + 8)), line, ((k + 1 : Nat) : Int) + 8⟩
      else .ok ⟨st.pre, some (addC c (tailL ((textOf l).drop k) c.text) line ((k : Int) + 8)), line, (k : Int) + 8⟩
    else if openL c.text then .error (4, st.ln, st.co)
    else .ok ⟨st.pre ++ [c], some (addC ⟨decide (k < 4), [], []⟩ (tailL ((textOf l).drop k) []) line ((k : Int) + 8)), line, (k : Int) + 8⟩
/-- a line -/
def stepL (debug : Bool) (st : RSt) (line : Int) (l : List UInt8) : Except FaultL RSt :=
  if chkL line l = (0, 0, 0) then (if countsL debug l then takeL st line l else .ok st) else .error (chkL line l)
/-- lines, from a number on -/
def runL (debug : Bool) : RSt → Nat → List (List UInt8) → Except FaultL RSt
  | st, _, [] => .ok st
  | st, n, l :: r => match stepL debug st ((n + 1 : Nat) : Int) l with
    | .error f => .error f
    | .ok st' => runL debug st' (n + 1) r
theorem runL_snoc (debug : Bool) (ls : List (List UInt8)) (l : List UInt8) (st : RSt) (n : Nat) :
    runL debug st n (ls ++ [l]) = match runL debug st n ls with
      | .error f => .error f
      | .ok st' => stepL debug st' ((n + ls.length + 1 : Nat) : Int) l := by
  induction ls generalizing st n with
  | nil =>
    simp only [List.nil_append, runL, List.length_nil, Nat.add_zero]
    cases stepL debug st ((n + 1 : Nat) : Int) l <;> rfl
  | cons a r ih =>
    simp only [List.cons_append, runL]
    cases stepL debug st ((n + 1 : Nat) : Int) a with
    | error f => rfl
    | ok st' => simp only [ih, List.length_cons]; rw [show n + 1 + r.length + 1 = n + (r.length + 1) + 1 by omega]
/-- a chunk without its byte 10 -/
def stripL (c : List UInt8) : List UInt8 := Lib.trimSuffix c [10]
/-- what is returned at the end -/
def endL' (st : RSt) : Except FaultL (List CardL) := match st.cur with
  | none => .ok []
  | some c => if openL c.text then .error (4, st.ln, st.co) else .ok (st.pre ++ [c])
/-- Read -/
def readL (debug : Bool) (l : List UInt8) : Except FaultL (List CardL) := match runL debug .ini 0 ((chunks l).map stripL) with
  | .error f => .error f
  | .ok st => endL' st

/-- what a state can be behind n lines that counted -/
def RSt.Wf (st : RSt) (n : Nat) : Prop := (st.cur = none → st.pre = []) ∧ (∀ c, st.cur = some c → c.text ≠ [] ∧ c.text.length ≤ 65 * n ∧ c.marks.length ≤ n ∧ st.pre.length + 1 ≤ n)
/-- the state in memory -/
def StAt (B br : Nat) (w : World) (st : RSt) : Prop := match st.cur with
  | none => RFin B br w []
  | some c => RCur B br w st.pre c st.ln st.co

theorem tailL_length (r t : List UInt8) : (tailL r t).length ≤ r.length := by
  unfold tailL
  split
  · exact Nat.le_refl _
  · obtain ⟨n, hn⟩ := endL_split r
    have := congrArg List.length hn
    rw [List.length_append] at this; omega
theorem addC_sizes (c : CardL) (p : List UInt8) (line col : Int) : (addC c p line col).text = c.text ++ p ∧ (addC c p line col).marks.length ≤ c.marks.length + 1 := by
  unfold addC
  refine ⟨rfl, ?_⟩
  split
  · simp
  · simp
theorem endL_head (c : UInt8) (r : List UInt8) (h : c ≠ 32) : endL (c :: r) ≠ [] := by
  obtain ⟨n, hn⟩ := endL_split (c :: r)
  intro e
  rw [e, List.nil_append] at hn
  cases n with
  | zero => simp at hn
  | succ n => rw [List.replicate_succ] at hn; injection hn with h1 _; exact h h1
theorem tail_first (l t : List UInt8) (h : firstN (textOf l) < 65) : tailL ((textOf l).drop (firstN (textOf l))) t ≠ [] := by
  have hl := textOf_length l
  have hne := firstN_ne (textOf l) _ (by rw [hl]; exact h) rfl
  have hlt : firstN (textOf l) < (textOf l).length := by rw [hl]; exact h
  rw [List.getD_eq_getElem?_getD, List.getElem?_eq_getElem hlt, Option.getD_some] at hne
  rw [List.drop_eq_getElem_cons hlt]
  unfold tailL
  split
  · exact List.cons_ne_nil _ _
  · exact endL_head _ _ hne
theorem takeL_wf (st st' : RSt) (n : Nat) (line : Int) (l : List UInt8) (hw : st.Wf n) (hf : firstN (textOf l) < 65) (h : takeL st line l = .ok st') : st'.Wf (n + 1) := by
  have hl := textOf_length l
  have h65 : ∀ (j : Nat) (t : List UInt8), (tailL ((textOf l).drop j) t).length ≤ 65 := fun j t => by have := tailL_length ((textOf l).drop j) t; rw [List.length_drop, hl] at this; omega
  have hne := tail_first l [] hf
  unfold takeL at h
  cases hc : st.cur with
  | none =>
    rw [hc] at h
    simp only at h
    split at h
    · cases h
    · injection h with h; subst h
      refine ⟨by simp, fun c hc' => ?_⟩
      injection hc' with hc'; subst hc'
      have h1 := (addC_sizes ⟨decide (firstN (textOf l) < 4), [], []⟩ (tailL ((textOf l).drop (firstN (textOf l))) []) line ((firstN (textOf l) : Int) + 8))
      refine ⟨by rw [h1.1]; simpa using hne, by rw [h1.1]; have := h65 (firstN (textOf l)) []; simp; omega, by have := h1.2; simp at this; omega, by simp⟩
  | some c =>
    obtain ⟨ha, hb, hm, hp⟩ := hw.2 c hc
    rw [hc] at h
    simp only at h
    split at h
    · split at h
      · cases h
      · split at h
        · injection h with h; subst h
          refine ⟨by simp, fun c' hc' => ?_⟩
          injection hc' with hc'; subst hc'
          have h1 := addC_sizes c (tailL ((textOf l).drop (firstN (textOf l) + 1)) c.text) line (((firstN (textOf l) + 1 : Nat) : Int) + 8)
          refine ⟨by rw [h1.1]; simp [ha], by rw [h1.1, List.length_append]; have := h65 (firstN (textOf l) + 1) c.text; omega, by have := h1.2; omega, by show st.pre.length + 1 ≤ n + 1; omega⟩
        · injection h with h; subst h
          refine ⟨by simp, fun c' hc' => ?_⟩
          injection hc' with hc'; subst hc'
          have h1 := addC_sizes c (tailL ((textOf l).drop (firstN (textOf l))) c.text) line ((firstN (textOf l) : Int) + 8)
          refine ⟨by rw [h1.1]; simp [ha], by rw [h1.1, List.length_append]; have := h65 (firstN (textOf l)) c.text; omega, by have := h1.2; omega, by show st.pre.length + 1 ≤ n + 1; omega⟩
    · split at h
      · cases h
      · injection h with h; subst h
        refine ⟨by simp, fun c' hc' => ?_⟩
        injection hc' with hc'; subst hc'
        have h1 := (addC_sizes ⟨decide (firstN (textOf l) < 4), [], []⟩ (tailL ((textOf l).drop (firstN (textOf l))) []) line ((firstN (textOf l) : Int) + 8))
        refine ⟨by rw [h1.1]; simpa using hne, by rw [h1.1]; have := h65 (firstN (textOf l)) []; simp; omega, by have := h1.2; simp at this; omega, by simp; omega⟩

theorem finish_fr {B br : Nat} {w : World} (h : RFin B br w []) (o : Obj) :
    Calls Tryd.prog 49 #[.pointer (some ⟨br, 0, none⟩)] ((w.alloc o).alloc fz) fun e w' => e = .returned (fault (0, 0, 0)) ∧ RFin B br w' [] ∧ FrR B br ((w.alloc o).alloc fz) w' :=
  (finish_none B br _ (h.below (below2 w o fz))).mono fun _ _ h' => ⟨h'.1, h'.2.1, FrR.below (FrR.refl _ _ _) h'.2.2⟩
/-- read of a line that counts, where it is a fault -/
theorem take_fault (B br : Nat) (w : World) (st : RSt) (line : Int) (s : ByteArray) (f : FaultL) (hs : s.size ≤ 2000000) (hf : firstN (textOf s.data.toList) < 65) (hst : StAt B br w st) (h : takeL st line s.data.toList = .error f) :
    Calls Tryd.prog 48 #[.pointer (some ⟨br, 0, none⟩), .agg #[.int .i64 line, .string s]] w fun e w' => e = .returned (fault f) ∧ Below w.heap.size w w' := by
  unfold takeL at h
  unfold StAt at hst
  cases hc : st.cur with
  | none =>
    rw [hc] at h hst
    simp only at h hst
    split at h
    · rename_i hcont
      injection h with h; subst h
      exact read_fault br w line s true _ hs hcont (fun w1 hb => extend_none B br w1 line s _ hs rfl hf (hst.below hb))
    · cases h
  | some c =>
    rw [hc] at h hst
    simp only at h hst
    split at h
    · rename_i hcont
      split at h
      · rename_i hbad
        injection h with h; subst h
        exact read_fault br w line s true _ hs hcont (fun w1 hb => extend_bad B br w1 _ c _ _ line s _ hs rfl hf (hst.below hb) hbad)
      · split at h <;> cases h
    · rename_i hcont
      split at h
      · rename_i hop
        injection h with h; subst h
        exact read_fault br w line s false _ hs (by simpa using hcont) (fun w1 hb => begin_open B br w1 _ c _ _ line s (hst.below hb) hop)
      · cases h

/-- read of a line that counts -/
theorem take_ok (B br : Nat) (w : World) (st st' : RSt) (n : Nat) (line : Int) (s : ByteArray) (hs : s.size ≤ 2000000) (hf : firstN (textOf s.data.toList) < 65) (hst : StAt B br w st) (hw : st.Wf n) (hn : n ≤ 70000) (hB : br < B) (hBw : B ≤ w.heap.size) (h : takeL st line s.data.toList = .ok st') :
    Calls Tryd.prog 48 #[.pointer (some ⟨br, 0, none⟩), .agg #[.int .i64 line, .string s]] w fun e w' => e = .returned (fault (0, 0, 0)) ∧ StAt B br w' st' ∧ FrR B br w w' := by
  unfold takeL at h
  unfold StAt at hst
  cases hc : st.cur with
  | none =>
    rw [hc] at h hst
    simp only at h hst
    split at h
    · cases h
    · rename_i hcont
      injection h with h; subst h
      exact read_ok B br w line s false _ _ _ _ hs (by simpa using hcont) hB hBw (fun w1 hb => begin_core B br w1 [] line s _ hs hB (Nat.le_trans hBw hb.size) (by simp) rfl hf (finish_fr (hst.below hb) _))
  | some c =>
    obtain ⟨ha, hb', hm, hp⟩ := hw.2 c hc
    rw [hc] at h hst
    simp only at h hst
    split at h
    · rename_i hcont
      split at h
      · cases h
      · rename_i hok
        have hk4 : 4 ≤ firstN (textOf s.data.toList) := by
          rcases Nat.lt_or_ge (firstN (textOf s.data.toList)) 4 with hh | hh
          · exact absurd (.inl hh) hok
          · exact hh
        split at h
        · rename_i hop
          injection h with h; subst h
          have h34 : (textOf s.data.toList).getD (firstN (textOf s.data.toList)) 0 = 34 := by
            by_cases hh : (textOf s.data.toList).getD (firstN (textOf s.data.toList)) 0 = 34
            · exact hh
            · exact absurd (.inr ⟨hop, hh⟩) hok
          exact read_ok B br w line s true _ _ _ _ hs hcont hB hBw (fun w1 hb => extend_ok B br w1 st.pre c _ _ line s _ _ hs rfl hf (hst.below hb) hB (Nat.le_trans hBw hb.size) (by omega) (by omega) (by omega) hk4 (.inr ⟨hop, h34, rfl⟩))
        · rename_i hop
          injection h with h; subst h
          exact read_ok B br w line s true _ _ _ _ hs hcont hB hBw (fun w1 hb => extend_ok B br w1 st.pre c _ _ line s _ _ hs rfl hf (hst.below hb) hB (Nat.le_trans hBw hb.size) (by omega) (by omega) (by omega) hk4 (.inl ⟨by simpa using hop, rfl⟩))
    · rename_i hcont
      split at h
      · cases h
      · rename_i hop
        injection h with h; subst h
        exact read_ok B br w line s false _ _ _ _ hs (by simpa using hcont) hB hBw (fun w1 hb => begin_core B br w1 _ line s _ hs hB (Nat.le_trans hBw hb.size) (by simp; omega) rfl hf
          (finish_cur B br _ _ c _ _ ((hst.below hb).below (below2 _ _ _)) (by simpa using hop) ha hB (by omega) (by omega) (by omega)))
end Go.Proofs.YteceealibfemjaaDoor
