/-
  LINES THAT CHANGE NOTHING BUT POSITIONS (layer 2, columns): a line put in, the columns 1 to 6 and from 73 on. Plain facts on lists.
-/
import Derived.Test.YteceealibfemjaaDoorSplP
namespace Go.Proofs.YteceealibfemjaaDoor
open Go.RowKit

/-- what the law's helper shows of a card -/
def keyC (c : CardL) : Bool × List UInt8 := (c.left, c.text)
/-- two states that differ in positions only -/
structure SimS (a b : RSt) : Prop where
  pre : a.pre.map keyC = b.pre.map keyC
  cur : a.cur.map keyC = b.cur.map keyC
def SimR : Except FaultL RSt → Except FaultL RSt → Prop
  | .error f, .error g => f.1 = g.1 ∧ f.1 ≠ 0
  | .ok a, .ok b => SimS a b
  | _, _ => False
theorem SimS.none {a b : RSt} (h : SimS a b) (ha : a.cur = none) : b.cur = none := by
  have := h.cur
  rw [ha] at this
  cases hb : b.cur with
  | none => rfl
  | some c => rw [hb] at this; simp at this
theorem SimS.some {a b : RSt} (h : SimS a b) {c : CardL} (ha : a.cur = some c) : ∃ d, b.cur = some d ∧ c.left = d.left ∧ c.text = d.text := by
  have := h.cur
  rw [ha] at this
  cases hb : b.cur with
  | none => rw [hb] at this; simp at this
  | some d => rw [hb] at this; simp [keyC] at this; exact ⟨d, rfl, this.1, this.2⟩
theorem key_addC (c d : CardL) (p : List UInt8) (a1 a2 b1 b2 : Int) (h : c.left = d.left ∧ c.text = d.text) : keyC (addC c p a1 a2) = keyC (addC d p b1 b2) := by
  unfold addC keyC
  rw [h.1, h.2]
theorem take_sim {a b : RSt} (h : SimS a b) (n n' : Int) (l l' : List UInt8) (ht : textOf l = textOf l') (hm : markOf l = markOf l') : SimR (takeL a n l) (takeL b n' l') := by
  have hc : contL l = contL l' := by unfold contL; rw [hm]
  unfold takeL
  rw [← ht, ← hc]
  cases ha : a.cur with
  | none =>
    rw [h.none ha]
    cases hl : contL l
    · exact ⟨rfl, congrArg some (key_addC _ _ _ _ _ _ _ ⟨rfl, rfl⟩)⟩
    · exact ⟨rfl, by simp⟩
  | some c =>
    obtain ⟨d, hb, h1, h2⟩ := h.some ha
    rw [hb]
    simp only [← h2]
    cases hl : contL l
    · simp only [Bool.false_eq_true, if_false]
      split
      · exact ⟨rfl, by simp⟩
      · refine ⟨?_, congrArg some (key_addC _ _ _ _ _ _ _ ⟨rfl, rfl⟩)⟩
        simp only [List.map_append, h.pre, List.map_cons, List.map_nil, keyC, h1, h2]
    · simp only [if_true]
      split
      · exact ⟨rfl, by simp⟩
      · split
        · exact ⟨h.pre, congrArg some (key_addC _ _ _ _ _ _ _ ⟨h1, h2⟩)⟩
        · exact ⟨h.pre, congrArg some (key_addC _ _ _ _ _ _ _ ⟨h1, h2⟩)⟩
theorem chk_zero (n : Int) (l : List UInt8) : chkL n l = (0, 0, 0) ↔ (chkL n l).1 = 0 := by
  unfold chkL
  constructor
  · intro h; rw [h]
  · intro h
    split at h
    · simp at h
    · split at h
      · simp at h
      · split at h
        · rename_i h1 h2 h3
          rw [if_neg h1, if_neg h2, if_pos h3]
        · simp at h
theorem counts_same (debug : Bool) (l l' : List UInt8) (ht : textOf l = textOf l') (hm : markOf l = markOf l') : countsL debug l = countsL debug l' := by
  unfold countsL; rw [ht, hm]
theorem step_sim {debug : Bool} {a b : RSt} (h : SimS a b) (n n' : Int) (l l' : List UInt8) (ht : textOf l = textOf l') (hm : markOf l = markOf l') (hk : (chkL n l).1 = (chkL n' l').1) : SimR (stepL debug a n l) (stepL debug b n' l') := by
  unfold stepL
  by_cases h0 : (chkL n l).1 = 0
  · rw [if_pos ((chk_zero n l).2 h0), if_pos ((chk_zero n' l').2 (hk ▸ h0)), counts_same debug l l' ht hm]
    split
    · exact take_sim h n n' l l' ht hm
    · exact h
  · rw [if_neg (fun e => h0 ((chk_zero n l).1 e)), if_neg (fun e => h0 (hk ▸ (chk_zero n' l').1 e))]
    exact ⟨hk, h0⟩
theorem SimR.error {f : FaultL} {x : Except FaultL RSt} (h : SimR (.error f) x) : ∃ g, x = .error g ∧ f.1 = g.1 ∧ f.1 ≠ 0 := by
  cases x with
  | error g => exact ⟨g, rfl, h⟩
  | ok b => exact absurd h (by simp [SimR])
theorem SimR.ok {a : RSt} {x : Except FaultL RSt} (h : SimR (.ok a) x) : ∃ b, x = .ok b ∧ SimS a b := by
  cases x with
  | error g => exact absurd h (by simp [SimR])
  | ok b => exact ⟨b, rfl, h⟩
/-- a line that changes nothing that is read -/
def Alike (l l' : List UInt8) : Prop := textOf l = textOf l' ∧ markOf l = markOf l' ∧ ∀ n n', (chkL n l).1 = (chkL n' l').1
theorem run_sim {debug : Bool} (f : List UInt8 → List UInt8) (ls : List (List UInt8)) (hf : ∀ l ∈ ls, Alike l (f l)) (a b : RSt) (h : SimS a b) (n n' : Nat) : SimR (runL debug a n ls) (runL debug b n' (ls.map f)) := by
  induction ls generalizing a b n n' with
  | nil => exact h
  | cons l r ih =>
    obtain ⟨h1, h2, h3⟩ := hf l (by simp)
    have hs := step_sim (debug := debug) h ((n + 1 : Nat) : Int) ((n' + 1 : Nat) : Int) l (f l) h1 h2 (h3 _ _)
    simp only [List.map_cons, runL]
    cases hx : stepL debug a ((n + 1 : Nat) : Int) l with
    | error e =>
      rw [hx] at hs
      obtain ⟨g, hg, h4⟩ := hs.error
      rw [hg]; exact h4
    | ok a' =>
      rw [hx] at hs
      obtain ⟨b', hb, h4⟩ := hs.ok
      rw [hb]
      exact ih (fun x hx => hf x (by simp [hx])) a' b' h4 (n + 1) (n' + 1)
/-- a line that is passed over -/
def Blank (m : List UInt8) : Prop := ∀ st n, stepL false st n m = .ok st
theorem run_ins (f : List UInt8 → List UInt8) (m : List UInt8) (hm : Blank m) (a1 a2 : List (List UInt8)) (hf : ∀ l ∈ a1 ++ a2, Alike l (f l)) :
    SimR (runL false .ini 0 (a1 ++ a2)) (runL false .ini 0 (a1.map f ++ m :: a2.map f)) := by
  have h1 := run_sim (debug := false) f a1 (fun l hl => hf l (by simp [hl])) .ini .ini ⟨rfl, rfl⟩ 0 0
  rw [runL_append, runL_append]
  cases hx : runL false .ini 0 a1 with
  | error e =>
    rw [hx] at h1
    obtain ⟨g, hg, h4⟩ := h1.error
    rw [hg]; exact h4
  | ok a' =>
    rw [hx] at h1
    obtain ⟨b', hb, h4⟩ := h1.ok
    rw [hb]
    simp only [runL]
    rw [hm]
    exact run_sim f a2 (fun l hl => hf l (by simp [hl])) a' b' h4 _ _
/-- what is shown of two results -/
def resShown (r : Except FaultL (List CardL)) : List UInt8 := shown (resCs r)
theorem shown_keys (a b : List CardL) (h : a.map keyC = b.map keyC) : shown a = shown b := by
  have e : ∀ l : List CardL, l.map cardText = (l.map keyC).map (fun k => if k.1 then k.2 ++ [60] else k.2) := fun l => by
    rw [List.map_map]; rfl
  unfold shown
  rw [e, e, h]
def lastR (x : Except FaultL RSt) : Except FaultL (List CardL) := match x with
  | .error f => .error f
  | .ok st => endL' st
theorem end_sim {x y : Except FaultL RSt} (h : SimR x y) : shown (resCs (lastR x)) = shown (resCs (lastR y)) ∧ (resF (lastR x)).1 = (resF (lastR y)).1 ∧ ((resF (lastR x)).1 = 0 → resF (lastR x) = (0, 0, 0)) ∧ ((resF (lastR y)).1 = 0 → resF (lastR y) = (0, 0, 0)) := by
  cases x with
  | error f =>
    obtain ⟨g, rfl, h1, h2⟩ := h.error
    exact ⟨rfl, h1, fun e => absurd e h2, fun e => absurd (h1.trans e) h2⟩
  | ok a =>
    obtain ⟨b, rfl, hs⟩ := h.ok
    unfold lastR endL'
    simp only
    cases ha : a.cur with
    | none => rw [hs.none ha]; exact ⟨rfl, rfl, fun _ => rfl, fun _ => rfl⟩
    | some c =>
      obtain ⟨d, hb, h1, h2⟩ := hs.some ha
      rw [hb]
      simp only [← h2]
      split
      · exact ⟨rfl, rfl, fun e => absurd e (by simp [resF]), fun e => absurd e (by simp [resF])⟩
      · refine ⟨shown_keys _ _ ?_, rfl, fun _ => rfl, fun _ => rfl⟩
        simp only [resCs, List.map_append, hs.pre, List.map_cons, List.map_nil, keyC, h1, h2]
def plainL (l : List UInt8) : Bool := !l.any badC
/-- the law's change of a line -/
def edgeL (e s : List UInt8) : List UInt8 :=
  if 7 ≤ s.length ∧ s.length ≤ 72 ∧ plainL (s.take 6) = true ∧ plainL e = true then (e ++ List.replicate 6 32).take 6 ++ s.drop 6 ++ List.replicate (72 - s.length) 32 ++ e else s
theorem badN_any (l : List UInt8) : (badN l < l.length) ↔ l.any badC = true := by
  unfold badN
  rw [List.findIdx_lt_length, List.any_eq_true]
theorem chk_fst (n : Int) (l : List UInt8) : (chkL n l).1 = if 80 < l.length then 5 else if l.any badC then 4 else if okM (markOf l) then 0 else 4 := by
  unfold chkL
  split
  · rfl
  · by_cases h : badN l < l.length
    · rw [if_pos h, if_pos ((badN_any l).1 h)]
    · rw [if_neg h, if_neg (fun e => h ((badN_any l).2 e))]
      split <;> rfl
theorem edge_alike (e s : List UInt8) (he : e.length ≤ 6) : Alike s (edgeL e s) := by
  unfold edgeL
  split
  · rename_i h
    obtain ⟨h7, h72, hp, hq⟩ := h
    have hlen : ((e ++ List.replicate 6 32).take 6).length = 6 := by simp
    obtain ⟨F, hF⟩ : ∃ F, F = (e ++ List.replicate 6 32).take 6 := ⟨_, rfl⟩
    rw [← hF] at hlen ⊢
    have hl2 : (F ++ s.drop 6 ++ List.replicate (72 - s.length) 32 ++ e).length = 72 + e.length := by simp [hlen]; omega
    have hpad : padL (F ++ s.drop 6 ++ List.replicate (72 - s.length) 32 ++ e) = F ++ (s.drop 6 ++ List.replicate (72 - s.length) 32 ++ e) := by
      unfold padL; rw [hl2, show 72 - (72 + e.length) = 0 by omega]; simp
    have hps : padL s = s ++ List.replicate (72 - s.length) 32 := rfl
    have h6 : s.drop 6 = s[6]'(by omega) :: s.drop 7 := List.drop_eq_getElem_cons (by omega)
    have hR : (List.replicate (72 - s.length) (32 : UInt8)).any badC = false := by
      rw [List.any_eq_false]
      intro x hx
      rw [(List.mem_replicate.1 hx).2]; decide
    have he' : e.any badC = false := by simpa [plainL] using hq
    have hFb : F.any badC = false := by
      rw [List.any_eq_false]
      intro x hx
      rw [hF] at hx
      rcases List.mem_append.1 (List.mem_of_mem_take hx) with h | h
      · exact (List.any_eq_false.1 he') x h
      · rw [(List.mem_replicate.1 h).2]; decide
    have hs6 : (s.take 6).any badC = false := by simpa [plainL] using hp
    have hmark : markOf (F ++ s.drop 6 ++ List.replicate (72 - s.length) 32 ++ e) = markOf s := by
      unfold markOf
      rw [hpad, hps, List.getD_eq_getElem?_getD, List.getD_eq_getElem?_getD, List.getElem?_append_left (show 6 < s.length by omega), List.getElem?_append_right (by omega), hlen, h6, List.getElem?_eq_getElem (show 6 < s.length by omega)]
      rfl
    refine ⟨?_, hmark.symm, fun n n' => ?_⟩
    · unfold textOf
      rw [hpad, hps, h6, show 7 = F.length + 1 from by rw [hlen], List.drop_append, List.drop_append]
      rw [show F.length + 1 - F.length = 1 by omega, List.drop_of_length_le (show F.length ≤ F.length + 1 by omega), List.nil_append]
      simp only [List.cons_append, List.drop_succ_cons, List.drop_zero]
      rw [show F.length + 1 - s.length = 0 by omega, List.drop_zero]
      have hl : (s.drop (F.length + 1) ++ List.replicate (72 - s.length) (32 : UInt8)).length = 65 := by simp; omega
      rw [hlen] at hl ⊢
      rw [List.take_of_length_le (by omega), List.take_append, List.take_of_length_le (by omega), hl]
      simp
    · have q1 : ¬ 80 < s.length := by omega
      have q2 : ¬ 80 < 72 + e.length := by omega
      rw [chk_fst, chk_fst, hl2, if_neg q1, if_neg q2, hmark]
      have hany : (F ++ s.drop 6 ++ List.replicate (72 - s.length) 32 ++ e).any badC = s.any badC := by
        conv => rhs; rw [← List.take_append_drop 6 s]
        simp only [List.any_append, hR, he', hFb, hs6, Bool.or_false, Bool.false_or]
      rw [hany]
  · exact ⟨rfl, rfl, fun n n' => by rw [chk_fst, chk_fst]⟩
end Go.Proofs.YteceealibfemjaaDoor
