/-
  HOW GREAT WHAT IS LAID OUT AND READ IS; THE TEXTS OF CARDS, JOINED (layer 2, columns). Plain facts on lists.
-/
import Derived.Test.YteceealibfemjaaDoorWrtP
namespace Go.Proofs.YteceealibfemjaaDoor
open Go.RowKit

theorem pieces_count (m : Nat) : ∀ (rest front : List UInt8) (op : Bool), rest.length ≤ m → (front = fA ∨ front = fB ∨ front = fM ∨ front = fQ) → RestOk front rest op → (piecesL front rest op).length ≤ rest.length := by
  induction m with
  | zero =>
    intro rest front op hm hf ho
    exact absurd (List.eq_nil_of_length_eq_zero (by omega)) ho.ne
  | succ m ih =>
    intro rest front op hm hf ho
    have hf6 : 1 ≤ front.length ∧ front.length ≤ 6 := by rcases hf with rfl | rfl | rfl | rfl <;> decide
    have hr0 : 0 < rest.length := List.length_pos_iff.2 ho.ne
    by_cases hl : rest.length ≤ 66 - front.length
    · rw [pieces_last _ _ _ hl]; exact hr0
    · rw [pieces_more _ _ _ hl hf6.2]
      obtain ⟨k, hk⟩ : ∃ k, k = divN rest (66 - front.length) op := ⟨_, rfl⟩
      obtain ⟨op', hop'⟩ : ∃ o, o = (op != openL (rest.take k)) := ⟨_, rfl⟩
      obtain ⟨hk0, hkr, hok, hcase⟩ := rest_next front rest op ho (66 - front.length) (by omega) (by omega) k hk op' hop'
      rw [← hk, ← hop', List.length_cons]
      have hd : (rest.drop k).length = rest.length - k := List.length_drop
      rcases hcase with ⟨e1, e2, e3⟩ | ⟨e1, e2, e3, e4⟩ | ⟨e1, e3, _⟩
      · rw [e3] at hok ⊢
        have := ih _ _ _ (by simp only; omega) (.inr (.inr (.inr rfl))) hok
        simp only at this ⊢; omega
      · rw [e3] at hok ⊢
        have := ih _ _ _ (by simp only; omega) (.inr (.inr (.inl rfl))) hok
        simp only at this ⊢; omega
      · rw [e3] at hok ⊢
        have ht := trimLeftB_le (rest.drop k) 32
        have := ih _ _ _ (by simp only; omega) (.inr (.inl rfl)) hok
        simp only at this ⊢; omega
theorem outL_len (n : Nat) (ps : List (List UInt8 × List UInt8)) (h : ∀ p ∈ ps, p.1.length + p.2.length ≤ 66) : (outL n ps).length ≤ 73 * ps.length := by
  induction ps generalizing n with
  | nil => simp [outL]
  | cons p r ih =>
    have h1 := h p (by simp)
    have h2 := ih (n + 1) (fun q hq => h q (by simp [hq]))
    simp only [outL, List.length_append, numL_length, List.length_cons, List.length_nil]
    omega
theorem linesW_length (n : Nat) (ps : List (List UInt8 × List UInt8)) : (linesW n ps).length = ps.length := by
  induction ps generalizing n with
  | nil => rfl
  | cons p r ih => simp [linesW, ih]
/-- how long a text is laid out -/
theorem write_size (l : List UInt8) (left : Bool) (h : rightL l = true) :
    (outL 0 (piecesL (frontL left) l false)).length ≤ 73 * l.length ∧ ((chunks (outL 0 (piecesL (frontL left) l false))).map stripL).length ≤ l.length + 1 ∧ (splitNL (outL 0 (piecesL (frontL left) l false))).length ≤ l.length + 1 := by
  have ho := right_rest l left h
  obtain ⟨hf, hd⟩ := frontL_eq left
  have hf4 : frontL left = fA ∨ frontL left = fB ∨ frontL left = fM ∨ frontL left = fQ := by
    rcases hf with h | h
    · exact .inl h
    · exact .inr (.inl h)
  have hg := pieces_good l.length l (frontL left) false (Nat.le_refl _) hf4 ho
  have hc := pieces_count l.length l (frontL left) false (Nat.le_refl _) hf4 ho
  have h1 := outL_len 0 _ (fun p hp => (hg p hp).2.2.2)
  refine ⟨by omega, ?_⟩
  have h2 := split_le (outL 0 (piecesL (frontL left) l false))
  have h3 := outL_split 0 _ (fun p hp => ⟨by rcases (hg p hp).1 with e | e | e | e <;> rw [e] <;> decide, (hg p hp).2.1⟩)
  rw [h3, List.length_append, linesW_length] at h2 ⊢
  simp only [List.length_cons, List.length_nil] at h2 ⊢
  omega
/-- how long the texts of cards are together -/
def totL (cs : List CardL) : Nat := (cs.map (·.text.length)).sum
theorem totL_append (a b : List CardL) : totL (a ++ b) = totL a + totL b := by unfold totL; rw [List.map_append, List.sum_append]
theorem totL_one (c : CardL) : totL [c] = c.text.length := by simp [totL]
theorem totL_mem (cs : List CardL) (c : CardL) (h : c ∈ cs) : c.text.length ≤ totL cs := by
  induction cs with
  | nil => simp at h
  | cons d r ih =>
    have e : totL (d :: r) = d.text.length + totL r := by simp [totL]
    rcases List.mem_cons.1 h with rfl | h
    · omega
    · have := ih h; omega
def stCards (st : RSt) : List CardL := st.pre ++ st.cur.toList
theorem stepL_tot (debug : Bool) (st st' : RSt) (n : Int) (l : List UInt8) (h : stepL debug st n l = .ok st') : totL (stCards st') ≤ totL (stCards st) + 65 ∧ (stCards st').length ≤ (stCards st).length + 1 := by
  have hl := textOf_length l
  have h65 : ∀ (j : Nat) (t : List UInt8), (tailL ((textOf l).drop j) t).length ≤ 65 := fun j t => by have := tailL_length ((textOf l).drop j) t; rw [List.length_drop, hl] at this; omega
  unfold stepL at h
  split at h
  · split at h
    · unfold takeL at h
      cases hc : st.cur with
      | none =>
        rw [hc] at h
        simp only at h
        split at h
        · cases h
        · injection h with h; subst h
          have := h65 (firstN (textOf l)) []
          unfold stCards
          rw [hc]
          simp only [Option.toList, List.nil_append, List.append_nil, totL_one, (addC_sizes _ _ _ _).1, List.length_cons, List.length_nil]
          omega
      | some c =>
        rw [hc] at h
        simp only at h
        have key : ∀ p a b x y, p.length ≤ 65 → totL (stCards ⟨st.pre, some (addC c p a b), x, y⟩) ≤ totL (stCards st) + 65 ∧ (stCards ⟨st.pre, some (addC c p a b), x, y⟩).length ≤ (stCards st).length + 1 := fun p a b x y hp => by
          unfold stCards
          rw [hc]
          simp only [Option.toList, totL_append, totL_one, (addC_sizes _ _ _ _).1, List.length_append, List.length_cons, List.length_nil]
          omega
        split at h
        · split at h
          · cases h
          · split at h
            · injection h with h; subst h
              exact key _ _ _ _ _ (h65 _ _)
            · injection h with h; subst h
              exact key _ _ _ _ _ (h65 _ _)
        · split at h
          · cases h
          · injection h with h; subst h
            have := h65 (firstN (textOf l)) []
            unfold stCards
            rw [hc]
            simp only [Option.toList, totL_append, totL_one, (addC_sizes _ _ _ _).1, List.length_append, List.length_cons, List.length_nil]
            omega
    · injection h with h; subst h; omega
  · cases h
theorem runL_tot (debug : Bool) (ls : List (List UInt8)) (st st' : RSt) (n : Nat) (h : runL debug st n ls = .ok st') : totL (stCards st') ≤ totL (stCards st) + 65 * ls.length ∧ (stCards st').length ≤ (stCards st).length + ls.length := by
  induction ls generalizing st n with
  | nil => simp only [runL] at h; injection h with h; subst h; simp
  | cons l r ih =>
    simp only [runL] at h
    cases hs : stepL debug st ((n + 1 : Nat) : Int) l with
    | error f => rw [hs] at h; cases h
    | ok st1 =>
      rw [hs] at h
      have h1 := stepL_tot debug st st1 _ l hs
      have h2 := ih st1 (n + 1) h
      rw [List.length_cons]; omega
/-- how great Read's result is -/
theorem readT_tot (debug : Bool) (l : List UInt8) : totL (resCs (readT debug l)) ≤ 65 * ((chunks l).map stripL).length ∧ (resCs (readT debug l)).length ≤ ((chunks l).map stripL).length := by
  unfold readT
  split
  · simp [resCs, totL]
  · unfold readL
    cases hr : runL debug .ini 0 ((chunks l).map stripL) with
    | error f => simp [resCs, totL]
    | ok st =>
      have h := runL_tot debug _ _ _ _ hr
      have e0 : totL (stCards .ini) = 0 := rfl
      have e1 : (stCards .ini).length = 0 := rfl
      rw [e0, e1] at h
      simp only
      unfold endL'
      unfold stCards at h
      cases hc : st.cur with
      | none => simp [resCs, totL]
      | some c =>
        rw [hc] at h
        simp only
        split
        · simp [resCs, totL]
        · simp only [resCs]
          simp only [Option.toList] at h
          omega
/-- the texts of the first cards, joined by single spaces -/
def jnL (cs : List CardL) : Nat → List UInt8
  | 0 => []
  | k + 1 => if k = 0 then (cs.getD 0 ⟨false, [], []⟩).text else jnL cs k ++ [32] ++ (cs.getD k ⟨false, [], []⟩).text
theorem jnL_len (cs : List CardL) (k : Nat) (hk : k ≤ cs.length) : (jnL cs k).length ≤ totL (cs.take k) + k := by
  induction k with
  | zero => simp [jnL]
  | succ k ih =>
    have h1 := ih (by omega)
    have e : totL (cs.take (k + 1)) = totL (cs.take k) + (cs[k]).text.length := by
      rw [List.take_succ_eq_append_getElem (by omega), totL_append, totL_one]
    have eg : cs.getD k ⟨false, [], []⟩ = cs[k] := by rw [List.getD_eq_getElem?_getD, List.getElem?_eq_getElem (by omega)]; rfl
    unfold jnL
    split
    · rename_i h0; subst h0
      rw [eg]; omega
    · rw [eg]; simp only [List.length_append, List.length_cons, List.length_nil]; omega
theorem jnL_pre (pre : List CardL) (c : CardL) (k : Nat) (h0 : 0 < k) (hk : k ≤ pre.length) : jnL (pre ++ [c]) k ++ [32] = preT (pre.take k) := by
  induction k with
  | zero => omega
  | succ k ih =>
    have eg : (pre ++ [c]).getD k ⟨false, [], []⟩ = pre[k]'(by omega) := by rw [List.getD_eq_getElem?_getD, List.getElem?_append_left (by omega), List.getElem?_eq_getElem (by omega)]; rfl
    have et : preT (pre.take (k + 1)) = preT (pre.take k) ++ ((pre[k]'(by omega)).text ++ [32]) := by
      rw [List.take_succ_eq_append_getElem (by omega), preT_snoc]
    rw [et]
    unfold jnL
    split
    · rename_i h; subst h
      rw [eg]; simp [preT]
    · rw [eg, ← ih (by omega) (by omega)]; simp
theorem jnL_all (pre : List CardL) (c : CardL) : jnL (pre ++ [c]) (pre.length + 1) = preT pre ++ c.text := by
  have eg : (pre ++ [c]).getD pre.length ⟨false, [], []⟩ = c := by rw [List.getD_eq_getElem?_getD, List.getElem?_append_right (Nat.le_refl _)]; simp
  unfold jnL
  split
  · rename_i h
    have hp := List.eq_nil_of_length_eq_zero h
    subst hp
    simp [preT]
  · rename_i h
    have := jnL_pre pre c pre.length (by omega) (Nat.le_refl _)
    rw [List.take_length] at this
    rw [eg, this]
end Go.Proofs.YteceealibfemjaaDoor
