/-
  A TEXT DIVIDED AT EACH BYTE 10 (layer 2, columns): strings.Split, the lines of Read, strings.Join. Plain facts on lists.
-/
import Derived.Test.YteceealibfemjaaDoorMrkP
namespace Go.Proofs.YteceealibfemjaaDoor
open Go.RowKit

/-- a text divided at each byte 10 -/
def splitNL : List UInt8 → List (List UInt8)
  | [] => [[]]
  | c :: r => if c = 10 then [] :: splitNL r else (c :: (splitNL r).headD []) :: (splitNL r).tail
theorem splitNL_ne (l : List UInt8) : splitNL l ≠ [] := by
  cases l with
  | nil => simp [splitNL]
  | cons c r => unfold splitNL; split <;> simp
theorem splitNL_cons (c : UInt8) (r : List UInt8) (h : c ≠ 10) : splitNL (c :: r) = (c :: (splitNL r).headD []) :: (splitNL r).tail := by rw [splitNL, if_neg h]
theorem splitNL_nl (r : List UInt8) : splitNL (10 :: r) = [] :: splitNL r := by rw [splitNL, if_pos rfl]
theorem head_tail (l : List (List UInt8)) (h : l ≠ []) : l.headD [] :: l.tail = l := by
  cases l with
  | nil => exact absurd rfl h
  | cons a r => rfl
theorem splitNL_app (a b : List UInt8) (h : 10 ∉ a) : splitNL (a ++ 10 :: b) = a :: splitNL b := by
  induction a with
  | nil => exact splitNL_nl b
  | cons c r ih =>
    rw [List.cons_append, splitNL_cons c _ (fun e => h (by simp [e])), ih (fun e => h (by simp [e]))]
    rfl
theorem splitNL_none (a : List UInt8) (h : 10 ∉ a) : splitNL a = [a] := by
  induction a with
  | nil => rfl
  | cons c r ih =>
    rw [splitNL_cons c _ (fun e => h (by simp [e])), ih (fun e => h (by simp [e]))]
    rfl
theorem splitNL_mem (l x : List UInt8) (h : x ∈ splitNL l) : 10 ∉ x := by
  induction l generalizing x with
  | nil => simp [splitNL] at h; subst h; simp
  | cons c r ih =>
    by_cases hc : c = 10
    · subst hc
      rw [splitNL_nl] at h
      rcases List.mem_cons.1 h with rfl | h
      · simp
      · exact ih x h
    · rw [splitNL_cons c r hc] at h
      rcases List.mem_cons.1 h with rfl | h
      · intro hm
        rcases List.mem_cons.1 hm with e | hm
        · exact hc e.symm
        · exact ih _ (by rw [← head_tail _ (splitNL_ne r)]; simp) hm
      · exact ih x (List.mem_of_mem_tail h)
/-- strings.Split at the byte 10 -/
theorem split_K (k : Nat) (c : UInt8) (r : List UInt8) (h : c ≠ 10) : Lib.splitK [10] 0 k (c :: r) = (c :: (Lib.splitK [10] 0 k r).headD []) :: (Lib.splitK [10] 0 k r).tail := by
  cases k with
  | zero => rfl
  | succ k =>
    have hix : Lib.index (c :: r) [10] = if Lib.index r [10] == -1 then -1 else Lib.index r [10] + 1 := by
      rw [Lib.index]
      have : ([10] : List UInt8).isPrefixOf (c :: r) = false := by simp [List.isPrefixOf, Ne.symm h]
      rw [this]; simp
    have hge := Lib.index_ge r [10]
    unfold Lib.splitK
    by_cases hm : Lib.index r [10] = -1
    · rw [hix, hm]; rfl
    · obtain ⟨j, hj⟩ : ∃ j : Nat, Lib.index r [10] = j := ⟨(Lib.index r [10]).toNat, by omega⟩
      rw [hix, hj]
      have e1 : ((j : Int) == -1) = false := by rw [beq_eq_false_iff_ne]; omega
      rw [e1]
      have e2 : ((if false = true then (-1 : Int) else (j : Int) + 1) == -1) = false := by rw [if_neg (by simp), beq_eq_false_iff_ne]; omega
      rw [e2]
      simp only [Bool.false_eq_true, if_false, List.headD_cons, List.tail_cons]
      rw [show ((j : Int) + 1).toNat = j + 1 by omega, show ((j : Int)).toNat = j by omega]
      simp
theorem split_NL (s : List UInt8) : Lib.splitK [10] 0 (Lib.count s [10]) s = splitNL s := by
  induction s with
  | nil =>
    have : Lib.count [] [10] = 0 := by decide
    rw [this]; rfl
  | cons c r ih =>
    by_cases hc : c = 10
    · subst hc
      have hix : Lib.index (10 :: r) [10] = 0 := by rw [Lib.index]; simp [List.isPrefixOf]
      rw [Lib.count_cons_eq, splitNL_nl, ← ih, Nat.add_comm, Lib.splitK, hix]
      simp
    · rw [Lib.count_cons_ne _ _ _ hc, splitNL_cons c r hc, split_K _ c r hc, ih]
theorem lineLen_nl (a b : List UInt8) (h : 10 ∉ a) : lineLen (a ++ 10 :: b) = a.length + 1 := by
  unfold lineLen
  have : (a ++ 10 :: b).findIdx (· == 10) = a.length := by
    rw [List.findIdx_append, List.findIdx_eq_length_of_false (fun x hx => by simp; intro e; exact h (e ▸ hx))]
    simp [List.findIdx_cons]
  rw [this]; simp
theorem lineLen_none (a : List UInt8) (h : 10 ∉ a) : lineLen a = a.length := by
  unfold lineLen
  rw [List.findIdx_eq_length_of_false (fun x hx => by simp; intro e; exact h (e ▸ hx))]
  omega
theorem strip_nl (a : List UInt8) : stripL (a ++ [10]) = a := by
  unfold stripL Lib.trimSuffix Lib.hasSuffix
  simp
theorem strip_none (a : List UInt8) (h : 10 ∉ a) : stripL a = a := by
  unfold stripL Lib.trimSuffix Lib.hasSuffix
  rw [if_neg]
  intro hs
  have := List.isSuffixOf_iff_suffix.1 hs
  exact h (this.subset (by simp))
theorem nl_split (l : List UInt8) : 10 ∉ l ∨ ∃ a b, l = a ++ 10 :: b ∧ 10 ∉ a := by
  induction l with
  | nil => exact .inl (by simp)
  | cons c r ih =>
    by_cases hc : c = 10
    · exact .inr ⟨[], r, by rw [hc]; rfl, by simp⟩
    · rcases ih with h | ⟨a, b, e, hn⟩
      · exact .inl (by simp [h, Ne.symm hc])
      · exact .inr ⟨c :: a, b, by rw [e]; rfl, by simp [hn, Ne.symm hc]⟩
theorem chunks_split (n : Nat) : ∀ l : List UInt8, l.length ≤ n → ∃ t, splitNL l = (chunks l).map stripL ++ t ∧ (t = [] ∨ t = [[]]) := by
  induction n with
  | zero =>
    intro l hl
    obtain rfl := List.eq_nil_of_length_eq_zero (show l.length = 0 by omega)
    exact ⟨[[]], by rw [chunks_nil]; rfl, .inr rfl⟩
  | succ n ih =>
    intro l hl
    by_cases h0 : l = []
    · subst h0; exact ⟨[[]], by rw [chunks_nil]; rfl, .inr rfl⟩
    · rw [chunks_cons l h0]
      rcases nl_split l with h | ⟨a, b, rfl, h⟩
      · refine ⟨[], ?_, .inl rfl⟩
        rw [splitNL_none l h, lineLen_none l h, List.take_length, List.drop_length, chunks_nil]
        simp [strip_none l h]
      · obtain ⟨t, ht, hc⟩ := ih b (by simp at hl; omega)
        refine ⟨t, ?_, hc⟩
        rw [splitNL_app a b h, lineLen_nl a b h, ht]
        have e1 : (a ++ 10 :: b).take (a.length + 1) = a ++ [10] := by rw [List.take_append, List.take_of_length_le (by omega)]; simp
        have e2 : (a ++ 10 :: b).drop (a.length + 1) = b := by rw [List.drop_append]; simp
        rw [e1, e2, List.map_cons, strip_nl]; rfl
theorem step_blank (debug : Bool) (st : RSt) (line : Int) : stepL debug st line [] = .ok st := by
  have h1 : chkL line [] = (0, 0, 0) := by
    unfold chkL
    rw [if_neg (by decide), if_neg (by decide), if_pos (by decide)]
  have h2 : countsL debug [] = false := by cases debug <;> decide
  unfold stepL
  rw [h1, h2]; rfl
theorem runL_append (debug : Bool) (a b : List (List UInt8)) (st : RSt) (n : Nat) : runL debug st n (a ++ b) = match runL debug st n a with
    | .error f => .error f
    | .ok st' => runL debug st' (n + a.length) b := by
  induction a generalizing st n with
  | nil => rfl
  | cons x r ih =>
    simp only [List.cons_append, runL]
    cases stepL debug st ((n + 1 : Nat) : Int) x with
    | error f => rfl
    | ok st' => simp only [ih, List.length_cons]; rw [show n + 1 + r.length = n + (r.length + 1) by omega]
/-- Read by the text divided at each byte 10 -/
theorem readL_split (debug : Bool) (l : List UInt8) : readL debug l = match runL debug .ini 0 (splitNL l) with
    | .error f => .error f
    | .ok st => endL' st := by
  obtain ⟨t, ht, hc⟩ := chunks_split l.length l (Nat.le_refl _)
  rw [ht, runL_append]
  unfold readL
  cases runL debug .ini 0 ((chunks l).map stripL) with
  | error f => rfl
  | ok st =>
    rcases hc with rfl | rfl
    · rfl
    · simp only [runL, step_blank]
theorem srcB_split (l : List UInt8) (ln co : Int) : srcB ((chunks l).map stripL) ln co = srcB (splitNL l) ln co := by
  obtain ⟨t, ht, hc⟩ := chunks_split l.length l (Nat.le_refl _)
  unfold srcB
  rw [ht]
  rcases hc with rfl | rfl
  · rw [List.append_nil]
  · congr 1
    rw [List.getD_eq_getElem?_getD, List.getD_eq_getElem?_getD, List.getElem?_append]
    split
    · rfl
    · rename_i h
      rw [List.getElem?_eq_none (by omega)]
      cases ((ln - 1).toNat - ((chunks l).map stripL).length) <;> rfl
theorem split_le (l : List UInt8) : ((chunks l).map stripL).length ≤ (splitNL l).length := by
  obtain ⟨t, ht, hc⟩ := chunks_split l.length l (Nat.le_refl _)
  rw [ht, List.length_append]; omega
theorem splitNL_join (xs : List (List UInt8)) (h : xs ≠ []) (hn : ∀ x ∈ xs, 10 ∉ x) : splitNL (Lib.join xs [10]) = xs := by
  induction xs with
  | nil => exact absurd rfl h
  | cons x r ih =>
    cases r with
    | nil =>
      have e : Lib.join [x] [10] = x := by simp [Lib.join, List.intercalate]
      rw [e, splitNL_none x (hn x (by simp))]
    | cons y r =>
      have e : Lib.join (x :: y :: r) [10] = x ++ 10 :: Lib.join (y :: r) [10] := by simp [Lib.join, List.intercalate]
      rw [e, splitNL_app x _ (hn x (by simp)), ih (by simp) (fun z hz => hn z (by simp only [List.mem_cons] at hz ⊢; exact .inr hz))]
end Go.Proofs.YteceealibfemjaaDoor
