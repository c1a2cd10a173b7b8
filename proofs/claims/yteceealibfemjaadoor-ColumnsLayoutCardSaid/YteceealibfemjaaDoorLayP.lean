/-
  WHAT THE LAW ON WRITE'S LAYOUT SAYS, OVER LISTS (layer 2, columns): the numbers of lines, what follows a division. Plain facts on lists.
-/
import Derived.Test.YteceealibfemjaaDoorWrtP
namespace Go.Proofs.YteceealibfemjaaDoor
open Go.RowKit

/-- a number in k digits -/
def padD : Nat → Nat → List UInt8
  | 0, _ => []
  | k + 1, n => padD k (n / 10) ++ [UInt8.ofNat (48 + n % 10)]
theorem decDigits_pad (k n : Nat) (h : n < 10 ^ k) : Lib.decDigits (10 ^ k + n) = 49 :: padD k n := by
  induction k generalizing n with
  | zero =>
    obtain rfl : n = 0 := by omega
    rw [Lib.decDigits, dif_pos (by omega)]; rfl
  | succ k ih =>
    have e1 : 10 ^ (k + 1) = 10 * 10 ^ k := by rw [Nat.pow_succ, Nat.mul_comm]
    have := Nat.pow_pos (n := k) (show 0 < 10 by omega)
    rw [Lib.decDigits, dif_neg (by omega), show (10 ^ (k + 1) + n) / 10 = 10 ^ k + n / 10 by omega, show (10 ^ (k + 1) + n) % 10 = n % 10 by omega, ih (n / 10) (by omega)]
    rfl
theorem padD_zero (k : Nat) : padD k 0 = List.replicate k 48 := by
  induction k with
  | zero => rfl
  | succ k ih => rw [padD, Nat.zero_div, ih, List.replicate_succ']; rfl
theorem padD_digs (k n : Nat) (h : n < 10 ^ k) : (digs n).length ≤ k ∧ padD k n = List.replicate (k - (digs n).length) 48 ++ digs n := by
  induction k generalizing n with
  | zero =>
    obtain rfl : n = 0 := by omega
    rw [digs_zero]; exact ⟨Nat.le_refl _, rfl⟩
  | succ k ih =>
    by_cases h0 : n = 0
    · subst h0
      rw [digs_zero, padD_zero]; simp
    · have e1 : 10 ^ (k + 1) = 10 * 10 ^ k := by rw [Nat.pow_succ, Nat.mul_comm]
      obtain ⟨h1, h2⟩ := ih (n / 10) (by omega)
      rw [digs_pos n (by omega), padD, h2, List.length_append]
      refine ⟨by simp; omega, ?_⟩
      rw [List.append_assoc]
      congr 2
      simp
/-- the number of a line as the law writes it -/
theorem numL_digs (n : Nat) (h : n < 1000000) : (digs n).length ≤ 6 ∧ numL n = List.replicate (6 - (digs n).length) 48 ++ digs n := by
  have h1 := padD_digs 6 n (by omega)
  refine ⟨h1.1, ?_⟩
  unfold numL
  rw [Nat.mod_eq_of_lt h, show 1000000 + n = 10 ^ 6 + n by omega, decDigits_pad 6 n (by omega), ← h1.2]
  rfl
/-- what follows a division, as the law says it -/
theorem follow_law (front rest : List UInt8) (op : Bool) (h : RestOk front rest op) (room : Nat) (h1 : 2 ≤ room) (hlt : room < rest.length) :
    followL (rest.drop (divN rest room op)) (op != openL (rest.take (divN rest room op))) =
      if (divK rest op room).isSome then (fB, Lib.trimLeftB (rest.drop (divN rest room op)) 32)
      else (if (op != openL (rest.take (divN rest room op))) then fQ else fM, rest.drop (divN rest room op)) := by
  obtain ⟨hk0, hkr⟩ := divN_pos rest room op (by omega)
  obtain ⟨k, hk⟩ : ∃ k, k = divN rest room op := ⟨_, rfl⟩
  rw [← hk] at hk0 hkr ⊢
  have hd0 : (rest.drop k).getD 0 0 = rest.getD k 0 := by
    rw [List.getD_eq_getElem?_getD, List.getD_eq_getElem?_getD, List.getElem?_drop, Nat.add_zero]
  cases hd : divK rest op room with
  | some j =>
    have hkj : k = j := by rw [hk]; unfold divN; rw [hd]; rfl
    obtain ⟨_, _, hjl, hj32, hjo⟩ := divK_some rest op room j hd
    rw [← hkj] at hjl hj32 hjo
    have hop' : (op != openL (rest.take k)) = false := by rw [hjo]; cases op <;> rfl
    rw [hop']
    show _ = (fB, Lib.trimLeftB (rest.drop k) 32)
    unfold followL
    rw [if_neg (by simp), if_pos (by rw [hd0]; exact hj32)]; rfl
  | none =>
    have hkr' : k = room := by rw [hk]; unfold divN; rw [hd]; rfl
    show _ = (if (op != openL (rest.take k)) then fQ else fM, rest.drop k)
    cases hop : (op != openL (rest.take k)) with
    | true => unfold followL; rfl
    | false =>
      have hto : openL (rest.take k) = op := by
        revert hop; cases op <;> cases openL (rest.take k) <;> decide
      have hnk : rest.getD k 0 ≠ 32 := fun e => divK_none rest op room k hd hk0 hkr (by omega) e hto
      unfold followL
      rw [if_neg (by simp), if_neg (by rw [hd0]; exact hnk)]; rfl
end Go.Proofs.YteceealibfemjaaDoor
