/-
  NUMBERS composed of digits: what is read of them (layer 5, words).
-/
import Derived.Test.YtghnffdjdjlomaaDoorDgtW
namespace Go.Proofs.YtghnffdjdjlomaaDoor
open Go.RowKit

/-- a number, composed -/
def numT (sg a b : List UInt8) : List UInt8 := sg ++ (a ++ if b = [] then [] else 46 :: b)
theorem dig_not (c x : UInt8) (hx : dig x = false) (h : dig c = true) : c ≠ x := fun e => by rw [e, hx] at h; cases h
theorem first_of (a b : List UInt8) (ha : a.all dig = true) (hne : a ++ b ≠ []) : ∃ c r, (a ++ if b = [] then [] else 46 :: b) = c :: r ∧ c ≠ 43 ∧ c ≠ 45 := by
  cases a with
  | cons c a =>
    rw [List.all_cons, Bool.and_eq_true] at ha
    exact ⟨c, _, rfl, dig_not c 43 (by decide) ha.1, dig_not c 45 (by decide) ha.1⟩
  | nil =>
    cases b with
    | nil => exact absurd rfl hne
    | cons c b => exact ⟨46, c :: b, by simp, by decide, by decide⟩
theorem sgL_numT (sg a b : List UInt8) (hsg : sg = [] ∨ sg = [43] ∨ sg = [45]) (ha : a.all dig = true) (hne : a ++ b ≠ []) : sgL (numT sg a b) = sg := by
  obtain ⟨c, r, h, h1, h2⟩ := first_of a b ha hne
  have k1 : ((43 : UInt8) == c) = false := by rw [beq_eq_false_iff_ne]; exact fun e => h1 e.symm
  have k2 : ((45 : UInt8) == c) = false := by rw [beq_eq_false_iff_ne]; exact fun e => h2 e.symm
  unfold numT sgL Lib.hasPrefix
  rcases hsg with rfl | rfl | rfl
  · rw [List.nil_append, h]
    simp [List.isPrefixOf, k1, k2]
  · rfl
  · rfl
theorem cut_numT (sg a b : List UInt8) (hsg : sg = [] ∨ sg = [43] ∨ sg = [45]) (ha : a.all dig = true) (hne : a ++ b ≠ []) : Lib.cut (unL (numT sg a b)) [46] = (a, b, !b.isEmpty) := by
  have hu : unL (numT sg a b) = a ++ if b = [] then [] else 46 :: b := by
    unfold unL
    rw [sgL_numT sg a b hsg ha hne]
    unfold numT
    rw [List.drop_left]
  rw [hu]
  have h46 : (46 : UInt8) ∉ a := fun h => by
    have := List.all_eq_true.1 ha 46 h
    revert this; decide
  cases b with
  | nil =>
    simp only [if_true, List.append_nil]
    rcases cut_of a 46 with ⟨_, h⟩ | ⟨f, b', h, _, _⟩
    · rw [h]; rfl
    · exact absurd (by rw [h]; simp) h46
  | cons c b =>
    simp only [if_neg (List.cons_ne_nil c b)]
    rcases cut_of (a ++ 46 :: c :: b) 46 with ⟨h, _⟩ | ⟨f, b', h, h2, h3⟩
    · exact absurd (by simp) h
    · rw [h3]
      have hf : f = a ∧ b' = c :: b := by
        clear h3 hu hne ha
        induction f generalizing a with
        | nil =>
          cases a with
          | nil => simp at h; exact ⟨rfl, h.symm⟩
          | cons x a => simp at h; exact absurd (List.mem_cons.2 (.inl h.1.symm)) h46
        | cons y f ih =>
          cases a with
          | nil => simp at h; exact absurd (List.mem_cons.2 (.inl h.1)) h2
          | cons x a =>
            simp at h
            obtain ⟨h4, h5⟩ := h
            have := ih a (fun e => h46 (List.mem_cons_of_mem _ e)) h5 (fun e => h2 (List.mem_cons_of_mem _ e))
            rw [this.1, this.2, h4]; exact ⟨rfl, rfl⟩
      rw [hf.1, hf.2]; rfl
/-- what is read of a composed number -/
theorem numT_parts (sg a b : List UInt8) (hsg : sg = [] ∨ sg = [43] ∨ sg = [45]) (ha : a.all dig = true) (hb : b.all dig = true) (hne : a ++ b ≠ []) (hl : (a ++ b).length ≤ 18) :
    sgL (numT sg a b) = sg ∧ frL (numT sg a b) = a ∧ bhL (numT sg a b) = b ∧ dgL (numT sg a b) = a ++ b ∧ numE (numT sg a b) = 0 ∧ picN (numT sg a b) = nines a.length ++ if b = [] then [] else 86 :: nines b.length := by
  have hc := cut_numT sg a b hsg ha hne
  have h1 : frL (numT sg a b) = a := by unfold frL; rw [hc]
  have h2 : bhL (numT sg a b) = b := by unfold bhL; rw [hc]
  have h3 : dvB (numT sg a b) = !b.isEmpty := by unfold dvB; rw [hc]
  have h4 : dgL (numT sg a b) = a ++ b := by unfold dgL; rw [h1, h2]
  refine ⟨sgL_numT sg a b hsg ha hne, h1, h2, h4, ?_, ?_⟩
  · unfold numE
    rw [h4, h2, h3, isDigits_all, List.all_append, ha, hb, if_neg, if_neg (by omega)]
    cases b <;> cases a <;> simp at hne ⊢
  · unfold picN
    rw [h1, h2, h3]
    cases b <;> simp
end Go.Proofs.YtghnffdjdjlomaaDoor
