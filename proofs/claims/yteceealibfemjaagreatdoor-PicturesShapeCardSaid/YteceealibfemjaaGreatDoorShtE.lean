/-
  PURE FACTS for PicturesShort (layer 6, pictures).
-/
import Derived.Test.YteceealibfemjaaGreatDoorPicE
namespace Go.Proofs.YteceealibfemjaaGreatDoor
theorem flat_id (p : List UInt8) (hp : p.all Pic.isSym = true) : Pic.flatG p.length p = some p := by
  induction p with
  | nil => rfl
  | cons c r ih =>
    simp only [List.all_cons, Bool.and_eq_true] at hp
    have hh := (Pic.sym_head r hp.2).1
    have h1 := Pic.flat_rep c 1 r (c :: r).length hp.1 hh (by simp only [List.length_cons]; omega)
    rw [show List.replicate 1 c ++ r = c :: r from rfl] at h1
    rw [h1, ih hp.2]
    rfl
theorem flat_ne (l p : List UInt8) (hl : l ≠ []) (h : Pic.flatG l.length l = some p) : p ≠ [] := by
  cases l with
  | nil => exact absurd rfl hl
  | cons c r =>
    rw [List.length_cons, Pic.flatG] at h
    cases hr : Pic.repL r with
    | none => rw [hr] at h; simp at h
    | some x =>
      obtain ⟨n, b⟩ := x
      rw [hr] at h
      simp only [] at h
      have hn := (Pic.repL_le r n b hr).2.1
      split at h
      · cases hf : Pic.flatG r.length b with
        | none => rw [hf] at h; simp at h
        | some q =>
          rw [hf] at h
          simp only [Option.map_some, Option.some.injEq] at h
          rw [← h]
          cases n with
          | zero => omega
          | succ n => simp [List.replicate_succ]
      · cases h
theorem expL_ok (l p : List UInt8) (h : Pic.expL l = (p, 0)) : l ≠ [] ∧ Pic.flatG l.length l = some p ∧ p ≠ [] ∧ p.length ≤ 256 ∧ p.all Pic.isSym = true := by
  have hl : l ≠ [] := by intro h0; subst h0; simp [Pic.expL] at h
  rw [Pic.expL_flat l hl] at h
  cases hf : Pic.flatG l.length l with
  | none => rw [hf] at h; simp at h
  | some q =>
    rw [hf] at h
    simp only [] at h
    split at h
    · simp at h
    · rename_i h2
      simp only [Prod.mk.injEq, and_true] at h
      subst h
      exact ⟨hl, rfl, flat_ne l _ hl hf, by omega, Pic.flat_sym _ _ _ hf⟩
theorem expL_of (l p : List UInt8) (hl : l ≠ []) (h : Pic.flatG l.length l = some p) (h2 : p.length ≤ 256) : Pic.expL l = (p, 0) := by
  rw [Pic.expL_flat l hl, h]
  exact if_neg (by omega)
theorem exp_id (l p : List UInt8) (h : Pic.expL l = (p, 0)) : Pic.expL p = (p, 0) := by
  obtain ⟨_, _, h3, h4, h5⟩ := expL_ok l p h
  exact expL_of p p h3 (flat_id p h5) h4
theorem exp_sho (l p : List UInt8) (h : Pic.expL l = (p, 0)) : Pic.expL (Pic.shoL p) = (p, 0) := by
  obtain ⟨_, _, h3, h4, h5⟩ := expL_ok l p h
  refine expL_of _ p ?_ (Pic.flat_short p h5 (by omega) _ (Nat.le_refl _)) h4
  intro h0
  have := Pic.shoL_head p
  rw [h0] at this
  cases p with
  | nil => exact h3 rfl
  | cons c r => simp at this
theorem sho_five (l p : List UInt8) (h : Pic.expL l = (p, 0)) : Pic.noFive (Pic.shoL p) := by
  obtain ⟨_, _, h3, h4, h5⟩ := expL_ok l p h
  exact Pic.short_five p h5 h4
theorem sho_len (l p : List UInt8) (h : Pic.expL l = (p, 0)) (hz : ¬ Pic.zeroB l) : (Pic.shoL p).length ≤ l.length := by
  obtain ⟨_, h2, _⟩ := expL_ok l p h
  exact Pic.short_len l.length l p (Nat.le_refl _) h2 hz
theorem piece6 (x : UInt8 × Nat) (h : 1 ≤ x.2) (h2 : x.2 ≤ 256) : (Pic.piece x).length ≤ 6 * x.2 := by
  rw [show x = (x.1, x.2) from rfl, Pic.piece_len]
  unfold Pic.cost
  split
  · simp only []; omega
  · have := Pic.nd_le 2 x.2 (by omega); simp only []; omega
theorem sho_6 : (n : Nat) → (p : List UInt8) → p.length ≤ n → p.length ≤ 256 → (Pic.shoL p).length ≤ 6 * p.length
  | 0, p, h, _ => by
    have : p = [] := List.eq_nil_of_length_eq_zero (by omega)
    rw [this]; simp [Pic.shoL, Pic.runs]
  | n + 1, [], h, _ => by simp [Pic.shoL, Pic.runs]
  | n + 1, c :: r, h, h2 => by
    have hd := Pic.drop_lt c r
    have hl := Pic.leadN_le (· == c) (c :: r)
    have h1 : 1 ≤ Pic.leadN (· == c) (c :: r) := by simp [Pic.leadN]
    rw [Pic.shoL_lead, List.length_append]
    have ih := sho_6 n ((c :: r).drop (Pic.leadN (· == c) (c :: r))) (by omega) (by omega)
    have hp := piece6 (c, Pic.leadN (· == c) (c :: r)) h1 (by omega)
    rw [List.length_drop] at ih
    simp only [] at hp
    omega
end Go.Proofs.YteceealibfemjaaGreatDoor
