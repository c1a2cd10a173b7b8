/-
  NUMBERS read byte by byte: plain facts (layer 5, words).
-/
import Derived.Test.YtghnffdjdjlomaaDoorNumP
namespace Go.Proofs.YtghnffdjdjlomaaDoor
open Go.RowKit

theorem index_cons1 (c : UInt8) (u : List UInt8) (x : UInt8) : Lib.index (c :: u) [x] = if c = x then 0 else if Lib.index u [x] == -1 then -1 else Lib.index u [x] + 1 := by
  by_cases h : c = x
  · subst h
    simp [Lib.index, List.isPrefixOf]
  · rw [if_neg h]
    have h' : (x == c) = false := by simpa using fun e => h e.symm
    simp [Lib.index, List.isPrefixOf, h']
theorem cut_one (u : List UInt8) (x : UInt8) : (x ∉ u ∧ Lib.index u [x] = -1) ∨ ∃ f b, u = f ++ x :: b ∧ x ∉ f ∧ Lib.index u [x] = f.length := by
  induction u with
  | nil => left; exact ⟨by simp, by simp [Lib.index, List.isPrefixOf]⟩
  | cons c u ih =>
    rw [index_cons1]
    by_cases h : c = x
    · right
      exact ⟨[], u, by simp [h], by simp, by simp [h]⟩
    · rw [if_neg h]
      rcases ih with ⟨h1, h2⟩ | ⟨f, b, h1, h2, h3⟩
      · left
        refine ⟨by simp [h1]; exact fun e => h e.symm, by rw [h2]; rfl⟩
      · right
        refine ⟨c :: f, b, by rw [h1]; rfl, by simp [h2]; exact fun e => h e.symm, ?_⟩
        have hne : (((f.length : Nat) : Int) == -1) = false := by rw [beq_eq_false_iff_ne]; omega
        rw [h3, hne]
        simp
theorem cut_of (u : List UInt8) (x : UInt8) : (x ∉ u ∧ Lib.cut u [x] = (u, [], false)) ∨ ∃ f b, u = f ++ x :: b ∧ x ∉ f ∧ Lib.cut u [x] = (f, b, true) := by
  rcases cut_one u x with ⟨h1, h2⟩ | ⟨f, b, h1, h2, h3⟩
  · left; refine ⟨h1, ?_⟩; unfold Lib.cut; rw [h2, if_neg (by omega)]
  · right; refine ⟨f, b, h1, h2, ?_⟩
    unfold Lib.cut
    rw [h3, if_pos (by omega)]
    subst h1
    simp
/-- what a byte by byte reading of a number finds: digits, periods, the last byte, whether all bytes may stand there -/
def okc (c : UInt8) : Bool := dig c || c == 46
def stepN (s : Nat × Nat × UInt8 × Bool) (c : UInt8) : Nat × Nat × UInt8 × Bool := if dig c then (s.1 + 1, s.2.1, c, s.2.2.2) else if c == 46 then (s.1, s.2.1 + 1, c, s.2.2.2) else (s.1, s.2.1, c, false)
theorem dig46 (c : UInt8) (h : (c == 46) = true) : dig c = false := by
  rw [beq_iff_eq] at h; subst h; decide
theorem stepN_dig (n p : Nat) (x : UInt8) (r : Bool) (c : UInt8) (h : dig c = true) : stepN (n, p, x, r) c = (n + 1, p, c, r) := by unfold stepN; rw [if_pos h]
theorem stepN_dot (n p : Nat) (x : UInt8) (r : Bool) (c : UInt8) (h : dig c = false) (h4 : (c == 46) = true) : stepN (n, p, x, r) c = (n, p + 1, c, r) := by unfold stepN; rw [if_neg (by rw [h]; simp), if_pos h4]
theorem stepN_bad (n p : Nat) (x : UInt8) (r : Bool) (c : UInt8) (h : dig c = false) (h4 : (c == 46) = false) : stepN (n, p, x, r) c = (n, p, c, false) := by unfold stepN; rw [if_neg (by rw [h]; simp), if_neg (by rw [h4]; simp)]
theorem foldN (u : List UInt8) (n p : Nat) (x : UInt8) (r : Bool) : u.foldl stepN (n, p, x, r) = (n + u.countP dig, p + u.countP (· == 46), u.getLastD x, r && u.all okc) := by
  induction u generalizing n p x r with
  | nil => simp
  | cons c u ih =>
    rw [List.foldl_cons, List.getLastD_cons, List.countP_cons, List.countP_cons, List.all_cons]
    cases hd : dig c
    · cases h4 : (c == 46)
      · rw [stepN_bad _ _ _ _ _ hd h4, ih]
        simp [okc, hd, h4]
      · rw [stepN_dot _ _ _ _ _ hd h4, ih]
        simp [okc, hd, h4]
        omega
    · have h4 : (c == 46) = false := by
        cases h : (c == 46)
        · rfl
        · rw [dig46 c h] at hd; cases hd
      rw [stepN_dig _ _ _ _ _ hd, ih]
      simp [okc, hd, h4]
      omega
theorem count_len (u : List UInt8) (h : u.all dig = true) : u.countP dig = u.length := by
  rw [List.countP_eq_length]; exact List.all_eq_true.1 h
theorem all_split (u : List UInt8) : u.all dig = (u.all okc && decide (u.countP (· == 46) = 0)) := by
  induction u with
  | nil => rfl
  | cons c u ih =>
    rw [List.all_cons, List.all_cons, List.countP_cons, ih]
    cases h4 : (c == 46)
    · simp [okc, h4, Bool.and_assoc]
    · simp [okc, h4, dig46 c h4]
theorem isDigits_all (u : List UInt8) : isDigits u = (!u.isEmpty && u.all dig) := by
  unfold isDigits
  congr 1
  induction u with
  | nil => rfl
  | cons c u ih => rw [List.any_cons, List.all_cons, ← ih]; unfold nodig; cases dig c <;> simp
theorem last_mem (u : List UInt8) (x y : UInt8) (hx : x ≠ y) (h : u.getLastD x = y) : y ∈ u := by
  induction u generalizing x with
  | nil => exact absurd h hx
  | cons c u ih =>
    rw [List.getLastD_cons] at h
    by_cases hc : c = y
    · exact List.mem_cons.2 (.inl hc.symm)
    · exact List.mem_cons_of_mem _ (ih c hc h)
theorem cnt_zero (u : List UInt8) (h : (46 : UInt8) ∉ u) : u.countP (· == 46) = 0 := by
  rw [List.countP_eq_zero]
  intro a ha he
  rw [beq_iff_eq] at he
  exact h (he ▸ ha)
theorem lastD_app (f b : List UInt8) (c x : UInt8) : (f ++ c :: b).getLastD x = b.getLastD c := by
  induction f generalizing x with
  | nil => rw [List.nil_append, List.getLastD_cons]
  | cons a f ih => rw [List.cons_append, List.getLastD_cons, ih]
/-- whether a byte by byte reading refuses -/
def refuN (u : List UInt8) : Bool := !u.all okc || u.countP dig == 0 || decide (1 < u.countP (· == 46)) || u.getLastD 0 == 46
theorem bad_cut (u f b : List UInt8) (dv : Bool) (hc : Lib.cut u [46] = (f, b, dv)) : (!isDigits (f ++ b) || (dv && b.isEmpty)) = refuN u ∧ (isDigits (f ++ b) = true → (f ++ b).length = u.countP dig) := by
  rcases cut_of u 46 with ⟨h1, h2⟩ | ⟨f', b', h1, h2, h3⟩
  · rw [hc] at h2
    obtain ⟨rfl, rfl, rfl⟩ : f = u ∧ b = [] ∧ dv = false := by simpa using h2
    have hz := cnt_zero f h1
    have hl : (f.getLastD 0 == 46) = false := by
      rw [beq_eq_false_iff_ne]; exact fun e => h1 (last_mem f 0 46 (by decide) e)
    refine ⟨?_, fun h => ?_⟩
    · unfold refuN
      rw [List.append_nil, isDigits_all, all_split, hz, hl]
      cases ha : f.all okc
      · simp
      · have hd : f.all dig = true := by rw [all_split, ha, hz]; rfl
        rw [count_len f hd]
        cases f <;> simp
    · rw [List.append_nil] at h ⊢
      rw [isDigits_all, Bool.and_eq_true] at h
      exact (count_len f h.2).symm
  · rw [hc] at h3
    obtain ⟨rfl, rfl, rfl⟩ : f = f' ∧ b = b' ∧ dv = true := by simpa using h3
    subst h1
    have hz := cnt_zero f h2
    have hcd : (f ++ 46 :: b).countP dig = f.countP dig + b.countP dig := by
      rw [List.countP_append, List.countP_cons]; simp [show dig 46 = false from by decide]
    have hcp : (f ++ 46 :: b).countP (· == 46) = 1 + b.countP (· == 46) := by
      rw [List.countP_append, List.countP_cons, hz]; simp; omega
    have hall : (f ++ 46 :: b).all okc = (f.all okc && b.all okc) := by
      rw [List.all_append, List.all_cons]; simp [show okc 46 = true from by decide]
    have hlast : (f ++ 46 :: b).getLastD 0 = b.getLastD 46 := by
      exact lastD_app f b 46 0
    have hdd : (f ++ b).all dig = (f.all okc && (b.all okc && decide (b.countP (· == 46) = 0))) := by
      rw [List.all_append, all_split f, all_split b, hz]; simp
    refine ⟨?_, fun h => ?_⟩
    · unfold refuN
      rw [hcd, hcp, hall, hlast, isDigits_all, hdd]
      cases hf : f.all okc
      · simp
      · cases hb : b.all okc
        · simp
        · by_cases hp : b.countP (· == 46) = 0
          · have h46 : (46 : UInt8) ∉ b := fun hm => by
              rw [List.countP_eq_zero] at hp
              exact hp 46 hm (by decide)
            have hfd : f.countP dig = f.length := count_len f (by rw [all_split, hf, hz]; rfl)
            have hbd : b.countP dig = b.length := count_len b (by rw [all_split, hb, hp]; rfl)
            rw [hp, hfd, hbd]
            cases b with
            | nil => simp
            | cons x r =>
              have hl : ((x :: r).getLastD 46 == 46) = false := by
                rw [beq_eq_false_iff_ne, List.getLastD_cons]
                intro e
                exact h46 (by
                  by_cases hx : x = 46
                  · rw [hx]; exact List.mem_cons_self
                  · exact List.mem_cons_of_mem _ (last_mem r x 46 hx e))
              rw [hl]
              cases f <;> simp
          · have h1 : 1 < 1 + b.countP (· == 46) := by omega
            simp [hp, h1]
    · rw [isDigits_all, Bool.and_eq_true, List.all_append, Bool.and_eq_true] at h
      rw [hcd, count_len f h.2.1, count_len b h.2.2, List.length_append]

theorem numE_bad (l : List UInt8) : numE l = if refuN (unL l) = true then 4 else if 18 < (unL l).countP dig then 5 else 0 := by
  have h := bad_cut (unL l) (frL l) (bhL l) (dvB l) rfl
  unfold numE dgL
  rw [h.1]
  cases hb : refuN (unL l)
  · simp only [Bool.false_eq_true, if_false]
    have hd : isDigits (frL l ++ bhL l) = true := by
      have h1 := h.1
      rw [hb] at h1
      cases hi : isDigits (frL l ++ bhL l) with
      | true => rfl
      | false => rw [hi] at h1; simp at h1
    rw [h.2 hd]
  · rw [if_pos rfl, if_pos rfl]
end Go.Proofs.YtghnffdjdjlomaaDoor
