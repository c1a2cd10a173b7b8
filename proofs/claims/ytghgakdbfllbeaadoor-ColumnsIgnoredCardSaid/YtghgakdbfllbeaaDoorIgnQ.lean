/-
  WHAT THE LAW ColumnsIgnored LAYS AND WHAT IS READ OF IT (layer 2, columns). Plain facts on lists.
-/
import Derived.Test.YtghgakdbfllbeaaDoorWrtQ
namespace Go.Proofs.YtghgakdbfllbeaaDoor
open Go.RowKit

/-- the lines as the law lays them, up to one: m stands in front of line K -/
def insL (f : List UInt8 → List UInt8) (m : List UInt8) (K : Nat) (ls : List (List UInt8)) : Nat → List (List UInt8)
  | 0 => []
  | i + 1 => insL f m K ls i ++ (if i = K then [m] else []) ++ [f (ls.getD i [])]
theorem insL_low (f : List UInt8 → List UInt8) (m : List UInt8) (K : Nat) (ls : List (List UInt8)) (i : Nat) (hi : i ≤ K) (hl : i ≤ ls.length) : insL f m K ls i = (ls.take i).map f := by
  induction i with
  | zero => rfl
  | succ i ih =>
    rw [insL, ih (by omega) (by omega), if_neg (by omega), List.append_nil, List.take_succ_eq_append_getElem (by omega), List.map_append]
    rw [List.getD_eq_getElem?_getD, List.getElem?_eq_getElem (by omega)]; rfl
theorem insL_high (f : List UInt8 → List UInt8) (m : List UInt8) (K : Nat) (ls : List (List UInt8)) (j : Nat) (hl : K + 1 + j ≤ ls.length) : insL f m K ls (K + 1 + j) = (ls.take K).map f ++ m :: ((ls.drop K).take (j + 1)).map f := by
  induction j with
  | zero =>
    rw [Nat.add_zero, insL, insL_low f m K ls K (Nat.le_refl _) (by omega), if_pos rfl]
    have : (ls.drop K).take (0 + 1) = [ls[K]'(by omega)] := by
      rw [List.drop_eq_getElem_cons (by omega)]; rfl
    rw [this, List.getD_eq_getElem?_getD, List.getElem?_eq_getElem (by omega)]
    simp
  | succ j ih =>
    rw [show K + 1 + (j + 1) = (K + 1 + j) + 1 by omega, insL, ih (by omega), if_neg (by omega), List.append_nil]
    have : (ls.drop K).take (j + 1 + 1) = (ls.drop K).take (j + 1) ++ [ls[K + 1 + j]'(by omega)] := by
      rw [List.take_succ_eq_append_getElem (by rw [List.length_drop]; omega), List.getElem_drop]
      have e : K + (j + 1) = K + 1 + j := by omega
      simp only [e]
    rw [this, List.map_append, List.getD_eq_getElem?_getD, List.getElem?_eq_getElem (by omega)]
    simp
theorem insL_all (f : List UInt8 → List UInt8) (m : List UInt8) (K : Nat) (ls : List (List UInt8)) (hK : K < ls.length) : insL f m K ls ls.length = (ls.take K).map f ++ m :: (ls.drop K).map f := by
  have := insL_high f m K ls (ls.length - K - 1) (by omega)
  rw [show K + 1 + (ls.length - K - 1) = ls.length by omega, show ls.length - K - 1 + 1 = (ls.drop K).length by rw [List.length_drop]; omega, List.take_length] at this
  exact this
/-- the lines that the law puts in -/
def moreL : List (List UInt8) := [[], [32, 32, 32, 32, 32, 32, 42, 34], [32, 32, 32, 32, 32, 32, 47, 97, 110, 121, 116, 104, 105, 110, 103], [32, 32, 32, 32, 32, 32, 68, 32, 32, 32, 32, 88], [32, 32, 32, 32, 32, 32, 100, 88], List.replicate 80 32, [49, 50, 51, 52, 53, 54], [32, 32, 32, 32, 32, 32, 45]]
theorem more_blank (m : List UInt8) (h : m ∈ moreL) : Blank m ∧ 10 ∉ m ∧ m.length ≤ 80 := by
  have key : ∀ m ∈ moreL, countsL false m = false ∧ m.length ≤ 80 ∧ m.any badC = false ∧ okM (markOf m) = true := by
    intro m hm
    simp only [moreL, List.mem_cons, List.mem_nil_iff, or_false] at hm
    rcases hm with rfl | rfl | rfl | rfl | rfl | rfl | rfl | rfl <;> decide +kernel
  obtain ⟨h1, h2, h3, h4⟩ := key m h
  refine ⟨fun st n => ?_, ten_bad m h3, h2⟩
  have hc : chkL n m = (0, 0, 0) := by rw [chk_zero, chk_fst, if_neg (by omega), h3, h4]; rfl
  unfold stepL
  rw [hc, h1]; rfl
theorem edge_ten (e s : List UInt8) (hs : 10 ∉ s) : 10 ∉ edgeL e s := by
  unfold edgeL
  split
  · rename_i h
    have he : e.any badC = false := by simpa [plainL] using h.2.2.2
    have h10 := ten_bad e he
    intro hm
    simp only [List.mem_append] at hm
    rcases hm with ((hm | hm) | hm) | hm
    · rcases List.mem_append.1 (List.mem_of_mem_take hm) with h | h
      · exact h10 h
      · have := (List.mem_replicate.1 h).2; revert this; decide
    · exact hs (List.mem_of_mem_drop hm)
    · have := (List.mem_replicate.1 hm).2; revert this; decide
    · exact h10 hm
  · exact hs
theorem edge_len (e s : List UInt8) (he : e.length ≤ 6) : (edgeL e s).length ≤ s.length + 78 := by
  unfold edgeL
  split
  · simp; omega
  · omega
/-- what the law holds: Read shows the same -/
theorem ign_same (e l m : List UInt8) (he : e.length ≤ 6) (hm : m ∈ moreL) (K : Nat) (hK : K < (splitNL l).length) (J : List UInt8) (hJ : J = Lib.join (insL (edgeL e) m K (splitNL l) (splitNL l).length) [10]) :
    splitNL J = insL (edgeL e) m K (splitNL l) (splitNL l).length ∧
    shown (resCs (readL false l)) = shown (resCs (readL false J)) ∧ (resF (readL false l)).1 = (resF (readL false J)).1 ∧ ((resF (readL false l)).1 = 0 → resF (readL false l) = (0, 0, 0)) ∧ ((resF (readL false J)).1 = 0 → resF (readL false J) = (0, 0, 0)) := by
  have hall := insL_all (edgeL e) m K (splitNL l) hK
  have hsp : splitNL J = insL (edgeL e) m K (splitNL l) (splitNL l).length := by
    rw [hJ]
    refine splitNL_join _ ?_ ?_
    · rw [hall]; simp
    · rw [hall]
      intro x hx
      rcases List.mem_append.1 hx with hx | hx
      · obtain ⟨y, hy, rfl⟩ := List.mem_map.1 hx
        exact edge_ten e y (splitNL_mem l y (List.mem_of_mem_take hy))
      · rcases List.mem_cons.1 hx with rfl | hx
        · exact (more_blank x hm).2.1
        · obtain ⟨y, hy, rfl⟩ := List.mem_map.1 hx
          exact edge_ten e y (splitNL_mem l y (List.mem_of_mem_drop hy))
  refine ⟨hsp, ?_⟩
  have hrun := run_ins (edgeL e) m (more_blank m hm).1 ((splitNL l).take K) ((splitNL l).drop K) (fun x _ => edge_alike e x he)
  rw [List.take_append_drop, ← hall, ← hsp] at hrun
  have := end_sim hrun
  rw [show lastR (runL false .ini 0 (splitNL l)) = readL false l from (readL_split false l).symm, show lastR (runL false .ini 0 (splitNL J)) = readL false J from (readL_split false J).symm] at this
  exact this
theorem splitNL_each (l x : List UInt8) (h : x ∈ splitNL l) : x.length ≤ l.length := by
  induction l generalizing x with
  | nil => simp [splitNL] at h; subst h; simp
  | cons c r ih =>
    by_cases hc : c = 10
    · subst hc
      rw [splitNL_nl] at h
      rcases List.mem_cons.1 h with rfl | h
      · simp
      · have := ih x h; rw [List.length_cons]; omega
    · rw [splitNL_cons c r hc] at h
      rcases List.mem_cons.1 h with rfl | h
      · have := ih ((splitNL r).headD []) (by rw [← head_tail _ (splitNL_ne r)]; simp)
        rw [List.length_cons, List.length_cons]; omega
      · have := ih x (List.mem_of_mem_tail h); rw [List.length_cons]; omega
/-- how long the laid lines are together -/
theorem join_len (xs : List (List UInt8)) : (Lib.join xs [10]).length ≤ (xs.map List.length).sum + xs.length := by
  induction xs with
  | nil => simp [Lib.join, List.intercalate]
  | cons x r ih =>
    cases r with
    | nil => simp [Lib.join, List.intercalate]
    | cons y r =>
      have e : Lib.join (x :: y :: r) [10] = x ++ 10 :: Lib.join (y :: r) [10] := by simp [Lib.join, List.intercalate]
      rw [e]
      simp only [List.length_append, List.length_cons, List.map_cons, List.sum_cons] at ih ⊢
      omega
theorem insL_length (f : List UInt8 → List UInt8) (m : List UInt8) (K : Nat) (ls : List (List UInt8)) (i : Nat) : (insL f m K ls i).length ≤ i + (if K < i then 1 else 0) := by
  induction i with
  | zero => simp [insL]
  | succ i ih =>
    rw [insL, List.length_append, List.length_append]
    by_cases h : i = K
    · subst h; simp at ih ⊢; omega
    · rw [if_neg h]
      split at ih <;> split <;> simp <;> omega
theorem insL_each (e m : List UInt8) (K : Nat) (ls : List (List UInt8)) (i B : Nat) (he : e.length ≤ 6) (hm : m.length ≤ 80) (hl : ∀ x ∈ ls, x.length ≤ B) : ∀ x ∈ insL (edgeL e) m K ls i, x.length ≤ B + 80 := by
  induction i with
  | zero => simp [insL]
  | succ i ih =>
    intro x hx
    rw [insL] at hx
    rcases List.mem_append.1 hx with hx | hx
    · rcases List.mem_append.1 hx with hx | hx
      · exact ih x hx
      · split at hx
        · rw [List.mem_singleton.1 hx]; omega
        · simp at hx
    · rw [List.mem_singleton.1 hx]
      have h1 := edge_len e (ls.getD i []) he
      have h2 : (ls.getD i []).length ≤ B := by
        rw [List.getD_eq_getElem?_getD]
        cases h : ls[i]? with
        | none => simp
        | some y => exact hl y (List.mem_of_getElem? h)
      omega
theorem sum_le (xs : List (List UInt8)) (B : Nat) (h : ∀ x ∈ xs, x.length ≤ B) : (xs.map List.length).sum ≤ xs.length * B := by
  induction xs with
  | nil => simp
  | cons x r ih =>
    have h1 := h x (by simp)
    have h2 := ih (fun y hy => h y (by simp [hy]))
    rw [List.map_cons, List.sum_cons, List.length_cons, Nat.succ_mul]; omega
end Go.Proofs.YtghgakdbfllbeaaDoor
