/-
  WHERE THE PARTS OF Split STAND (layer 3, tokens): plain facts.
-/
import Derived.Test.YtghnffdjdjlomaaGreatDoorSptC
namespace Go.Proofs.YtghnffdjdjlomaaGreatDoor
open Go.RowKit Go.Shelf

theorem perI_spec (l : List TokL) : (perI l = -1 ∧ ∀ t ∈ l, (t.kind == 6) = false) ∨ ∃ a t r, l = a ++ t :: r ∧ perI l = a.length ∧ (t.kind == 6) = true ∧ ∀ u ∈ a, (u.kind == 6) = false := by
  induction l with
  | nil => exact .inl ⟨rfl, fun t ht => by cases ht⟩
  | cons x l ih =>
    by_cases hx : (x.kind == 6) = true
    · exact .inr ⟨[], x, l, rfl, by unfold perI; rw [if_pos hx]; rfl, hx, fun u hu => by cases hu⟩
    · have hxf : (x.kind == 6) = false := by simpa using hx
      rcases ih with ⟨h1, h2⟩ | ⟨a, t, r, rfl, h2, h3, h4⟩
      · refine .inl ⟨by unfold perI; rw [if_neg hx, if_pos h1], fun t ht => ?_⟩
        rcases List.mem_cons.1 ht with rfl | ht
        · exact hxf
        · exact h2 t ht
      · refine .inr ⟨x :: a, t, r, rfl, ?_, h3, fun u hu => ?_⟩
        · unfold perI
          rw [if_neg hx, h2, if_neg (by omega), List.length_cons]
          omega
        · rcases List.mem_cons.1 hu with rfl | hu
          · exact hxf
          · exact h4 u hu
/-- a list and its parts -/
inductive Parts : List TokL → List (List TokL) → Prop where
  | nil : Parts [] []
  | last (l : List TokL) : 0 < l.length → (∀ t ∈ l, (t.kind == 6) = false) → Parts l [l]
  | cons (a : List TokL) (t : TokL) (r : List TokL) (ps : List (List TokL)) : (∀ u ∈ a, (u.kind == 6) = false) → (t.kind == 6) = true → Parts r ps → Parts (a ++ t :: r) (a :: ps)
theorem split_parts (l : List TokL) : Parts l (splitL l) := by
  induction hn : l.length using Nat.strongRecOn generalizing l with
  | _ n ih =>
    rcases perI_spec l with ⟨h1, h2⟩ | ⟨a, t, r, rfl, h2, h3, h4⟩
    · rw [splitL_none l (by omega)]
      by_cases h0 : l.length = 0
      · rw [if_pos h0]
        obtain rfl := List.eq_nil_of_length_eq_zero h0
        exact .nil
      · rw [if_neg h0]
        exact .last l (by omega) h2
    · rw [splitL_hit _ a.length h2]
      have e1 : (a ++ t :: r).take a.length = a := by simp
      have e2 : (a ++ t :: r).drop (a.length + 1) = r := by simp
      rw [e1, e2]
      refine .cons a t r _ h4 h3 (ih r.length ?_ r rfl)
      rw [← hn, List.length_append, List.length_cons]
      omega
/-- where part i begins -/
def startL : List (List TokL) → Nat → Nat
  | _, 0 => 0
  | [], _ => 0
  | a :: ps, i + 1 => a.length + 1 + startL ps i
theorem startL_succ (ps : List (List TokL)) (i : Nat) (h : i < ps.length) : startL ps (i + 1) = startL ps i + ps[i].length + 1 := by
  induction ps generalizing i with
  | nil => simp at h
  | cons a ps ih =>
    cases i with
    | zero => simp [startL]
    | succ i =>
      have := ih i (by simpa using h)
      rw [startL, this, List.getElem_cons_succ, startL]
      omega
/-- part i in its list -/
structure PartOf (l : List TokL) (ps : List (List TokL)) (i : Nat) (p : List TokL) : Prop where
  le : startL ps i + p.length ≤ l.length
  at_ : ∀ j (h : j < p.length), l[startL ps i + j]? = some p[j] ∧ (p[j].kind == 6) = false
  end_ : (∃ t, l[startL ps i + p.length]? = some t ∧ (t.kind == 6) = true) ∨ (startL ps i + p.length = l.length ∧ i + 1 = ps.length ∧ 0 < p.length)
theorem Parts.at_ {l : List TokL} {ps : List (List TokL)} (h : Parts l ps) : ∀ (i : Nat) (hi : i < ps.length), PartOf l ps i ps[i] := by
  induction h with
  | nil => intro i hi; simp at hi
  | last l h0 hk =>
    intro i hi
    obtain rfl : i = 0 := by simpa using hi
    refine ⟨by simp [startL], fun j hj => ?_, .inr ⟨by simp [startL], rfl, h0⟩⟩
    have hj' : j < l.length := hj
    refine ⟨?_, hk _ (List.getElem_mem _)⟩
    rw [show startL [l] 0 + j = j by simp [startL]]
    exact List.getElem?_eq_getElem hj'
  | cons a t r ps ha ht hr ih =>
    intro i hi
    cases i with
    | zero =>
      refine ⟨by simp [startL], fun j hj => ?_, .inl ⟨t, by simp [startL], ht⟩⟩
      have hj' : j < a.length := hj
      refine ⟨?_, ha _ (List.getElem_mem _)⟩
      rw [show startL (a :: ps) 0 + j = j by simp [startL], List.getElem?_append_left hj']
      exact List.getElem?_eq_getElem hj'
    | succ i =>
      have hi' : i < ps.length := by simpa using hi
      obtain ⟨h1, h2, h3⟩ := ih i hi'
      have hs : startL (a :: ps) (i + 1) = a.length + 1 + startL ps i := rfl
      have hat : ∀ q, (a ++ t :: r)[a.length + 1 + q]? = r[q]? := fun q => by
        rw [List.getElem?_append_right (by omega), show a.length + 1 + q - a.length = q + 1 by omega, List.getElem?_cons_succ]
      refine ⟨?_, fun j hj => ?_, ?_⟩
      · rw [hs, List.length_append, List.length_cons, List.getElem_cons_succ]; omega
      · obtain ⟨h4, h5⟩ := h2 j hj
        refine ⟨?_, h5⟩
        rw [hs, Nat.add_assoc, hat]
        exact h4
      · rw [hs, List.getElem_cons_succ]
        rcases h3 with ⟨u, hu, hk⟩ | ⟨h4, h5, h6⟩
        · exact .inl ⟨u, by rw [Nat.add_assoc, hat]; exact hu, hk⟩
        · refine .inr ⟨by rw [List.length_append, List.length_cons]; omega, by rw [List.length_cons]; omega, h6⟩
theorem Parts.end_ {l : List TokL} {ps : List (List TokL)} (h : Parts l ps) : l.length ≤ startL ps ps.length := by
  induction h with
  | nil => exact Nat.zero_le _
  | last l _ _ => simp [startL]
  | cons a t r ps _ _ _ ih =>
    show _ ≤ a.length + 1 + startL ps ps.length
    rw [List.length_append, List.length_cons]; omega
end Go.Proofs.YtghnffdjdjlomaaGreatDoor
