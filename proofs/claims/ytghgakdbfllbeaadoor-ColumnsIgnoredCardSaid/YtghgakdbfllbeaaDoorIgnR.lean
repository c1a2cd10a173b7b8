/-
  SIZES for the law ColumnsIgnored (layer 2, columns): the text with a line put in, and the law's helper read on it.
-/
import Derived.Test.YtghgakdbfllbeaaDoorIgnQ
import Derived.Test.YtghgakdbfllbeaaDoorMrkQ
import Derived.Test.YtghgakdbfllbeaaDoorWrtQ
import Derived.Test.YtghgakdbfllbeaaDoorHlp
namespace Go.Proofs.YtghgakdbfllbeaaDoor
open Go.RowKit Go.Shelf
theorem splitNL_sum (l : List UInt8) : ((splitNL l).map List.length).sum ≤ l.length := by
  induction l with
  | nil => simp [splitNL]
  | cons c r ih =>
    by_cases hc : c = 10
    · subst hc
      rw [splitNL_nl]
      simp only [List.map_cons, List.sum_cons, List.length_nil, List.length_cons]
      omega
    · rw [splitNL_cons c r hc]
      have e := head_tail _ (splitNL_ne r)
      have e2 : ((splitNL r).headD []).length + ((splitNL r).tail.map List.length).sum = ((splitNL r).map List.length).sum := by
        conv => rhs; rw [← e]
        rw [List.map_cons, List.sum_cons]
      simp only [List.map_cons, List.sum_cons, List.length_cons]
      omega
theorem insL_sum (e m : List UInt8) (K : Nat) (ls : List (List UInt8)) (i : Nat) (he : e.length ≤ 6) (hm : m.length ≤ 80) (hi : i ≤ ls.length) :
    ((insL (edgeL e) m K ls i).map List.length).sum ≤ ((ls.take i).map List.length).sum + 78 * i + (if K < i then 80 else 0) := by
  induction i with
  | zero => simp [insL]
  | succ i ih =>
    have h := ih (by omega)
    have h1 := edge_len e (ls.getD i []) he
    have h2 : ls.take (i + 1) = ls.take i ++ [ls.getD i []] := by
      rw [List.take_add_one, List.getD_eq_getElem?_getD, List.getElem?_eq_getElem (by omega)]; rfl
    rw [insL, h2]
    simp only [List.map_append, List.sum_append, List.map_cons, List.map_nil, List.sum_cons, List.sum_nil]
    by_cases hk : i = K
    · rw [if_pos hk]
      rw [if_neg (by omega)] at h
      rw [if_pos (by omega)]
      simp only [List.map_cons, List.map_nil, List.sum_cons, List.sum_nil]
      omega
    · rw [if_neg hk]
      simp only [List.map_nil, List.sum_nil]
      split at h <;> split <;> omega
theorem join_small (e m l : List UInt8) (K : Nat) (he : e.length ≤ 6) (hm : m.length ≤ 80) (hl : l.length ≤ 2000) :
    (Lib.join (insL (edgeL e) m K (splitNL l) (splitNL l).length) [10]).length ≤ 200000 := by
  have h1 := join_len (insL (edgeL e) m K (splitNL l) (splitNL l).length)
  have h2 := insL_sum e m K (splitNL l) (splitNL l).length he hm (Nat.le_refl _)
  have h3 := insL_length (edgeL e) m K (splitNL l) (splitNL l).length
  have h4 := splitNL_len l
  have h5 := splitNL_sum l
  rw [List.take_length] at h2
  split at h2 <;> split at h3 <;> omega
theorem shown_len (cs : List CardL) : (shown cs).length ≤ totL cs + 2 * cs.length := by
  unfold shown totL
  induction cs with
  | nil => simp [Lib.join, List.intercalate]
  | cons c r ih =>
    have hc : (cardText c).length ≤ c.text.length + 1 := by
      unfold cardText; split <;> simp
    cases r with
    | nil =>
      simp [Lib.join, List.intercalate]
      omega
    | cons d r =>
      have e : Lib.join (cardText c :: cardText d :: r.map cardText) [124] = cardText c ++ 124 :: Lib.join (cardText d :: r.map cardText) [124] := by simp [Lib.join, List.intercalate]
      simp only [List.map_cons] at ih ⊢
      rw [e]
      simp only [List.length_append, List.length_cons, List.sum_cons] at ih ⊢
      omega
/-- the law's helper read on a text that is not long -/
theorem help_small (s : ByteArray) (w : World) (hs : s.size ≤ 1048576) (hn : (splitNL s.data.toList).length ≤ 70000) :
    Calls Tryd.prog 21 #[.string s] w fun e w' => e = .returned (.tuple #[.string (mk (shown (resCs (readL false s.data.toList)))), fault (resF (readL false s.data.toList))]) ∧ Below w.heap.size w w' := by
  have hT : readT false s.data.toList = readL false s.data.toList := by
    unfold readT; rw [if_neg (by rw [len_data]; omega)]
  have h1 := split_le s.data.toList
  have h2 := readT_tot false s.data.toList
  have h3 := shown_len (resCs (readT false s.data.toList))
  have h4 := List.length_filter_le (countsL false) ((chunks s.data.toList).map stripL)
  have h := help_c s w (by omega) (fun _ => by omega) (by omega) (fun c hc => by have := totL_mem _ c hc; omega) (by omega)
  rw [hT] at h
  exact h
end Go.Proofs.YtghgakdbfllbeaaDoor
