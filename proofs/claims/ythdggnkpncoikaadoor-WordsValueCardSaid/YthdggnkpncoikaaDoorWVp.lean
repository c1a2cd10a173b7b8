/-
  PLAIN FACTS for WordsValue (layer 5, words): a number's text from its parts; where the last digit with its sign stands.
-/
import Derived.Test.YthdggnkpncoikaaDoorNumP
import Derived.Test.YthdggnkpncoikaaDoorLitW
namespace Go.Proofs.YthdggnkpncoikaaDoor
open Go.RowKit

theorem cut_join (l : List UInt8) (c : UInt8) : ((Lib.cut l [c]).2.2 = true ∧ l = (Lib.cut l [c]).1 ++ c :: (Lib.cut l [c]).2.1) ∨ ((Lib.cut l [c]).2.2 = false ∧ (Lib.cut l [c]).1 = l ∧ (Lib.cut l [c]).2.1 = []) := by
  unfold Lib.cut
  rcases Lib.index_spec l [c] with ⟨h1, _⟩ | ⟨i, h1, h2, h3, _⟩
  · rw [if_neg (by omega)]; exact .inr ⟨rfl, rfl, rfl⟩
  · rw [if_pos (by omega)]
    refine .inl ⟨rfl, ?_⟩
    rw [h1]
    show l = l.take i ++ c :: l.drop (i + 1)
    unfold Lib.occAt at h3
    cases hd : l.drop i with
    | nil => rw [hd] at h3; simp [List.isPrefixOf] at h3
    | cons a r =>
      rw [hd] at h3
      simp [List.isPrefixOf] at h3
      have : l.drop (i + 1) = r := by rw [← List.drop_drop, hd]; rfl
      rw [this, h3, ← hd, List.take_append_drop]
/-- the text of a number from its parts -/
theorem back_num (l : List UInt8) (hb : dvB l = true → bhL l ≠ []) : sgL l ++ (if 0 < (bhL l).length then (dgL l).take ((dgL l).length - (bhL l).length) ++ 46 :: (dgL l).drop ((dgL l).length - (bhL l).length) else dgL l) = l := by
  have hu : sgL l ++ unL l = l := by
    unfold unL
    rcases sgL_cases l with ⟨h1, h2⟩ | ⟨_, h1, h2⟩ | ⟨_, _, h2⟩
    · obtain ⟨r, hr⟩ := hasPrefix_one _ _ h1; rw [h2, hr]; rfl
    · obtain ⟨r, hr⟩ := hasPrefix_one _ _ h1; rw [h2, hr]; rfl
    · rw [h2]; rfl
  conv => rhs; rw [← hu]
  congr 1
  have hlen : (dgL l).length - (bhL l).length = (frL l).length := by unfold dgL; rw [List.length_append]; omega
  rw [hlen]
  have h1 : (dgL l).take (frL l).length = frL l := by unfold dgL; simp
  have h2 : (dgL l).drop (frL l).length = bhL l := by unfold dgL; simp
  rw [h1, h2]
  rcases cut_join (unL l) 46 with ⟨hd, hj⟩ | ⟨hd, ha, hbn⟩
  · have hne := hb hd
    rw [if_pos (by cases h : bhL l with | nil => exact absurd h hne | cons _ _ => simp)]
    exact hj.symm
  · have hz : bhL l = [] := hbn
    rw [hz, if_neg (by simp)]
    unfold dgL
    rw [hz, List.append_nil]; exact ha
/-- the last digit with its sign: where it stands in the lists -/
theorem zone_back (c : UInt8) (h : dig c = true) :
    (Lib.indexByte zoneP ((zoneL [43]).getD (c.toNat - 48) 0) = ((c.toNat - 48 : Nat) : Int)) ∧ (Lib.indexByte zoneP ((zoneL [45]).getD (c.toNat - 48) 0) = -1) ∧ (Lib.indexByte zoneM ((zoneL [45]).getD (c.toNat - 48) 0) = ((c.toNat - 48 : Nat) : Int)) ∧
    (Lib.indexByte zoneP ((zoneL []).getD (c.toNat - 48) 0) = -1) ∧ (Lib.indexByte zoneM ((zoneL []).getD (c.toNat - 48) 0) = -1) ∧ (zoneL []).getD (c.toNat - 48) 0 = c := by
  have h1 : 48 ≤ c.toNat ∧ c.toNat ≤ 57 := by unfold dig at h; rw [Bool.and_eq_true, decide_eq_true_eq, decide_eq_true_eq] at h; omega
  obtain ⟨k, hk⟩ : ∃ k, c.toNat = 48 + k := ⟨c.toNat - 48, by omega⟩
  have hc : c = UInt8.ofNat (48 + k) := by apply UInt8.toNat_inj.1; rw [hk]; simp; omega
  have hk10 : k < 10 := by omega
  have hall : ∀ k : Fin 10, (Lib.indexByte zoneP ((zoneL [43]).getD k.val 0) = ((k.val : Nat) : Int)) ∧ (Lib.indexByte zoneP ((zoneL [45]).getD k.val 0) = -1) ∧ (Lib.indexByte zoneM ((zoneL [45]).getD k.val 0) = ((k.val : Nat) : Int)) ∧
    (Lib.indexByte zoneP ((zoneL []).getD k.val 0) = -1) ∧ (Lib.indexByte zoneM ((zoneL []).getD k.val 0) = -1) ∧ (zoneL []).getD k.val 0 = UInt8.ofNat (48 + k.val) := by decide
  have := hall ⟨k, hk10⟩
  rw [show c.toNat - 48 = k by omega, hc]
  exact this
/-- the bytes of a number: the digits but the last, and the last with its sign -/
theorem zoned_split (D sg : List UInt8) (m : Nat) (hm : D.length = m + 1) (hd : D.all dig = true) : ∃ d, D[m]? = some d ∧ dig d = true ∧ zonedL D sg = D.take m ++ [(zoneL sg).getD (d.toNat - 48) 0] ∧ D = D.take m ++ [d] := by
  have hlt : m < D.length := by omega
  refine ⟨D[m], List.getElem?_eq_getElem hlt, List.all_eq_true.1 hd _ (List.getElem_mem hlt), ?_, ?_⟩
  · unfold zonedL
    rw [hm, Nat.add_sub_cancel, List.getD_eq_getElem?_getD (l := D), List.getElem?_eq_getElem hlt, Option.getD_some, List.set_eq_take_append_cons_drop, if_pos hlt, List.drop_eq_nil_of_le (by omega)]
  · have := List.take_append_drop m D
    rw [List.drop_eq_getElem_cons hlt, List.drop_eq_nil_of_le (by omega)] at this
    exact this.symm
end Go.Proofs.YthdggnkpncoikaaDoor
