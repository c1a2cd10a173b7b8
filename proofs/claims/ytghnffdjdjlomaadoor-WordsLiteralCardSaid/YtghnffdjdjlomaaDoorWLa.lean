/-
  THE LAW WordsLiteral: what Literal answers at numbers of digits; the way without a digit (layer 5, words).
-/
import Derived.Test.YtghnffdjdjlomaaDoorNumT
namespace Go.Proofs.YtghnffdjdjlomaaDoor
open Go.RowKit Go.Shelf

/-- a variable of law 05's type N -/
def NB (w : World) (b : Nat) (sn : Int) (x y : ByteArray) : Prop := w.heap[b]? = some (.cells #[.int .u8 sn, .string x, .string y] 47 (0, 0))
theorem NB.cells {w : World} {b : Nat} {sn : Int} {x y : ByteArray} (h : NB w b sn x y) : w.cell? ⟨b, 0, none⟩ = some (.int .u8 sn) ∧ w.cell? ⟨b, 1, none⟩ = some (.string x) ∧ w.cell? ⟨b, 2, none⟩ = some (.string y) :=
  ⟨cell_of_row w b 0 _ _ _ h, cell_of_row w b 1 _ _ _ h, cell_of_row w b 2 _ _ _ h⟩
theorem NB.below {w w' : World} {b : Nat} {sn : Int} {x y : ByteArray} (h : NB w b sn x y) {B : Nat} (hb : Below B w w') (hl : b < B) : NB w' b sn x y := by
  unfold NB; rw [hb.block b hl]; exact h
/-- what Literal answers at a number composed of digits -/
theorem lit_numT (sg a b : List UInt8) (hsg : sg = [] ∨ sg = [43] ∨ sg = [45]) (ha : a.all dig = true) (hb : b.all dig = true) (hne : a ++ b ≠ []) (hl : (a ++ b).length ≤ 18) :
    litR 2 (numT sg a b) = .ok ⟨4, (if sg = [] then [] else [83]) ++ (nines a.length ++ if b = [] then [] else 86 :: nines b.length), (a ++ b).length, b.length, !sg.isEmpty, zonedL (a ++ b) sg⟩ := by
  obtain ⟨h1, h2, h3, h4, h5, h6⟩ := numT_parts sg a b hsg ha hb hne hl
  show numR _ = _
  unfold numR
  rw [if_pos h5]
  unfold picL
  rw [h1, h3, h4, h6]
  rcases hsg with rfl | rfl | rfl <;> rfl
theorem dig_cases (c : UInt8) (h : dig c = true) : c = 48 ∨ c = 49 ∨ c = 50 ∨ c = 51 ∨ c = 52 ∨ c = 53 ∨ c = 54 ∨ c = 55 ∨ c = 56 ∨ c = 57 := by
  unfold dig at h
  rw [Bool.and_eq_true, decide_eq_true_eq, decide_eq_true_eq] at h
  have h2 : ∀ d : UInt8, c.toNat = d.toNat → c = d := fun d e => UInt8.toNat_inj.1 e
  have h3 : c.toNat = 48 ∨ c.toNat = 49 ∨ c.toNat = 50 ∨ c.toNat = 51 ∨ c.toNat = 52 ∨ c.toNat = 53 ∨ c.toNat = 54 ∨ c.toNat = 55 ∨ c.toNat = 56 ∨ c.toNat = 57 := by omega
  rcases h3 with e | e | e | e | e | e | e | e | e | e
  · exact .inl (h2 48 e)
  · exact .inr (.inl (h2 49 e))
  · exact .inr (.inr (.inl (h2 50 e)))
  · exact .inr (.inr (.inr (.inl (h2 51 e))))
  · exact .inr (.inr (.inr (.inr (.inl (h2 52 e)))))
  · exact .inr (.inr (.inr (.inr (.inr (.inl (h2 53 e))))))
  · exact .inr (.inr (.inr (.inr (.inr (.inr (.inl (h2 54 e)))))))
  · exact .inr (.inr (.inr (.inr (.inr (.inr (.inr (.inl (h2 55 e))))))))
  · exact .inr (.inr (.inr (.inr (.inr (.inr (.inr (.inr (.inl (h2 56 e)))))))))
  · exact .inr (.inr (.inr (.inr (.inr (.inr (.inr (.inr (.inr (h2 57 e)))))))))
theorem zone0_at (c : UInt8) (h : dig c = true) : (zoneL []).getD (c.toNat - 48) 0 = c := by
  rcases dig_cases c h with rfl | rfl | rfl | rfl | rfl | rfl | rfl | rfl | rfl | rfl <;> rfl
theorem zoned_none (ds : List UInt8) (hd : ds.all dig = true) : zonedL ds [] = ds := by
  unfold zonedL
  apply List.ext_getElem?
  intro j
  rw [List.getElem?_set]
  by_cases h : ds.length - 1 = j
  · rw [if_pos h]
    subst h
    by_cases h2 : ds.length - 1 < ds.length
    · rw [if_pos h2, List.getElem?_eq_getElem h2]
      have hg : ds.getD (ds.length - 1) 0 = ds[ds.length - 1] := by simp [List.getD, List.getElem?_eq_getElem h2]
      have hx := List.all_eq_true.1 hd _ (List.getElem_mem h2)
      rw [hg]
      exact congrArg some (zone0_at _ hx)
    · rw [if_neg h2, List.getElem?_eq_none (by omega)]
  · rw [if_neg h]
theorem LitLaw_none (sn : Int) (x y : ByteArray) (w : World) (hx : x.size ≤ maxLen) (hy : y.size ≤ maxLen) (h1 : x.size = 0) (h2 : y.size = 0) (hasc : AscS w) (hmx : MaxW w) :
    Calls Tryd.prog 6 #[.agg #[.int .u8 sn, .string x, .string y]] w fun e w' => e = .returned (.bool true) ∧ Below w.heap.size w w' := by
  have HLv : Hid (∀ W, Below w.heap.size w W → Calls Tryd.prog 17 #[] W fun e w' => e = .returned (.bool true) ∧ Below W.heap.size W w') := fun W hb => livesW_c W (hasc.below (.inl (Nat.le_refl _)) hb) (hmx.below hb)
  have HX : Hid (∀ W, Calls Tryd.prog 23 #[.string x, .int .i64 12] W fun e w' => e = .returned (.string (mk [])) ∧ Below W.heap.size W w') := fun W => by
    have := digits_c x 12 W hx (by omega)
    rw [show dgts x.data.toList 12 = [] by unfold dgts; rw [List.eq_nil_of_length_eq_zero (show x.data.toList.length = 0 by rw [len_data]; exact h1)]; rfl] at this
    exact this
  have HY : Hid (∀ W, Calls Tryd.prog 23 #[.string y, .int .i64 6] W fun e w' => e = .returned (.string (mk [])) ∧ Below W.heap.size W w') := fun W => by
    have := digits_c y 6 W hy (by omega)
    rw [show dgts y.data.toList 6 = [] by unfold dgts; rw [List.eq_nil_of_length_eq_zero (show y.data.toList.length = 0 by rw [len_data]; exact h2)]; rfl] at this
    exact this
  have HB0 := hide ((Below.refl _ w).alloc (Nat.le_refl _) (.cells #[.int .u8 sn, .string x, .string y] 47))
  have HN0 : Hid (NB (w.alloc (.cells #[.int .u8 sn, .string x, .string y] 47)) w.heap.size sn x y) := heap_alloc_new w _
  clear hasc hmx
  go_enter Tryd.func6, Tryd.ntmps6
  go_wp2_with fail
  refine (HX.out _).mono ?_
  rintro e w1 ⟨rfl, hb1⟩
  have hn1 := HN0.out.below hb1 (by simp)
  have HB1 := hide (HB0.out.trans (hb1.mono HB0.out.size))
  obtain ⟨c0, c1, c2⟩ := hn1.cells
  clear hb1 hn1
  go_wp2_with fail
  refine (HY.out _).mono ?_
  rintro e w2 ⟨rfl, hb2⟩
  have HB2 := hide (HB1.out.trans (hb2.mono HB1.out.size))
  clear hb2 c0 c1 c2
  have he : (mk [] ++ mk []).toList.isEmpty = true := by rw [ByteArray.toList_eq]; rfl
  have hz : (mk []).size = 0 := rfl
  go_wp2_with fail
  refine (HLv.out _ HB2.out).mono ?_
  rintro e w3 ⟨rfl, hb3⟩
  have HB3 := hide (HB2.out.trans (hb3.mono HB2.out.size))
  clear hb3
  go_wp2_with fail
  go_ret
  exact ⟨rfl, HB3.out⟩
end Go.Proofs.YtghnffdjdjlomaaDoor
