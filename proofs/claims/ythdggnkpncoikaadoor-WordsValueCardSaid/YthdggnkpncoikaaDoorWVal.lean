/-
  THE LAW WordsValue, walked (layer 5, words).
-/
import Derived.Test.YthdggnkpncoikaaDoorWVp
import Derived.Test.YthdggnkpncoikaaDoorLvX
namespace Go.Proofs.YthdggnkpncoikaaDoor
open Go.RowKit Go.Shelf

theorem ValLaw_far (s : ByteArray) (w : World) (hs : s.size ≤ maxLen) (h : 40 < s.size) (hasc : AscS w) (hmx : MaxW w) :
    Calls Tryd.prog 5 #[.string s] w fun e w' => e = .returned (.bool true) ∧ Below w.heap.size w w' := by
  unfold maxLen at hs
  have HL := hide (livesW_c w hasc hmx)
  clear hasc hmx
  go_enter Tryd.func5, Tryd.ntmps5
  go_wp2_with fail
  refine HL.out.mono ?_
  rintro e w1 ⟨rfl, hb⟩
  go_wp2_with fail
  go_ret
  exact ⟨rfl, hb⟩
set_option maxRecDepth 100000 in
set_option maxHeartbeats 4000000 in
theorem ValLaw_bad (s : ByteArray) (w : World) (hs : s.size ≤ 40) (hE : numE s.data.toList ≠ 0) (hasc : AscS w) (hmx : MaxW w) :
    Calls Tryd.prog 5 #[.string s] w fun e w' => e = .returned (.bool true) ∧ Below w.heap.size w w' := by
  have HLv : Hid (∀ W, Below w.heap.size w W → Calls Tryd.prog 18 #[] W fun e w' => e = .returned (.bool true) ∧ Below W.heap.size W w') := fun W hb => livesW_c W (hasc.below (.inl (Nat.le_refl _)) hb) (hmx.below hb)
  have hE2 : numE s.data.toList = 4 ∨ numE s.data.toList = 5 := by
    unfold numE at hE ⊢
    split
    · exact .inl rfl
    · rename_i h; rw [if_neg h] at hE
      split
      · exact .inr rfl
      · rename_i h2; rw [if_neg h2] at hE; exact absurd rfl hE
  have HL1 := hide ((Literal_r 2 s 0 0 false w (by omega) hmx).mono fun e w' h => h.err (E := numE s.data.toList) (by show numR _ = _; unfold numR; rw [if_neg hE]))
  clear hasc hmx hE
  have h40 : ¬ (40 : Int) < (s.size : Int) := by omega
  rcases hE2 with hE2 | hE2 <;> rw [hE2] at HL1 <;> clear hE2
  all_goals
    go_enter Tryd.func5, Tryd.ntmps5
    go_wp2_with fail
    refine HL1.out.mono ?_
    rintro e W1 ⟨rfl, hb1⟩
    unfold fieldZ fieldV shapeV
    simp only [List.cons_append, List.nil_append]
    have HB1 := hide (hb1.alloc hb1.size (.cells #[.int .u8 0, .int .u8 0, .string ⟨#[]⟩, .int .i64 0, .int .i64 0, .bool false, .bool false, .bool false, .bool false, .bool false, .int .i64 0, .slice none 0 0] 49))
    clear hb1
    go_wp2_with fail
    refine (HLv.out _ HB1.out).mono ?_
    rintro e W2 ⟨rfl, hb2⟩
    go_wp2_with fail
    go_ret
    exact ⟨rfl, HB1.out.trans (hb2.mono HB1.out.size)⟩
theorem extract_mk (Y : ByteArray) (a b : Nat) : Y.extract a b = mk ((Y.data.toList.drop a).take (b - a)) := by
  rw [show (Y.data.toList.drop a).take (b - a) = (Y.extract a b).data.toList by rw [Lib.extract_data], mk_of]
theorem val_text (s Y : ByteArray) (D sg : List UInt8) (sc q : Nat) (hY : Y = mk D) (hq : D.length = q + sc) (hsc : 0 < sc) (hb : sg ++ (if 0 < sc then D.take (D.length - sc) ++ 46 :: D.drop (D.length - sc) else D) = s.data.toList) :
    mk sg ++ (Y.extract 0 q ++ ⟨#[46]⟩ ++ Y.extract q Y.size) = s := by
  rw [if_pos hsc, show D.length - sc = q by omega] at hb
  have h1 : Y.extract 0 q = mk (D.take q) := by rw [extract_mk, hY]; rfl
  have h2 : Y.extract q Y.size = mk (D.drop q) := by
    rw [extract_mk, hY, mk_sz, mk_data, List.take_of_length_le (by rw [List.length_drop]; omega)]
  rw [h1, h2, show (⟨#[46]⟩ : ByteArray) = mk [46] from rfl, app_mk, app_mk, app_mk, ← mk_of s, ← hb]
  congr 1
  simp
theorem val_text0 (s Y : ByteArray) (D sg : List UInt8) (sc : Nat) (hY : Y = mk D) (hsc : ¬ 0 < sc) (hb : sg ++ (if 0 < sc then D.take (D.length - sc) ++ 46 :: D.drop (D.length - sc) else D) = s.data.toList) :
    mk sg ++ Y = s := by
  rw [if_neg hsc] at hb
  rw [hY, app_mk, hb, mk_of]
theorem isDigits_all (l : List UInt8) (h : isDigits l = true) : l.all dig = true := by
  unfold isDigits at h
  rw [Bool.and_eq_true] at h
  have h2 := h.2
  rw [List.all_eq_true]
  intro x hx
  cases hd : dig x with
  | true => rfl
  | false =>
    have : l.any nodig = true := List.any_eq_true.2 ⟨x, hx, by unfold nodig; rw [hd]; rfl⟩
    rw [this] at h2; cases h2
set_option maxRecDepth 100000 in
set_option maxHeartbeats 4000000 in
theorem ValLaw_ok (s : ByteArray) (w : World) (hs : s.size ≤ 40) (hE : numE s.data.toList = 0) (hasc : AscS w) (hmx : MaxW w) :
    Calls Tryd.prog 5 #[.string s] w fun e w' => e = .returned (.bool true) ∧ Below w.heap.size w w' := by
  have HLv : Hid (∀ W, Below w.heap.size w W → Calls Tryd.prog 18 #[] W fun e w' => e = .returned (.bool true) ∧ Below W.heap.size W w') := fun W hb => livesW_c W (hasc.below (.inl (Nat.le_refl _)) hb) (hmx.below hb)
  obtain ⟨hdig, hdb, h18⟩ := numE_zero _ hE
  have hpos := digits_pos _ hdig
  obtain ⟨D, hD⟩ : ∃ D, D = dgL s.data.toList := ⟨_, rfl⟩
  obtain ⟨sg, hsg⟩ : ∃ sg, sg = sgL s.data.toList := ⟨_, rfl⟩
  obtain ⟨sc, hsc⟩ : ∃ sc, sc = (bhL s.data.toList).length := ⟨_, rfl⟩
  have hback := back_num s.data.toList hdb
  have hscl : sc ≤ D.length := by rw [hsc, hD]; unfold dgL; rw [List.length_append]; omega
  have hL := (Literal_r 2 s 0 0 false w (by omega) hmx).mono fun e w' h => h.ok (f := ⟨4, picL s.data.toList, (dgL s.data.toList).length, (bhL s.data.toList).length, !(sgL s.data.toList).isEmpty, zonedL (dgL s.data.toList) (sgL s.data.toList)⟩) (by show numR _ = _; unfold numR; rw [if_pos hE])
  simp only [zonedL_len] at hL
  rw [← hD] at hdig hpos h18
  rw [← hD, ← hsg, ← hsc] at hback hL
  have hsgc : sg = [43] ∨ sg = [45] ∨ sg = [] := by
    rcases sgL_cases s.data.toList with ⟨_, h⟩ | ⟨_, _, h⟩ | ⟨_, _, h⟩
    · exact .inl (hsg.trans h)
    · exact .inr (.inl (hsg.trans h))
    · exact .inr (.inr (hsg.trans h))
  obtain ⟨pic, hpic⟩ : ∃ pic, pic = mk (picL s.data.toList) := ⟨_, rfl⟩
  rw [← hpic] at hL
  obtain ⟨m, hm⟩ : ∃ m, D.length = m + 1 := ⟨D.length - 1, by omega⟩
  have hall : D.all dig = true := isDigits_all _ hdig
  obtain ⟨d, hdm, hdd, hz, hDs⟩ := zoned_split D sg m hm hall
  obtain ⟨z, hzz⟩ : ∃ z, z = (zoneL sg).getD (d.toNat - 48) 0 := ⟨_, rfl⟩
  rw [← hzz] at hz
  rw [hm] at hL hscl h18
  rw [hz] at hL
  have htl : (D.take m).length = m := by rw [List.length_take]; omega
  obtain ⟨T, hT⟩ : ∃ T, T = D.take m := ⟨_, rfl⟩
  rw [← hT] at hL hDs htl
  obtain ⟨fl, hfl⟩ : ∃ fl, fl = !sg.isEmpty := ⟨_, rfl⟩
  rw [← hfl] at hL
  have HL1 := hide hL
  have HTL := hide htl
  have hT17 : T.length ≤ 17 := by omega
  have HB := hide hback
  have HDS := hide hDs
  have HM := hide hm
  have HFL := hide hfl
  have HZZ := hide hzz
  have hm17 : m ≤ 17 := by omega
  clear hL htl hback hDs hm hfl hzz hdig hpos hall hdm hz hdb hE hasc hmx hD hsg hsc hpic hT
  have h40 : ¬ (40 : Int) < (s.size : Int) := by omega
  have t1 : ((m : Int) + 1 == 0) = false := beq_eq_false_iff_ne.2 (by omega)
  have t2 : decide ((sc : Int) < 0) = false := decide_eq_false (by omega)
  have t3 : decide ((m : Int) + 1 < (sc : Int)) = false := decide_eq_false (by omega)
  go_enter Tryd.func5, Tryd.ntmps5
  go_wp2_with fail
  refine HL1.out.mono ?_
  rintro e W1 ⟨g, rfl, hg, hrow, hb1⟩
  unfold fieldV shapeV
  simp only [List.cons_append, List.nil_append]
  obtain ⟨V1, hV1⟩ : ∃ V1, V1 = W1.alloc (.cells #[.int .u8 4, .int .u8 0, .string pic, .int .i64 ((m : Int) + 1), .int .i64 sc, .bool fl, .bool false, .bool false, .bool false, .bool false, .int .i64 ((m : Int) + 1), .slice (some ⟨g, 0, none⟩) (m + 1) (m + 1)] 49) := ⟨_, rfl⟩
  have hrow1 : Row V1 g (T ++ [z]) := by rw [hV1]; exact hrow.alloc _
  have hslT : Sl V1 V1.heap.size (some ⟨g, 0, none⟩) T := .inr ⟨g, 0, rfl, hrow1.1, fun j u hu => by rw [Nat.zero_add]; exact (hrow1.2 j u (by rw [List.getElem?_append_left (List.getElem?_eq_some_iff.1 hu).1]; exact hu)).1⟩
  have hslZ : Sl V1 V1.heap.size (some ⟨g, 0 + m, none⟩) [z] := by
    have := (hrow1.sl hrow1.1).drop m
    rwa [show (T ++ [z]).drop m = [z] by rw [← HTL.out]; simp] at this
  have hcT := hslT.text m (m + 1) HTL.out.symm
  have hcZ := hslZ.text 1 1 rfl
  have HB1 : Hid (Below w.heap.size w V1) := by unfold Hid; rw [hV1]; exact hb1.alloc hb1.size _
  rw [Nat.zero_add] at hcZ
  rw [hV1] at hcT hcZ
  clear hrow hrow1 hslT hslZ hb1 HL1
  go_wp2_with fail
  with_reducible rw [← hV1]
  clear hcT hcZ
  have HVB : Hid (V1.heap[W1.heap.size]? = some (.cells #[.int .u8 4, .int .u8 0, .string pic, .int .i64 ((m : Int) + 1), .int .i64 sc, .bool fl, .bool false, .bool false, .bool false, .bool false, .int .i64 ((m : Int) + 1), .slice (some ⟨g, 0, none⟩) (m + 1) (m + 1)] 49 (0, 0))) := by unfold Hid; rw [hV1]; exact heap_alloc_new W1 _
  clear hV1
  have hzb := zone_back d hdd
  obtain ⟨k, hk⟩ : ∃ k, k = d.toNat - 48 := ⟨_, rfl⟩
  have hk9 : k ≤ 9 := by
    unfold dig at hdd
    rw [Bool.and_eq_true, decide_eq_true_eq, decide_eq_true_eq] at hdd
    omega
  have HDZ : Hid (((⟨#[48, 49, 50, 51, 52, 53, 54, 55, 56, 57]⟩ : ByteArray).extract k 10).extract 0 1 = ⟨#[d]⟩) := by
    unfold Hid
    have hall : ∀ j : Fin 10, ((⟨#[48, 49, 50, 51, 52, 53, 54, 55, 56, 57]⟩ : ByteArray).extract j.val 10).extract 0 1 = ⟨#[UInt8.ofNat (48 + j.val)]⟩ := by decide
    have := hall ⟨k, by omega⟩
    rw [this]
    have hd2 : d = UInt8.ofNat (48 + k) := by
      unfold dig at hdd
      rw [Bool.and_eq_true, decide_eq_true_eq, decide_eq_true_eq] at hdd
      apply UInt8.toNat_inj.1; rw [hk]; simp; omega
    show (⟨#[UInt8.ofNat (48 + k)]⟩ : ByteArray) = ⟨#[d]⟩
    rw [← hd2]
  rw [← hk] at hzb
  have HK := hide hk
  rcases hsgc with hs1 | hs1 | hs1
  · subst hs1
    have HCP : Hid (∀ W, Calls Tryd.prog 20 #[.string ⟨#[123, 65, 66, 67, 68, 69, 70, 71, 72, 73]⟩, .string ⟨#[z]⟩] W fun e w' => e = .returned (.bool true) ∧ W = w') := fun W => by
      refine (Tryd.strings_Contains_one ⟨#[123, 65, 66, 67, 68, 69, 70, 71, 72, 73]⟩ z W).mono fun e w' h => ⟨?_, h.2.symm⟩
      rw [h.1]
      show Ending.returned (.bool (decide (0 ≤ Lib.indexByte zoneP z))) = _
      rw [HZZ.out, ← HK.out, hzb.1, decide_eq_true (by omega)]
    have HIP : Hid (∀ W, Calls Tryd.prog 21 #[.string ⟨#[123, 65, 66, 67, 68, 69, 70, 71, 72, 73]⟩, .string ⟨#[z]⟩] W fun e w' => e = .returned (.int .i64 (k : Int)) ∧ W = w') := fun W => by
      refine (Tryd.strings_Index_one ⟨#[123, 65, 66, 67, 68, 69, 70, 71, 72, 73]⟩ z W).mono fun e w' h => ⟨?_, h.2.symm⟩
      rw [h.1]
      show Ending.returned (.int .i64 (Lib.indexByte zoneP z)) = _
      rw [HZZ.out, ← HK.out, hzb.1]
    clear hzb hk
    refine (HCP.out _).mono ?_
    rintro e w' ⟨rfl, rfl⟩
    go_wp2_with fail
    refine (HIP.out _).mono ?_
    rintro e w' ⟨rfl, rfl⟩
    clear HCP HIP
    go_upto_region 17 with fail
    have hX : (⟨T.toArray⟩ : ByteArray) ++ ((⟨#[48, 49, 50, 51, 52, 53, 54, 55, 56, 57]⟩ : ByteArray).extract k 10).extract 0 1 = mk D := by
      rw [HDZ.out, HDS.out, ← app_mk]; rfl
    with_reducible rw [hX]
    clear hX
    obtain ⟨Y, hY⟩ : ∃ Y, Y = mk D := ⟨_, rfl⟩
    with_reducible rw [← hY]
    have hYs : Y.size = m + 1 := by rw [hY, mk_sz, HM.out]
    obtain ⟨q, hq⟩ : ∃ q : Nat, m + 1 = q + sc := ⟨m + 1 - sc, by omega⟩
    have c4 := cell_of_row V1 W1.heap.size 4 _ _ _ HVB.out
    have c5 := cell_of_row V1 W1.heap.size 5 _ _ _ HVB.out
    have c3 := cell_of_row V1 W1.heap.size 3 _ _ _ HVB.out
    have hfl1 : fl = true := HFL.out
    subst hfl1
    have HY := hide hY
    clear hY
    by_cases hsc0 : 0 < sc
    · have hsi : decide ((0 : Int) < (sc : Int)) = true := decide_eq_true (by omega)
      have hsz : (Y.size : Int) = (q : Int) + sc := by omega
      have hwr : IntKind.i64.wrap ((m : Int) + 1 - (sc : Int)) = (q : Int) := by
        rw [IntWalk.i64_in _ (by omega)]; omega
      have hq17 : (q : Int) ≤ (Y.size : Int) := by omega
      have hq0 : (0 : Int) ≤ (q : Int) := by omega
      have hq18 : Y.size ≤ 18 := by omega
      have hqn : q ≤ Y.size := by omega
      have HYs := hide hYs
      have HQ := hide hq
      clear hYs hq hsz
      go_wp2_with fail
      go_quiet (fail)
      obtain ⟨Z, hZ⟩ : ∃ Z, Z = Y.extract 0 q ++ ⟨#[46]⟩ ++ Y.extract q Y.size := ⟨_, rfl⟩
      with_reducible rw [← hZ]
      have hZe : mk [43] ++ Z = s := by rw [hZ]; exact val_text s Y D [43] sc q HY.out (by rw [HM.out, HQ.out]) hsc0 HB.out
      have hZq : ((⟨#[43]⟩ ++ Z : ByteArray).toList == s.toList) = true := by rw [show (⟨#[43]⟩ ++ Z : ByteArray) = s from hZe]; exact beq_self_eq_true _
      have hZs : Z.size ≤ 40 := by
        have := congrArg ByteArray.size hZe
        rw [ByteArray.size_append] at this; omega
      obtain ⟨V2, hV2⟩ : ∃ V2, V2 = V1.drewN nq := ⟨_, rfl⟩
      have HB2 : Hid (Below w.heap.size w V2) := by unfold Hid; rw [hV2]; exact below_drewN' HB1.out _
      have d3 : V2.cell? ⟨W1.heap.size, 3, none⟩ = some (.int .i64 ((m : Int) + 1)) := by rw [hV2]; exact c3
      have d5 : V2.cell? ⟨W1.heap.size, 5, none⟩ = some (.bool true) := by rw [hV2]; exact c5
      with_reducible rw [← hV2]
      clear hV2 hZ hZe c3 c4 c5
      go_wp2_with fail
      refine (HLv.out _ HB2.out).mono ?_
      rintro e W2 ⟨rfl, hb2⟩
      go_wp2_with fail
      go_ret
      exact ⟨rfl, HB2.out.trans (hb2.mono HB2.out.size)⟩
    · have hsi : decide ((0 : Int) < (sc : Int)) = false := decide_eq_false (by omega)
      have hZe : mk [43] ++ Y = s := val_text0 s Y D [43] sc HY.out hsc0 HB.out
      have hZq : ((⟨#[43]⟩ ++ Y : ByteArray).toList == s.toList) = true := by rw [show (⟨#[43]⟩ ++ Y : ByteArray) = s from hZe]; exact beq_self_eq_true _
      have hYl : Y.size ≤ 40 := by omega
      clear hZe hYs hq
      go_wp2_with fail
      refine (HLv.out _ HB1.out).mono ?_
      rintro e W2 ⟨rfl, hb2⟩
      go_wp2_with fail
      go_ret
      exact ⟨rfl, HB1.out.trans (hb2.mono HB1.out.size)⟩
  · subst hs1
    have HCP : Hid (∀ W, Calls Tryd.prog 20 #[.string ⟨#[123, 65, 66, 67, 68, 69, 70, 71, 72, 73]⟩, .string ⟨#[z]⟩] W fun e w' => e = .returned (.bool false) ∧ W = w') := fun W => by
      refine (Tryd.strings_Contains_one ⟨#[123, 65, 66, 67, 68, 69, 70, 71, 72, 73]⟩ z W).mono fun e w' h => ⟨?_, h.2.symm⟩
      rw [h.1]
      show Ending.returned (.bool (decide (0 ≤ Lib.indexByte zoneP z))) = _
      rw [HZZ.out, ← HK.out, hzb.2.1]; rfl
    have HCM : Hid (∀ W, Calls Tryd.prog 20 #[.string ⟨#[125, 74, 75, 76, 77, 78, 79, 80, 81, 82]⟩, .string ⟨#[z]⟩] W fun e w' => e = .returned (.bool true) ∧ W = w') := fun W => by
      refine (Tryd.strings_Contains_one ⟨#[125, 74, 75, 76, 77, 78, 79, 80, 81, 82]⟩ z W).mono fun e w' h => ⟨?_, h.2.symm⟩
      rw [h.1]
      show Ending.returned (.bool (decide (0 ≤ Lib.indexByte zoneM z))) = _
      rw [HZZ.out, ← HK.out, hzb.2.2.1, decide_eq_true (by omega)]
    have HIP : Hid (∀ W, Calls Tryd.prog 21 #[.string ⟨#[125, 74, 75, 76, 77, 78, 79, 80, 81, 82]⟩, .string ⟨#[z]⟩] W fun e w' => e = .returned (.int .i64 (k : Int)) ∧ W = w') := fun W => by
      refine (Tryd.strings_Index_one ⟨#[125, 74, 75, 76, 77, 78, 79, 80, 81, 82]⟩ z W).mono fun e w' h => ⟨?_, h.2.symm⟩
      rw [h.1]
      show Ending.returned (.int .i64 (Lib.indexByte zoneM z)) = _
      rw [HZZ.out, ← HK.out, hzb.2.2.1]
    clear hzb hk
    refine (HCP.out _).mono ?_
    rintro e w' ⟨rfl, rfl⟩
    go_wp2_with fail
    refine (HCM.out _).mono ?_
    rintro e w' ⟨rfl, rfl⟩
    go_wp2_with fail
    refine (HIP.out _).mono ?_
    rintro e w' ⟨rfl, rfl⟩
    clear HCP HCM HIP
    go_upto_region 17 with fail
    have hX : (⟨T.toArray⟩ : ByteArray) ++ ((⟨#[48, 49, 50, 51, 52, 53, 54, 55, 56, 57]⟩ : ByteArray).extract k 10).extract 0 1 = mk D := by
      rw [HDZ.out, HDS.out, ← app_mk]; rfl
    with_reducible rw [hX]
    clear hX
    obtain ⟨Y, hY⟩ : ∃ Y, Y = mk D := ⟨_, rfl⟩
    with_reducible rw [← hY]
    have hYs : Y.size = m + 1 := by rw [hY, mk_sz, HM.out]
    obtain ⟨q, hq⟩ : ∃ q : Nat, m + 1 = q + sc := ⟨m + 1 - sc, by omega⟩
    have c4 := cell_of_row V1 W1.heap.size 4 _ _ _ HVB.out
    have c5 := cell_of_row V1 W1.heap.size 5 _ _ _ HVB.out
    have c3 := cell_of_row V1 W1.heap.size 3 _ _ _ HVB.out
    have hfl1 : fl = true := HFL.out
    subst hfl1
    have HY := hide hY
    clear hY
    by_cases hsc0 : 0 < sc
    · have hsi : decide ((0 : Int) < (sc : Int)) = true := decide_eq_true (by omega)
      have hsz : (Y.size : Int) = (q : Int) + sc := by omega
      have hwr : IntKind.i64.wrap ((m : Int) + 1 - (sc : Int)) = (q : Int) := by
        rw [IntWalk.i64_in _ (by omega)]; omega
      have hq17 : (q : Int) ≤ (Y.size : Int) := by omega
      have hq0 : (0 : Int) ≤ (q : Int) := by omega
      have hq18 : Y.size ≤ 18 := by omega
      have hqn : q ≤ Y.size := by omega
      have HYs := hide hYs
      have HQ := hide hq
      clear hYs hq hsz
      go_wp2_with fail
      go_quiet (fail)
      obtain ⟨Z, hZ⟩ : ∃ Z, Z = Y.extract 0 q ++ ⟨#[46]⟩ ++ Y.extract q Y.size := ⟨_, rfl⟩
      with_reducible rw [← hZ]
      have hZe : mk [45] ++ Z = s := by rw [hZ]; exact val_text s Y D [45] sc q HY.out (by rw [HM.out, HQ.out]) hsc0 HB.out
      have hZq : ((⟨#[45]⟩ ++ Z : ByteArray).toList == s.toList) = true := by rw [show (⟨#[45]⟩ ++ Z : ByteArray) = s from hZe]; exact beq_self_eq_true _
      have hZs : Z.size ≤ 40 := by
        have := congrArg ByteArray.size hZe
        rw [ByteArray.size_append] at this; omega
      obtain ⟨V2, hV2⟩ : ∃ V2, V2 = V1.drewN nq := ⟨_, rfl⟩
      have HB2 : Hid (Below w.heap.size w V2) := by unfold Hid; rw [hV2]; exact below_drewN' HB1.out _
      have d3 : V2.cell? ⟨W1.heap.size, 3, none⟩ = some (.int .i64 ((m : Int) + 1)) := by rw [hV2]; exact c3
      have d5 : V2.cell? ⟨W1.heap.size, 5, none⟩ = some (.bool true) := by rw [hV2]; exact c5
      with_reducible rw [← hV2]
      clear hV2 hZ hZe c3 c4 c5
      go_wp2_with fail
      refine (HLv.out _ HB2.out).mono ?_
      rintro e W2 ⟨rfl, hb2⟩
      go_wp2_with fail
      go_ret
      exact ⟨rfl, HB2.out.trans (hb2.mono HB2.out.size)⟩
    · have hsi : decide ((0 : Int) < (sc : Int)) = false := decide_eq_false (by omega)
      have hZe : mk [45] ++ Y = s := val_text0 s Y D [45] sc HY.out hsc0 HB.out
      have hZq : ((⟨#[45]⟩ ++ Y : ByteArray).toList == s.toList) = true := by rw [show (⟨#[45]⟩ ++ Y : ByteArray) = s from hZe]; exact beq_self_eq_true _
      have hYl : Y.size ≤ 40 := by omega
      clear hZe hYs hq
      go_wp2_with fail
      refine (HLv.out _ HB1.out).mono ?_
      rintro e W2 ⟨rfl, hb2⟩
      go_wp2_with fail
      go_ret
      exact ⟨rfl, HB1.out.trans (hb2.mono HB1.out.size)⟩
  · subst hs1
    have HCP : Hid (∀ W, Calls Tryd.prog 20 #[.string ⟨#[123, 65, 66, 67, 68, 69, 70, 71, 72, 73]⟩, .string ⟨#[z]⟩] W fun e w' => e = .returned (.bool false) ∧ W = w') := fun W => by
      refine (Tryd.strings_Contains_one ⟨#[123, 65, 66, 67, 68, 69, 70, 71, 72, 73]⟩ z W).mono fun e w' h => ⟨?_, h.2.symm⟩
      rw [h.1]
      show Ending.returned (.bool (decide (0 ≤ Lib.indexByte zoneP z))) = _
      rw [HZZ.out, ← HK.out, hzb.2.2.2.1]; rfl
    have HCM : Hid (∀ W, Calls Tryd.prog 20 #[.string ⟨#[125, 74, 75, 76, 77, 78, 79, 80, 81, 82]⟩, .string ⟨#[z]⟩] W fun e w' => e = .returned (.bool false) ∧ W = w') := fun W => by
      refine (Tryd.strings_Contains_one ⟨#[125, 74, 75, 76, 77, 78, 79, 80, 81, 82]⟩ z W).mono fun e w' h => ⟨?_, h.2.symm⟩
      rw [h.1]
      show Ending.returned (.bool (decide (0 ≤ Lib.indexByte zoneM z))) = _
      rw [HZZ.out, ← HK.out, hzb.2.2.2.2.1]; rfl
    have hzd : z = d := by rw [HZZ.out, ← HK.out]; exact hzb.2.2.2.2.2
    have HZD := hide hzd
    clear hzb hk hzd
    refine (HCP.out _).mono ?_
    rintro e w' ⟨rfl, rfl⟩
    go_wp2_with fail
    refine (HCM.out _).mono ?_
    rintro e w' ⟨rfl, rfl⟩
    clear HCP HCM
    go_upto_region 17 with fail
    have hX : (⟨T.toArray⟩ : ByteArray) ++ ⟨#[z]⟩ = mk D := by
      rw [HZD.out, HDS.out, ← app_mk]; rfl
    with_reducible rw [hX]
    clear hX
    obtain ⟨Y, hY⟩ : ∃ Y, Y = mk D := ⟨_, rfl⟩
    with_reducible rw [← hY]
    have hYs : Y.size = m + 1 := by rw [hY, mk_sz, HM.out]
    obtain ⟨q, hq⟩ : ∃ q : Nat, m + 1 = q + sc := ⟨m + 1 - sc, by omega⟩
    have c4 := cell_of_row V1 W1.heap.size 4 _ _ _ HVB.out
    have c5 := cell_of_row V1 W1.heap.size 5 _ _ _ HVB.out
    have c3 := cell_of_row V1 W1.heap.size 3 _ _ _ HVB.out
    have hfl1 : fl = false := HFL.out
    subst hfl1
    have HY := hide hY
    clear hY
    by_cases hsc0 : 0 < sc
    · have hsi : decide ((0 : Int) < (sc : Int)) = true := decide_eq_true (by omega)
      have hsz : (Y.size : Int) = (q : Int) + sc := by omega
      have hwr : IntKind.i64.wrap ((m : Int) + 1 - (sc : Int)) = (q : Int) := by
        rw [IntWalk.i64_in _ (by omega)]; omega
      have hq17 : (q : Int) ≤ (Y.size : Int) := by omega
      have hq0 : (0 : Int) ≤ (q : Int) := by omega
      have hq18 : Y.size ≤ 18 := by omega
      have hqn : q ≤ Y.size := by omega
      have HYs := hide hYs
      have HQ := hide hq
      clear hYs hq hsz
      go_wp2_with fail
      go_quiet (fail)
      obtain ⟨Z, hZ⟩ : ∃ Z, Z = Y.extract 0 q ++ ⟨#[46]⟩ ++ Y.extract q Y.size := ⟨_, rfl⟩
      with_reducible rw [← hZ]
      have hZe : mk [] ++ Z = s := by rw [hZ]; exact val_text s Y D [] sc q HY.out (by rw [HM.out, HQ.out]) hsc0 HB.out
      have hZq : ((⟨#[]⟩ ++ Z : ByteArray).toList == s.toList) = true := by rw [show (⟨#[]⟩ ++ Z : ByteArray) = s from hZe]; exact beq_self_eq_true _
      have hZs : Z.size ≤ 40 := by
        have := congrArg ByteArray.size hZe
        rw [ByteArray.size_append] at this; omega
      obtain ⟨V2, hV2⟩ : ∃ V2, V2 = V1.drewN nq := ⟨_, rfl⟩
      have HB2 : Hid (Below w.heap.size w V2) := by unfold Hid; rw [hV2]; exact below_drewN' HB1.out _
      have d3 : V2.cell? ⟨W1.heap.size, 3, none⟩ = some (.int .i64 ((m : Int) + 1)) := by rw [hV2]; exact c3
      have d5 : V2.cell? ⟨W1.heap.size, 5, none⟩ = some (.bool false) := by rw [hV2]; exact c5
      with_reducible rw [← hV2]
      clear hV2 hZ hZe c3 c4 c5
      go_wp2_with fail
      refine (HLv.out _ HB2.out).mono ?_
      rintro e W2 ⟨rfl, hb2⟩
      go_wp2_with fail
      go_ret
      exact ⟨rfl, HB2.out.trans (hb2.mono HB2.out.size)⟩
    · have hsi : decide ((0 : Int) < (sc : Int)) = false := decide_eq_false (by omega)
      have hZe : mk [] ++ Y = s := val_text0 s Y D [] sc HY.out hsc0 HB.out
      have hZq : ((⟨#[]⟩ ++ Y : ByteArray).toList == s.toList) = true := by rw [show (⟨#[]⟩ ++ Y : ByteArray) = s from hZe]; exact beq_self_eq_true _
      have hYl : Y.size ≤ 40 := by omega
      clear hZe hYs hq
      go_wp2_with fail
      refine (HLv.out _ HB1.out).mono ?_
      rintro e W2 ⟨rfl, hb2⟩
      go_wp2_with fail
      go_ret
      exact ⟨rfl, HB1.out.trans (hb2.mono HB1.out.size)⟩
theorem ValLaw (s : ByteArray) (w : World) (hs : s.size ≤ maxLen) (hasc : AscS w) (hmx : MaxW w) :
    Calls Tryd.prog 5 #[.string s] w fun e w' => e = .returned (.bool true) ∧ Below w.heap.size w w' := by
  by_cases h : 40 < s.size
  · exact ValLaw_far s w hs h hasc hmx
  · by_cases hE : numE s.data.toList = 0
    · exact ValLaw_ok s w (by omega) hE hasc hmx
    · exact ValLaw_bad s w (by omega) hE hasc hmx
end Go.Proofs.YthdggnkpncoikaaDoor
