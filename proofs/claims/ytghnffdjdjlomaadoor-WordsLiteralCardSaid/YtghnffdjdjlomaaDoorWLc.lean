/-
  THE LAW WordsLiteral, walked (layer 5, words): NOT WHOLE.
-/
import Derived.Test.YtghnffdjdjlomaaDoorWLb
import Derived.Lib.QuietBelow
import Derived.BigQuiet
namespace Go.Proofs.YtghnffdjdjlomaaDoor
open Go.RowKit Go.Shelf

set_option maxRecDepth 100000 in
set_option maxHeartbeats 4000000 in
theorem LitLaw_a (sn : Int) (x y : ByteArray) (A B : List UInt8) (w : World) (hx : x.size ≤ maxLen) (hy : y.size ≤ maxLen) (hA : dgts x.data.toList 12 = A) (hB : dgts y.data.toList 6 = B) (hAd : A.all dig = true) (hBd : B.all dig = true) (hAl : A.length ≤ 12) (hBl : B.length ≤ 6) (hA0 : 0 < A.length) (hBn : B = []) (hasc : AscS w) (hmx : MaxW w) :
    Calls Tryd.prog 6 #[.agg #[.int .u8 sn, .string x, .string y]] w fun e w' => e = .returned (.bool true) ∧ Below w.heap.size w w' := by
  have HLv : Hid (∀ W, Below w.heap.size w W → Calls Tryd.prog 17 #[] W fun e w' => e = .returned (.bool true) ∧ Below W.heap.size W w') := fun W hb => livesW_c W (hasc.below (.inl (Nat.le_refl _)) hb) (hmx.below hb)
  obtain ⟨X, hX⟩ : ∃ X, X = mk A := ⟨_, rfl⟩
  obtain ⟨Y, hY⟩ : ∃ Y, Y = mk B := ⟨_, rfl⟩
  have hXs : X.size = A.length := by rw [hX, mk_sz]
  have hYs : Y.size = B.length := by rw [hY, mk_sz]
  obtain ⟨P, hP⟩ : ∃ P, P = mk (nines X.size) := ⟨_, rfl⟩
  obtain ⟨Q, hQ⟩ : ∃ Q, Q = mk (nines Y.size) := ⟨_, rfl⟩
  have hPs : P.size = X.size := by rw [hP, mk_sz]; unfold nines; rw [List.length_replicate]
  have hQs : Q.size = Y.size := by rw [hQ, mk_sz]; unfold nines; rw [List.length_replicate]
  have hXd : X.data.toList = A := by rw [hX]; rfl
  have hYd : Y.data.toList = B := by rw [hY]; rfl
  have hne : A ++ B ≠ [] := fun h => by
    have := congrArg List.length h
    rw [List.length_append, List.length_nil] at this
    omega
  have hl18 : (A ++ B).length ≤ 18 := by rw [List.length_append]; omega
  have HX : Hid (∀ W, Calls Tryd.prog 23 #[.string x, .int .i64 12] W fun e w' => e = .returned (.string X) ∧ Below W.heap.size W w') := fun W => by
    have := digits_c x 12 W hx (by omega)
    rw [hA, ← hX] at this
    exact this
  have HY : Hid (∀ W, Calls Tryd.prog 23 #[.string y, .int .i64 6] W fun e w' => e = .returned (.string Y) ∧ Below W.heap.size W w') := fun W => by
    have := digits_c y 6 W hy (by omega)
    rw [hB, ← hY] at this
    exact this
  have HRP : Hid (∀ W, Calls Tryd.prog 24 #[.string ⟨#[57]⟩, .int .i64 (X.size : Int)] W fun e w' => e = .returned (.string P) ∧ Below W.heap.size W w') := fun W => by rw [hP]; exact rep9 X.size W (by omega)
  have HRQ : Hid (∀ W, Calls Tryd.prog 24 #[.string ⟨#[57]⟩, .int .i64 (Y.size : Int)] W fun e w' => e = .returned (.string Q) ∧ Below W.heap.size W w') := fun W => by rw [hQ]; exact rep9 Y.size W (by omega)
  have HT : Hid (∀ sg : List UInt8, (mk sg ++ X) = mk (numT sg A B)) := fun sg => by
    rw [hX, app_mk]
    unfold numT
    rw [if_pos hBn, List.append_nil]
  have hT0 : X = mk (numT [] A B) := by
    rw [hX]
    unfold numT
    rw [if_pos hBn, List.append_nil]; rfl
  have hZl : A.length + B.length = X.size + Y.size := by omega
  have hTs : X.size ≤ 100 := by omega
  have HL1 : Hid (∀ W, Below w.heap.size w W → Calls Tryd.prog 25 #[.agg #[.int .u8 2, .string X, .int .i64 0, .int .i64 0, .bool false]] W fun e w' => ∃ g, e = .returned (.tuple #[fieldV 4 P ((X.size : Int) + Y.size) (Y.size : Nat) false ((X.size : Int) + Y.size) (.slice (some ⟨g, 0, none⟩) (X.size + Y.size) (X.size + Y.size)), .int .i64 0]) ∧ W.heap.size ≤ g ∧ Row w' g (A ++ B) ∧ Below W.heap.size W w') := fun W hb => by
    refine (Literal_r 2 _ 0 0 false W (by omega) (hmx.below hb)).mono fun e w' h => ?_
    have hr := lit_numT [] A B (.inl rfl) hAd hBd hne hl18
    rw [zoned_none _ (by rw [List.all_append, hAd, hBd]; rfl)] at hr
    have hX2 : X.data.toList = numT [] A B := by rw [hT0, mk_data]
    rw [hX2] at h
    have := h.ok hr
    rw [show mk (((if ([] : List UInt8) = [] then [] else [83]) ++ (nines A.length ++ if B = [] then [] else 86 :: nines B.length))) = P by
      rw [hP, hXs, if_pos hBn]; simp] at this
    have hc : ((A ++ B).length : Int) = (X.size : Int) + Y.size := by rw [List.length_append]; omega
    simp only [hc, show (A ++ B).length = X.size + Y.size by rw [List.length_append]; omega, ← hYs] at this
    exact this
  have HL2 : Hid (∀ sg : List UInt8, (sg = [43] ∨ sg = [45]) → ∀ W, Below w.heap.size w W → Calls Tryd.prog 25 #[.agg #[.int .u8 2, .string (mk sg ++ X), .int .i64 0, .int .i64 0, .bool false]] W fun e w' => ∃ g, e = .returned (.tuple #[fieldV 4 (⟨#[83]⟩ ++ P) ((X.size : Int) + Y.size) (Y.size : Nat) true ((X.size : Int) + Y.size) (.slice (some ⟨g, 0, none⟩) (X.size + Y.size) (X.size + Y.size)), .int .i64 0]) ∧ W.heap.size ≤ g ∧ Row w' g (zonedL (A ++ B) sg) ∧ Below W.heap.size W w') := fun sg hsg W hb => by
    have hsg1 : sg.length = 1 := by rcases hsg with rfl | rfl <;> rfl
    have hsgn : sg ≠ [] := fun h => by rw [h] at hsg1; cases hsg1
    have hts : (mk sg ++ X).size ≤ 1000000 := by rw [ByteArray.size_append, mk_sz]; omega
    refine (Literal_r 2 _ 0 0 false W hts (hmx.below hb)).mono fun e w' h => ?_
    have hr := lit_numT sg A B (.inr hsg) hAd hBd hne hl18
    rw [HT.out, mk_data] at h
    have := h.ok hr
    rw [show mk (((if sg = [] then [] else [83]) ++ (nines A.length ++ if B = [] then [] else 86 :: nines B.length))) = ⟨#[83]⟩ ++ P by
      rw [hP, hXs, show (⟨#[83]⟩ : ByteArray) = mk [83] from rfl, app_mk, if_pos hBn, if_neg hsgn]; simp] at this
    have hc : ((A ++ B).length : Int) = (X.size : Int) + Y.size := by rw [List.length_append]; omega
    have he : (!sg.isEmpty) = true := by rcases hsg with rfl | rfl <;> rfl
    simp only [zonedL_len, hc, show (A ++ B).length = X.size + Y.size by rw [List.length_append]; omega, ← hYs, he] at this
    exact this
  have HB0 := hide ((Below.refl _ w).alloc (Nat.le_refl _) (.cells #[.int .u8 sn, .string x, .string y] 47))
  have HN0 : Hid (NB (w.alloc (.cells #[.int .u8 sn, .string x, .string y] 47)) w.heap.size sn x y) := heap_alloc_new w _
  have he1 : (X ++ Y).toList.isEmpty = false := by
    rw [ByteArray.toList_eq, hX, hY, app_mk, mk_data]
    cases h : A ++ B with
    | nil => exact absurd h hne
    | cons a l => rfl
  have he2 : Y.toList.isEmpty = true := by
    rw [ByteArray.toList_eq, hYd, hBn]; rfl
  have hX12 : X.size ≤ 12 := by omega
  have hX1 : 1 ≤ X.size := by omega
  have hY6 : Y.size ≤ 6 := by omega
  have HZL := hide hZl
  have HXS := hide hXs
  have HYS := hide hYs
  have HPS := hide hPs
  have HQS := hide hQs
  have hP12 : P.size ≤ 12 := by omega
  have hQ6 : Q.size ≤ 6 := by omega
  have HZD : Hid (mk (A ++ B) = X ++ Y) := by unfold Hid; rw [hX, hY, app_mk]
  have HAD : Hid ((A ++ B).all dig = true) := by unfold Hid; rw [List.all_append, hAd, hBd]; rfl
  clear hasc hmx hX hY hXs hYs hP hQ hPs hQs hXd hYd hne hBn hl18 hZl hTs hT0 hA hB hAd hBd
  go_enter Tryd.func6, Tryd.ntmps6
  go_wp2_with fail
  refine (HX.out _).mono ?_
  rintro e w1 ⟨rfl, hb1⟩
  have hn1 := HN0.out.below hb1 (by simp)
  have HB1 := hide (HB0.out.trans (hb1.mono HB0.out.size))
  obtain ⟨c0, c1, c2⟩ := hn1.cells
  have HN1 := hide hn1
  have HS1 : Hid (w.heap.size < w1.heap.size) := by have := hb1.size; rw [World.size_alloc] at this; exact this
  clear hb1 hn1
  go_wp2_with fail
  refine (HY.out _).mono ?_
  rintro e w2 ⟨rfl, hb2⟩
  have HB2 := hide (HB1.out.trans (hb2.mono HB1.out.size))
  have HN2 := hide (HN1.out.below hb2 HS1.out)
  have HS2 : Hid (w.heap.size < w2.heap.size) := Nat.lt_of_lt_of_le HS1.out hb2.size
  clear hb2 c0 c1 c2
  go_wp2_with fail
  refine (HRP.out _).mono ?_
  rintro e w3 ⟨rfl, hb3⟩
  have HB3 := hide (HB2.out.trans (hb3.mono HB2.out.size))
  have HN3 := hide (HN2.out.below hb3 HS2.out)
  have HS3 : Hid (w.heap.size < w3.heap.size) := Nat.lt_of_lt_of_le HS2.out hb3.size
  clear hb3
  go_wp2_with fail
  refine (HL1.out _ HB3.out).mono ?_
  rintro e w5 ⟨g, rfl, hg, hr, hb5⟩
  have hn5 := HN3.out.below hb5 HS3.out
  obtain ⟨V6, hV6⟩ : ∃ V6, V6 = w5.alloc (.cells #[.int .u8 4, .int .u8 0, .string P, .int .i64 ((X.size : Int) + Y.size), .int .i64 Y.size, .bool false, .bool false, .bool false, .bool false, .bool false, .int .i64 ((X.size : Int) + Y.size), .slice (some ⟨g, 0, none⟩) (X.size + Y.size) (X.size + Y.size)] 55) := ⟨_, rfl⟩
  have hrl : (A ++ B).length = X.size + Y.size := by rw [List.length_append, HZL.out]
  have hconv := (hr.alloc (.cells #[.int .u8 4, .int .u8 0, .string P, .int .i64 ((X.size : Int) + Y.size), .int .i64 Y.size, .bool false, .bool false, .bool false, .bool false, .bool false, .int .i64 ((X.size : Int) + Y.size), .slice (some ⟨g, 0, none⟩) (X.size + Y.size) (X.size + Y.size)] 55)).text (X.size + Y.size) (X.size + Y.size) hrl.symm
  rw [show (⟨(A ++ B).toArray⟩ : ByteArray) = X ++ Y from HZD.out] at hconv
  have hs5 : w.heap.size < w5.heap.size := Nat.lt_of_lt_of_le HS3.out hb5.size
  have HB6 : Hid (Below w.heap.size w V6) := by unfold Hid; rw [hV6]; exact (HB3.out.trans (hb5.mono HB3.out.size)).alloc (by omega) _
  have hn6 : NB (w5.alloc (.cells #[.int .u8 4, .int .u8 0, .string P, .int .i64 ((X.size : Int) + Y.size), .int .i64 Y.size, .bool false, .bool false, .bool false, .bool false, .bool false, .int .i64 ((X.size : Int) + Y.size), .slice (some ⟨g, 0, none⟩) (X.size + Y.size) (X.size + Y.size)] 55)) w.heap.size sn x y := hn5.below ((Below.refl _ w5).alloc (Nat.le_refl _) _) hs5
  have c0 := hn6.cells.1
  have HK6 : Hid (V6.heap[w5.heap.size]? = some (.cells #[.int .u8 4, .int .u8 0, .string P, .int .i64 ((X.size : Int) + Y.size), .int .i64 Y.size, .bool false, .bool false, .bool false, .bool false, .bool false, .int .i64 ((X.size : Int) + Y.size), .slice (some ⟨g, 0, none⟩) (X.size + Y.size) (X.size + Y.size)] 55 (0, 0))) := by unfold Hid; rw [hV6]; exact heap_alloc_new w5 _
  have HS6 : Hid (w5.heap.size < V6.heap.size) := by unfold Hid; rw [hV6, World.size_alloc]; omega
  clear hb5 hr hrl hn5 hn6
  unfold fieldV shapeV
  simp only [List.cons_append, List.nil_append]
  go_wp2_with fail
  · with_reducible rw [← hV6]
    clear hV6 hconv c0
    have h43 := HL2.out [45] (.inr rfl) V6 HB6.out
    rw [show mk [45] = (⟨#[45]⟩ : ByteArray) from rfl] at h43
    with_reducible refine h43.mono ?_
    clear h43
    rintro e w7 ⟨g2, rfl, hg2, hr7, hb7⟩
    have K7 := (hb7.block _ HS6.out).trans HK6.out
    have hs7 : w5.heap.size < w7.heap.size := Nat.lt_of_lt_of_le HS6.out hb7.size
    obtain ⟨V8, hV8⟩ : ∃ V8, V8 = w7.alloc (.cells #[.int .u8 4, .int .u8 0, .string (⟨#[83]⟩ ++ P), .int .i64 ((X.size : Int) + Y.size), .int .i64 Y.size, .bool true, .bool false, .bool false, .bool false, .bool false, .int .i64 ((X.size : Int) + Y.size), .slice (some ⟨g2, 0, none⟩) (X.size + Y.size) (X.size + Y.size)] 55) := ⟨_, rfl⟩
    have HB8 : Hid (Below w.heap.size w V8) := by unfold Hid; rw [hV8]; exact (HB6.out.trans (hb7.mono HB6.out.size)).alloc (by have := HB6.out.size; have := hb7.size; omega) _
    have HR8 : Hid (Row V8 g2 (zonedL (A ++ B) [45])) := by unfold Hid; rw [hV8]; exact hr7.alloc _
    have HK8 : Hid (V8.heap[w5.heap.size]? = some (.cells #[.int .u8 4, .int .u8 0, .string P, .int .i64 ((X.size : Int) + Y.size), .int .i64 Y.size, .bool false, .bool false, .bool false, .bool false, .bool false, .int .i64 ((X.size : Int) + Y.size), .slice (some ⟨g, 0, none⟩) (X.size + Y.size) (X.size + Y.size)] 55 (0, 0))) := by unfold Hid; rw [hV8]; exact (heap_alloc_old w7 _ hs7).trans K7
    have HK9 : Hid (V8.heap[w7.heap.size]? = some (.cells #[.int .u8 4, .int .u8 0, .string (⟨#[83]⟩ ++ P), .int .i64 ((X.size : Int) + Y.size), .int .i64 Y.size, .bool true, .bool false, .bool false, .bool false, .bool false, .int .i64 ((X.size : Int) + Y.size), .slice (some ⟨g2, 0, none⟩) (X.size + Y.size) (X.size + Y.size)] 55 (0, 0))) := by unfold Hid; rw [hV8]; exact heap_alloc_new w7 _
    have HS79x : Hid (w5.heap.size < V8.heap.size ∧ w7.heap.size < V8.heap.size) := by unfold Hid; rw [hV8, World.size_alloc]; omega
    clear K7 hr7 hb7 hg2
    unfold fieldV shapeV
    simp only [List.cons_append, List.nil_append]
    go_upto_region 21 with fail
    with_reducible rw [← hV8]
    clear hV8
    obtain ⟨n, hn⟩ : ∃ n : Nat, ((X.size : Int) + Y.size - 1) = (n : Int) := ⟨X.size + Y.size - 1, by omega⟩
    with_reducible rw [hn]
    obtain ⟨Z, hZ⟩ : ∃ Z, Z = X ++ Y := ⟨_, rfl⟩
    with_reducible rw [← hZ]
    have hZs : Z.size = n + 1 := by rw [hZ, ByteArray.size_append]; omega
    have hnl : n < Z.size := by omega
    have hn18 : n ≤ 17 := by omega
    obtain ⟨c, hc⟩ : ∃ c, Z[n] = c := ⟨_, rfl⟩
    have hZl : Z.data.toList = A ++ B := by rw [hZ, ← HZD.out]; rfl
    have hAB : (A ++ B)[n]? = some c := by
      have := Lib.data_getElem? Z n hnl
      rw [hc, hZl] at this; exact this
    have hdc : dig c = true := by
      obtain ⟨hl, he⟩ := List.getElem?_eq_some_iff.1 hAB
      rw [← he]; exact List.all_eq_true.1 HAD.out _ (List.getElem_mem hl)
    have hc1 : 48 ≤ (c.toNat : Int) ∧ (c.toNat : Int) ≤ 57 := by
      unfold dig at hdc
      rw [Bool.and_eq_true, decide_eq_true_eq, decide_eq_true_eq] at hdc
      omega
    obtain ⟨hc1, hc2⟩ := hc1
    have hTT := zoned_tail Z ⟨#[125, 74, 75, 76, 77, 78, 79, 80, 81, 82]⟩ (A ++ B) [45] n c hZl hZs hAB hdc rfl rfl
    have HN := hide hn
    have HZ := hide hZ
    clear hZl hAB hdc hn hZ
    obtain ⟨T, hT⟩ : ∃ T, T = mk (zonedL (A ++ B) [45]) := ⟨_, rfl⟩
    rw [← hT] at hTT
    have hTb : (T.toList == (Z.extract 0 n ++ (⟨#[125, 74, 75, 76, 77, 78, 79, 80, 81, 82]⟩ : ByteArray).extract (c.toNat - 48) (c.toNat - 48 + 1)).toList) = true := by rw [hTT]; exact beq_self_eq_true _
    clear hTT
    have c0 := cell_of_row V8 w5.heap.size 0 _ _ _ HK8.out
    have d0 := cell_of_row V8 w7.heap.size 11 _ _ _ HK9.out
    have r0 := cell_regrown c0
    have q0 := cell_regrown d0
    have hcv : ∀ d os, (convert 53 9 (.slice (some ⟨g2, 0, none⟩) (X.size + Y.size) (X.size + Y.size))).run Tryd.prog (Go.Sort.grow (redrawn V8 d) os) = .ok (.string T) (Go.Sort.grow (redrawn V8 d) os) := fun d os => by
      have h := (HR8.out.below (below_regrown V8 d os) HR8.out.1).text (X.size + Y.size) (X.size + Y.size) (by rw [zonedL_len, List.length_append, HZL.out])
      rw [hT]; exact h
    have HT2 := hide hT
    clear hT c0 d0
    refine wp_region_quiet_below (by kernel_rfl) (by kernel_rfl) ?_
    repeat (any_goals (first | go_big_quiet_step (fail) | quiet_step (fail)))
    refine wpQuiet_nil ?_
    intro _ hw'
    obtain ⟨⟨dq, osq⟩, hw''⟩ := hw'
    subst hw''
    obtain ⟨V9, hV9⟩ : ∃ V9, V9 = Go.Sort.grow (redrawn V8 dq) osq := ⟨_, rfl⟩
    with_reducible rw [← hV9]
    have hB9 : Below V8.heap.size V8 V9 := by rw [hV9]; exact below_regrown V8 dq osq
    have HS79 := HS79x.out
    have K1 := (hB9.block w5.heap.size HS79.1).trans HK8.out
    have K2 := (hB9.block w7.heap.size HS79.2).trans HK9.out
    have l1 : w5.heap.size < V9.heap.size := Nat.lt_of_lt_of_le HS79.1 hB9.size
    have l2 : w7.heap.size < V9.heap.size := Nat.lt_of_lt_of_le HS79.2 hB9.size
    have c0 := cell_of_row V9 w5.heap.size 0 _ _ _ K1
    have c1 := cell_of_row V9 w5.heap.size 1 _ _ _ K1
    have c2 := cell_of_row V9 w5.heap.size 2 _ _ _ K1
    have c3 := cell_of_row V9 w5.heap.size 3 _ _ _ K1
    have c4 := cell_of_row V9 w5.heap.size 4 _ _ _ K1
    have c5 := cell_of_row V9 w5.heap.size 5 _ _ _ K1
    have c6 := cell_of_row V9 w5.heap.size 6 _ _ _ K1
    have c7 := cell_of_row V9 w5.heap.size 7 _ _ _ K1
    have c8 := cell_of_row V9 w5.heap.size 8 _ _ _ K1
    have c9 := cell_of_row V9 w5.heap.size 9 _ _ _ K1
    have c10 := cell_of_row V9 w5.heap.size 10 _ _ _ K1
    have d0 := cell_of_row V9 w7.heap.size 0 _ _ _ K2
    have d1 := cell_of_row V9 w7.heap.size 1 _ _ _ K2
    have d2 := cell_of_row V9 w7.heap.size 2 _ _ _ K2
    have d3 := cell_of_row V9 w7.heap.size 3 _ _ _ K2
    have d4 := cell_of_row V9 w7.heap.size 4 _ _ _ K2
    have d5 := cell_of_row V9 w7.heap.size 5 _ _ _ K2
    have d6 := cell_of_row V9 w7.heap.size 6 _ _ _ K2
    have d7 := cell_of_row V9 w7.heap.size 7 _ _ _ K2
    have d8 := cell_of_row V9 w7.heap.size 8 _ _ _ K2
    have d9 := cell_of_row V9 w7.heap.size 9 _ _ _ K2
    have d10 := cell_of_row V9 w7.heap.size 10 _ _ _ K2
    have HB9 := hide (HB8.out.trans (hB9.mono HB8.out.size))
    clear hV9 hB9 r0 q0 hcv K1 K2
    go_wp2_with fail
    obtain ⟨VA, hVA⟩ : ∃ VA, VA = V9.alloc (.cells #[.int .u8 4, .int .u8 0, .string (⟨#[83]⟩ ++ P), .int .i64 ((X.size : Int) + Y.size), .int .i64 Y.size, .bool true, .bool false, .bool false, .bool false, .bool false, .int .i64 ((X.size : Int) + Y.size)] 52) := ⟨_, rfl⟩
    have HBA : Hid (Below w.heap.size w VA) := by unfold Hid; rw [hVA]; exact HB9.out.alloc HB9.out.size _
    with_reducible rw [← hVA]
    clear hVA
    refine (HLv.out _ HBA.out).mono ?_
    rintro e wB ⟨rfl, hbB⟩
    have HBB := hide (HBA.out.trans (hbB.mono HBA.out.size))
    clear hbB
    go_wp2_with fail
    go_ret
    exact ⟨rfl, HBB.out⟩
  · with_reducible rw [← hV6]
    clear hV6 hconv c0
    have h43 := HL2.out [43] (.inl rfl) V6 HB6.out
    rw [show mk [43] = (⟨#[43]⟩ : ByteArray) from rfl] at h43
    with_reducible refine h43.mono ?_
    clear h43
    rintro e w7 ⟨g2, rfl, hg2, hr7, hb7⟩
    have K7 := (hb7.block _ HS6.out).trans HK6.out
    have hs7 : w5.heap.size < w7.heap.size := Nat.lt_of_lt_of_le HS6.out hb7.size
    obtain ⟨V8, hV8⟩ : ∃ V8, V8 = w7.alloc (.cells #[.int .u8 4, .int .u8 0, .string (⟨#[83]⟩ ++ P), .int .i64 ((X.size : Int) + Y.size), .int .i64 Y.size, .bool true, .bool false, .bool false, .bool false, .bool false, .int .i64 ((X.size : Int) + Y.size), .slice (some ⟨g2, 0, none⟩) (X.size + Y.size) (X.size + Y.size)] 55) := ⟨_, rfl⟩
    have HB8 : Hid (Below w.heap.size w V8) := by unfold Hid; rw [hV8]; exact (HB6.out.trans (hb7.mono HB6.out.size)).alloc (by have := HB6.out.size; have := hb7.size; omega) _
    have HR8 : Hid (Row V8 g2 (zonedL (A ++ B) [43])) := by unfold Hid; rw [hV8]; exact hr7.alloc _
    have HK8 : Hid (V8.heap[w5.heap.size]? = some (.cells #[.int .u8 4, .int .u8 0, .string P, .int .i64 ((X.size : Int) + Y.size), .int .i64 Y.size, .bool false, .bool false, .bool false, .bool false, .bool false, .int .i64 ((X.size : Int) + Y.size), .slice (some ⟨g, 0, none⟩) (X.size + Y.size) (X.size + Y.size)] 55 (0, 0))) := by unfold Hid; rw [hV8]; exact (heap_alloc_old w7 _ hs7).trans K7
    have HK9 : Hid (V8.heap[w7.heap.size]? = some (.cells #[.int .u8 4, .int .u8 0, .string (⟨#[83]⟩ ++ P), .int .i64 ((X.size : Int) + Y.size), .int .i64 Y.size, .bool true, .bool false, .bool false, .bool false, .bool false, .int .i64 ((X.size : Int) + Y.size), .slice (some ⟨g2, 0, none⟩) (X.size + Y.size) (X.size + Y.size)] 55 (0, 0))) := by unfold Hid; rw [hV8]; exact heap_alloc_new w7 _
    have HS79x : Hid (w5.heap.size < V8.heap.size ∧ w7.heap.size < V8.heap.size) := by unfold Hid; rw [hV8, World.size_alloc]; omega
    clear K7 hr7 hb7 hg2
    unfold fieldV shapeV
    simp only [List.cons_append, List.nil_append]
    go_upto_region 21 with fail
    with_reducible rw [← hV8]
    clear hV8
    obtain ⟨n, hn⟩ : ∃ n : Nat, ((X.size : Int) + Y.size - 1) = (n : Int) := ⟨X.size + Y.size - 1, by omega⟩
    with_reducible rw [hn]
    obtain ⟨Z, hZ⟩ : ∃ Z, Z = X ++ Y := ⟨_, rfl⟩
    with_reducible rw [← hZ]
    have hZs : Z.size = n + 1 := by rw [hZ, ByteArray.size_append]; omega
    have hnl : n < Z.size := by omega
    have hn18 : n ≤ 17 := by omega
    obtain ⟨c, hc⟩ : ∃ c, Z[n] = c := ⟨_, rfl⟩
    have hZl : Z.data.toList = A ++ B := by rw [hZ, ← HZD.out]; rfl
    have hAB : (A ++ B)[n]? = some c := by
      have := Lib.data_getElem? Z n hnl
      rw [hc, hZl] at this; exact this
    have hdc : dig c = true := by
      obtain ⟨hl, he⟩ := List.getElem?_eq_some_iff.1 hAB
      rw [← he]; exact List.all_eq_true.1 HAD.out _ (List.getElem_mem hl)
    have hc1 : 48 ≤ (c.toNat : Int) ∧ (c.toNat : Int) ≤ 57 := by
      unfold dig at hdc
      rw [Bool.and_eq_true, decide_eq_true_eq, decide_eq_true_eq] at hdc
      omega
    obtain ⟨hc1, hc2⟩ := hc1
    have hTT := zoned_tail Z ⟨#[123, 65, 66, 67, 68, 69, 70, 71, 72, 73]⟩ (A ++ B) [43] n c hZl hZs hAB hdc rfl rfl
    have HN := hide hn
    have HZ := hide hZ
    clear hZl hAB hdc hn hZ
    obtain ⟨T, hT⟩ : ∃ T, T = mk (zonedL (A ++ B) [43]) := ⟨_, rfl⟩
    rw [← hT] at hTT
    have hTb : (T.toList == (Z.extract 0 n ++ (⟨#[123, 65, 66, 67, 68, 69, 70, 71, 72, 73]⟩ : ByteArray).extract (c.toNat - 48) (c.toNat - 48 + 1)).toList) = true := by rw [hTT]; exact beq_self_eq_true _
    clear hTT
    have c0 := cell_of_row V8 w5.heap.size 0 _ _ _ HK8.out
    have d0 := cell_of_row V8 w7.heap.size 11 _ _ _ HK9.out
    have r0 := cell_regrown c0
    have q0 := cell_regrown d0
    have hcv : ∀ d os, (convert 53 9 (.slice (some ⟨g2, 0, none⟩) (X.size + Y.size) (X.size + Y.size))).run Tryd.prog (Go.Sort.grow (redrawn V8 d) os) = .ok (.string T) (Go.Sort.grow (redrawn V8 d) os) := fun d os => by
      have h := (HR8.out.below (below_regrown V8 d os) HR8.out.1).text (X.size + Y.size) (X.size + Y.size) (by rw [zonedL_len, List.length_append, HZL.out])
      rw [hT]; exact h
    have HT2 := hide hT
    clear hT c0 d0
    refine wp_region_quiet_below (by kernel_rfl) (by kernel_rfl) ?_
    repeat (any_goals (first | go_big_quiet_step (fail) | quiet_step (fail)))
    refine wpQuiet_nil ?_
    intro _ hw'
    obtain ⟨⟨dq, osq⟩, hw''⟩ := hw'
    subst hw''
    obtain ⟨V9, hV9⟩ : ∃ V9, V9 = Go.Sort.grow (redrawn V8 dq) osq := ⟨_, rfl⟩
    with_reducible rw [← hV9]
    have hB9 : Below V8.heap.size V8 V9 := by rw [hV9]; exact below_regrown V8 dq osq
    have HS79 := HS79x.out
    have K1 := (hB9.block w5.heap.size HS79.1).trans HK8.out
    have K2 := (hB9.block w7.heap.size HS79.2).trans HK9.out
    have l1 : w5.heap.size < V9.heap.size := Nat.lt_of_lt_of_le HS79.1 hB9.size
    have l2 : w7.heap.size < V9.heap.size := Nat.lt_of_lt_of_le HS79.2 hB9.size
    have c0 := cell_of_row V9 w5.heap.size 0 _ _ _ K1
    have c1 := cell_of_row V9 w5.heap.size 1 _ _ _ K1
    have c2 := cell_of_row V9 w5.heap.size 2 _ _ _ K1
    have c3 := cell_of_row V9 w5.heap.size 3 _ _ _ K1
    have c4 := cell_of_row V9 w5.heap.size 4 _ _ _ K1
    have c5 := cell_of_row V9 w5.heap.size 5 _ _ _ K1
    have c6 := cell_of_row V9 w5.heap.size 6 _ _ _ K1
    have c7 := cell_of_row V9 w5.heap.size 7 _ _ _ K1
    have c8 := cell_of_row V9 w5.heap.size 8 _ _ _ K1
    have c9 := cell_of_row V9 w5.heap.size 9 _ _ _ K1
    have c10 := cell_of_row V9 w5.heap.size 10 _ _ _ K1
    have d0 := cell_of_row V9 w7.heap.size 0 _ _ _ K2
    have d1 := cell_of_row V9 w7.heap.size 1 _ _ _ K2
    have d2 := cell_of_row V9 w7.heap.size 2 _ _ _ K2
    have d3 := cell_of_row V9 w7.heap.size 3 _ _ _ K2
    have d4 := cell_of_row V9 w7.heap.size 4 _ _ _ K2
    have d5 := cell_of_row V9 w7.heap.size 5 _ _ _ K2
    have d6 := cell_of_row V9 w7.heap.size 6 _ _ _ K2
    have d7 := cell_of_row V9 w7.heap.size 7 _ _ _ K2
    have d8 := cell_of_row V9 w7.heap.size 8 _ _ _ K2
    have d9 := cell_of_row V9 w7.heap.size 9 _ _ _ K2
    have d10 := cell_of_row V9 w7.heap.size 10 _ _ _ K2
    have HB9 := hide (HB8.out.trans (hB9.mono HB8.out.size))
    clear hV9 hB9 r0 q0 hcv K1 K2
    go_wp2_with fail
    obtain ⟨VA, hVA⟩ : ∃ VA, VA = V9.alloc (.cells #[.int .u8 4, .int .u8 0, .string (⟨#[83]⟩ ++ P), .int .i64 ((X.size : Int) + Y.size), .int .i64 Y.size, .bool true, .bool false, .bool false, .bool false, .bool false, .int .i64 ((X.size : Int) + Y.size)] 52) := ⟨_, rfl⟩
    have HBA : Hid (Below w.heap.size w VA) := by unfold Hid; rw [hVA]; exact HB9.out.alloc HB9.out.size _
    with_reducible rw [← hVA]
    clear hVA
    refine (HLv.out _ HBA.out).mono ?_
    rintro e wB ⟨rfl, hbB⟩
    have HBB := hide (HBA.out.trans (hbB.mono HBA.out.size))
    clear hbB
    go_wp2_with fail
    go_ret
    exact ⟨rfl, HBB.out⟩
end Go.Proofs.YtghnffdjdjlomaaDoor
