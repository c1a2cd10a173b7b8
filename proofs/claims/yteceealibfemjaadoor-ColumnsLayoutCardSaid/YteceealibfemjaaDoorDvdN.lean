/-
  THE ITERATOR OF divide AGAIN, as one that writes no variable (layer 2, columns).
-/
import Derived.Test.YteceealibfemjaaDoorDvd
import Derived.Test.YteceealibfemjaaDoorRngN
import Derived.Deep.CutRange
namespace Go.Proofs.YteceealibfemjaaDoor
open Go.RowKit Go.Shelf
attribute [local go_sem] Oper.semAt_some

set_option maxHeartbeats 4000000 in
set_option maxRecDepth 100000 in
theorem divide_seqN (n b0 : Nat) (left : Bool) (s : ByteArray) (w : World) (hs : s.size ≤ 2000000) (hb0 : b0 < w.heap.size) (hbox : Blk w b0 #[.bool left, .string s] 28) :
    SeqN Fence.wide n Tryd.prog 32 #[.pointer (some ⟨b0, 0, none⟩)] encP b0 (piecesL (frontL left) s.data.toList false) w := by
  intro l J Jx W hbel hJ hJx hY h0
  obtain ⟨xs, hxs⟩ : ∃ xs, xs = piecesL (frontL left) s.data.toList false := ⟨_, rfl⟩
  rw [← hxs] at hY ⊢
  have HX := hide hxs
  clear hxs
  have hboxW : Blk W b0 #[.bool left, .string s] 28 := (hbel.block b0 hb0).trans hbox
  have c0 := hboxW.cell 0
  have c1 := hboxW.cell 1
  refine callsIn_of_wp Tryd.func32 rfl trivial ?_ rfl
  simp only [Tryd.ntmps32, List.size_toArray, List.length_cons, List.length_nil, Nat.reduceAdd, Nat.reduceSub, Array.replicate_succ, Array.replicate_zero, List.push_toArray, List.append_toArray, List.nil_append, List.cons_append]
  gi_wp2
  refine wpIn_wide.2 ?_
  go_quiet (fail)
  have hJ0 : J [] (W.drewN nq) := hJ _ _ _ h0 ⟨rfl, rfl, rfl, Nat.le_refl _, fun _ _ _ => rfl⟩
  have HJ := hide hJ
  have HY := hide hY
  have HJX := hide hJx
  clear hJ hY hJx hbox hboxW hbel
  clear h0
  cases left
  · gi_wp2
    gi_loopw [3, 4, 5, 6] (fun v3 v4 v5 v6 wr => ∃ (pre : List (List UInt8 × List UInt8)) (F R : ByteArray) (op : Bool), v3 = .string F ∧ v4 = .string R ∧ v5 = .bool op ∧ v6 = .int .i64 (66 - (F.size : Int)) ∧ 1 ≤ F.size ∧ F.size ≤ 6 ∧ R.size ≤ s.size ∧ Hid (xs = pre ++ piecesL F.data.toList R.data.toList op) ∧ J pre wr) (fun _ v4 _ _ _ => match v4 with | .string R => R.size | _ => 0)
    case atStart => exact ⟨[], _, s, false, rfl, rfl, rfl, rfl, by decide, by decide, Nat.le_refl _, HX.out, hJ0⟩
    case round =>
      obtain ⟨pre, F, R, op, rfl, rfl, rfl, rfl, hF1, hF6, hRs, hX, hJs⟩ := hrel
      have hRl : R.data.toList.length = R.size := len_data R
      have hFl : F.data.toList.length = F.size := len_data F
      by_cases hbig : R.size ≤ 66 - F.size
      · have hpl := pieces_last F.data.toList R.data.toList op (by rw [hRl, hFl]; exact hbig)
        have hend : xs = pre ++ [(F.data.toList, R.data.toList)] := by rw [hX.out, hpl]
        have hpre : (pre ++ [(F.data.toList, R.data.toList)]) <+: xs := by rw [hend]; exact List.prefix_refl _
        obtain ⟨fn, tmps, assign, body, hy0, hR⟩ := HY.out pre (F.data.toList, R.data.toList) _ hJs hpre
        have hy : (Instr.yield l #[.string F, .string R]).run Tryd.prog wr = _ := hy0
        clear hy0
        have HPRE := hide hpre
        have HEND := hide hend
        clear hpl hend hpre hX hRl hFl hJs
        gi_wp2
        refine ⟨(fun h => by cases h), hR.mono ?_⟩
        rintro e W3 (⟨rfl, hJ3, hk3⟩ | ⟨rfl, hJx3⟩)
        · gi_wp2
          go_end0
          exact ⟨⟨_, rfl⟩, .inl (by rw [HEND.out]; exact hJ3)⟩
        · gi_wp2
          go_end0
          exact ⟨⟨_, rfl⟩, .inr ⟨_, HPRE.out, hJx3⟩⟩
      · have hpm := pieces_more F.data.toList R.data.toList op (by rw [hRl, hFl]; exact hbig) (by rw [hFl]; exact hF6)
        rw [hFl] at hpm
        have hdp := divN_pos R.data.toList (66 - F.size) op (by omega)
        have hdv := hide (fun (w1 : World) => division_c R (66 - F.size) op w1 (by omega) (by omega))
        obtain ⟨k, hk⟩ : ∃ k, k = divN R.data.toList (66 - F.size) op := ⟨_, rfl⟩
        rw [← hk] at hpm hdp hdv
        have e66 : ((66 - F.size : Nat) : Int) = 66 - (F.size : Int) := by omega
        rw [e66] at hdv
        have hxk : R.data.toList.take k = (R.extract 0 k).data.toList := by rw [extract_at]; simp
        have hdk : R.data.toList.drop k = (R.extract k R.size).data.toList := (extract_drop R k).symm
        rw [hxk, hdk] at hpm
        obtain ⟨o2, ho2⟩ : ∃ o2, o2 = (op != openL (R.extract 0 k).data.toList) := ⟨_, rfl⟩
        rw [← ho2] at hpm
        have hpre : (pre ++ [(F.data.toList, (R.extract 0 k).data.toList)]) <+: xs := by rw [hX.out, hpm]; exact ⟨_, by rw [List.append_assoc]; rfl⟩
        have hX2 : Hid (xs = (pre ++ [(F.data.toList, (R.extract 0 k).data.toList)]) ++ piecesL (followL (R.extract k R.size).data.toList o2).1 (followL (R.extract k R.size).data.toList o2).2 o2) := by
          unfold Hid; rw [hX.out, hpm, List.append_assoc]; rfl
        have hfw := hide (fun (w1 : World) => follow_c (R.extract k R.size) o2 w1 (by rw [ByteArray.size_extract]; omega) (by rw [ByteArray.size_extract]; omega))
        have hff := followL_front (R.extract k R.size).data.toList o2
        have hfl := followL_le (R.extract k R.size).data.toList o2
        rw [len_data, ByteArray.size_extract] at hfl
        obtain ⟨F2, hF2⟩ : ∃ F2, F2 = mk (followL (R.extract k R.size).data.toList o2).1 := ⟨_, rfl⟩
        obtain ⟨R2, hR2⟩ : ∃ R2, R2 = mk (followL (R.extract k R.size).data.toList o2).2 := ⟨_, rfl⟩
        have hF3 : (followL (R.extract k R.size).data.toList o2).1 = F2.data.toList := by rw [hF2]; rfl
        have hR3 : (followL (R.extract k R.size).data.toList o2).2 = R2.data.toList := by rw [hR2]; rfl
        rw [← hF2, ← hR2] at hfw
        rw [hF3, len_data] at hff
        rw [hR3, len_data] at hfl
        rw [hF3, hR3] at hX2
        clear hF2 hR2 hF3 hR3
        have HO2 := hide ho2
        have HPRE := hide hpre
        clear hpm hX hxk hdk ho2 hpre hRl hFl hk e66
        gi_wp2
        refine ⟨trivial, (fun h => by cases h), callsIn_wide.2 ((hdv.out _).mono ?_)⟩
        rintro e w1 ⟨rfl, hb1⟩
        have hJ1 := HJ.out _ _ _ hJs (grown_of_below hb1 _)
        obtain ⟨fn, tmps, assign, body, hy0, hR⟩ := HY.out pre (F.data.toList, (R.extract 0 k).data.toList) _ hJ1 HPRE.out
        have hy : (Instr.yield l #[.string F, .string (R.extract 0 k)]).run Tryd.prog w1 = _ := hy0
        clear hy0 hJ1 hb1 hJs
        gi_wp2
        refine ⟨(fun h => by cases h), hR.mono ?_⟩
        rintro e W3 (⟨rfl, hJ3, hk3⟩ | ⟨rfl, hJx3⟩)
        · clear hy hR hk3
          gi_wp2
          refine wpIn_wide.2 ?_
          have hct : Hid (∀ w1, Boxed w1 W3.heap.size 4 (.bool op) → Calls Tryd.prog 53 #[.string (R.extract 0 k), .pointer (some ⟨W3.heap.size, 0, none⟩)] w1 fun e w' => e = .returned (.bool o2) ∧ Mods (· = W3.heap.size) w1 w') := fun w1 hbx => by
            rw [HO2.out]
            exact (count_c (R.extract 0 k) W3.heap.size op w1 hbx (by rw [ByteArray.size_extract]; omega)).mono fun _ _ h => ⟨h.1, h.2.2⟩
          have hqt := hide (fun (w1 : World) => quotes_c op w1)
          go_cut [5] from 15 to 46 (fun s5 wc => s5 = .bool o2 ∧ Below W3.heap.size W3 wc)
          case first =>
            have hbn : Boxed (W3.alloc (.cells #[.bool op] 4)).drew W3.heap.size 4 (.bool op) := Boxed.new W3 4 (.bool op)
            have hbd : ∀ w6, Mods (· = W3.heap.size) (W3.alloc (.cells #[.bool op] 4)).drew w6 → Below W3.heap.size W3 w6 := fun w6 hm6 =>
              (Mods.drew (((Mods.refl (fun _ => False) W3).alloc (.cells #[.bool op] 4)))).trans' hm6 (fun i hi e => by omega) |>.toBelow (Nat.le_refl _) (fun _ _ h => h)
            have HBN := hide hbn
            have HBD := hide hbd
            clear hbn hbd
            go_region_with (first | (go_at_call 31; refine (hqt.out _).mono ?_; rintro e w5 ⟨rfl, rfl⟩) | (go_at_call 53; refine (hct.out _ HBN.out).mono ?_; rintro e w6 ⟨rfl, hm6⟩; have HB6 := hide (HBD.out _ hm6); clear hm6))
            all_goals go_wp2_with fail
            all_goals go_meet
            all_goals exact ⟨rfl, HB6.out⟩
          obtain ⟨rfl, hbc⟩ := hcut
          have hJ4 := HJ.out _ _ _ hJ3 (grown_of_below hbc _)
          clear hct hqt hbc hJ3
          gi_wp2
          refine ⟨trivial, (fun h => by cases h), callsIn_wide.2 ((hfw.out _).mono ?_)⟩
          rintro e w5 ⟨rfl, rfl⟩
          clear hfw hdv
          gi_wp2
          go_roundw
          case rel => exact ⟨_, F2, R2, o2, rfl, rfl, rfl, by go_num, hff.1, hff.2, by omega, hX2, hJ4⟩
          case measure => show R2.size < R.size; omega
        · have hpx := HPRE.out
          gi_wp2
          refine bodyPost_ret (results_none rfl _ _ _) rfl ?_
          exact ⟨⟨_, rfl⟩, .inr ⟨_, hpx, hJx3⟩⟩
  · gi_wp2
    gi_loopw [3, 4, 5, 6] (fun v3 v4 v5 v6 wr => ∃ (pre : List (List UInt8 × List UInt8)) (F R : ByteArray) (op : Bool), v3 = .string F ∧ v4 = .string R ∧ v5 = .bool op ∧ v6 = .int .i64 (66 - (F.size : Int)) ∧ 1 ≤ F.size ∧ F.size ≤ 6 ∧ R.size ≤ s.size ∧ Hid (xs = pre ++ piecesL F.data.toList R.data.toList op) ∧ J pre wr) (fun _ v4 _ _ _ => match v4 with | .string R => R.size | _ => 0)
    case atStart => exact ⟨[], _, s, false, rfl, rfl, rfl, rfl, by decide, by decide, Nat.le_refl _, HX.out, hJ0⟩
    case round =>
      obtain ⟨pre, F, R, op, rfl, rfl, rfl, rfl, hF1, hF6, hRs, hX, hJs⟩ := hrel
      have hRl : R.data.toList.length = R.size := len_data R
      have hFl : F.data.toList.length = F.size := len_data F
      by_cases hbig : R.size ≤ 66 - F.size
      · have hpl := pieces_last F.data.toList R.data.toList op (by rw [hRl, hFl]; exact hbig)
        have hend : xs = pre ++ [(F.data.toList, R.data.toList)] := by rw [hX.out, hpl]
        have hpre : (pre ++ [(F.data.toList, R.data.toList)]) <+: xs := by rw [hend]; exact List.prefix_refl _
        obtain ⟨fn, tmps, assign, body, hy0, hR⟩ := HY.out pre (F.data.toList, R.data.toList) _ hJs hpre
        have hy : (Instr.yield l #[.string F, .string R]).run Tryd.prog wr = _ := hy0
        clear hy0
        have HPRE := hide hpre
        have HEND := hide hend
        clear hpl hend hpre hX hRl hFl hJs
        gi_wp2
        refine ⟨(fun h => by cases h), hR.mono ?_⟩
        rintro e W3 (⟨rfl, hJ3, hk3⟩ | ⟨rfl, hJx3⟩)
        · gi_wp2
          go_end0
          exact ⟨⟨_, rfl⟩, .inl (by rw [HEND.out]; exact hJ3)⟩
        · gi_wp2
          go_end0
          exact ⟨⟨_, rfl⟩, .inr ⟨_, HPRE.out, hJx3⟩⟩
      · have hpm := pieces_more F.data.toList R.data.toList op (by rw [hRl, hFl]; exact hbig) (by rw [hFl]; exact hF6)
        rw [hFl] at hpm
        have hdp := divN_pos R.data.toList (66 - F.size) op (by omega)
        have hdv := hide (fun (w1 : World) => division_c R (66 - F.size) op w1 (by omega) (by omega))
        obtain ⟨k, hk⟩ : ∃ k, k = divN R.data.toList (66 - F.size) op := ⟨_, rfl⟩
        rw [← hk] at hpm hdp hdv
        have e66 : ((66 - F.size : Nat) : Int) = 66 - (F.size : Int) := by omega
        rw [e66] at hdv
        have hxk : R.data.toList.take k = (R.extract 0 k).data.toList := by rw [extract_at]; simp
        have hdk : R.data.toList.drop k = (R.extract k R.size).data.toList := (extract_drop R k).symm
        rw [hxk, hdk] at hpm
        obtain ⟨o2, ho2⟩ : ∃ o2, o2 = (op != openL (R.extract 0 k).data.toList) := ⟨_, rfl⟩
        rw [← ho2] at hpm
        have hpre : (pre ++ [(F.data.toList, (R.extract 0 k).data.toList)]) <+: xs := by rw [hX.out, hpm]; exact ⟨_, by rw [List.append_assoc]; rfl⟩
        have hX2 : Hid (xs = (pre ++ [(F.data.toList, (R.extract 0 k).data.toList)]) ++ piecesL (followL (R.extract k R.size).data.toList o2).1 (followL (R.extract k R.size).data.toList o2).2 o2) := by
          unfold Hid; rw [hX.out, hpm, List.append_assoc]; rfl
        have hfw := hide (fun (w1 : World) => follow_c (R.extract k R.size) o2 w1 (by rw [ByteArray.size_extract]; omega) (by rw [ByteArray.size_extract]; omega))
        have hff := followL_front (R.extract k R.size).data.toList o2
        have hfl := followL_le (R.extract k R.size).data.toList o2
        rw [len_data, ByteArray.size_extract] at hfl
        obtain ⟨F2, hF2⟩ : ∃ F2, F2 = mk (followL (R.extract k R.size).data.toList o2).1 := ⟨_, rfl⟩
        obtain ⟨R2, hR2⟩ : ∃ R2, R2 = mk (followL (R.extract k R.size).data.toList o2).2 := ⟨_, rfl⟩
        have hF3 : (followL (R.extract k R.size).data.toList o2).1 = F2.data.toList := by rw [hF2]; rfl
        have hR3 : (followL (R.extract k R.size).data.toList o2).2 = R2.data.toList := by rw [hR2]; rfl
        rw [← hF2, ← hR2] at hfw
        rw [hF3, len_data] at hff
        rw [hR3, len_data] at hfl
        rw [hF3, hR3] at hX2
        clear hF2 hR2 hF3 hR3
        have HO2 := hide ho2
        have HPRE := hide hpre
        clear hpm hX hxk hdk ho2 hpre hRl hFl hk e66
        gi_wp2
        refine ⟨trivial, (fun h => by cases h), callsIn_wide.2 ((hdv.out _).mono ?_)⟩
        rintro e w1 ⟨rfl, hb1⟩
        have hJ1 := HJ.out _ _ _ hJs (grown_of_below hb1 _)
        obtain ⟨fn, tmps, assign, body, hy0, hR⟩ := HY.out pre (F.data.toList, (R.extract 0 k).data.toList) _ hJ1 HPRE.out
        have hy : (Instr.yield l #[.string F, .string (R.extract 0 k)]).run Tryd.prog w1 = _ := hy0
        clear hy0 hJ1 hb1 hJs
        gi_wp2
        refine ⟨(fun h => by cases h), hR.mono ?_⟩
        rintro e W3 (⟨rfl, hJ3, hk3⟩ | ⟨rfl, hJx3⟩)
        · clear hy hR hk3
          gi_wp2
          refine wpIn_wide.2 ?_
          have hct : Hid (∀ w1, Boxed w1 W3.heap.size 4 (.bool op) → Calls Tryd.prog 53 #[.string (R.extract 0 k), .pointer (some ⟨W3.heap.size, 0, none⟩)] w1 fun e w' => e = .returned (.bool o2) ∧ Mods (· = W3.heap.size) w1 w') := fun w1 hbx => by
            rw [HO2.out]
            exact (count_c (R.extract 0 k) W3.heap.size op w1 hbx (by rw [ByteArray.size_extract]; omega)).mono fun _ _ h => ⟨h.1, h.2.2⟩
          have hqt := hide (fun (w1 : World) => quotes_c op w1)
          go_cut [5] from 15 to 46 (fun s5 wc => s5 = .bool o2 ∧ Below W3.heap.size W3 wc)
          case first =>
            have hbn : Boxed (W3.alloc (.cells #[.bool op] 4)).drew W3.heap.size 4 (.bool op) := Boxed.new W3 4 (.bool op)
            have hbd : ∀ w6, Mods (· = W3.heap.size) (W3.alloc (.cells #[.bool op] 4)).drew w6 → Below W3.heap.size W3 w6 := fun w6 hm6 =>
              (Mods.drew (((Mods.refl (fun _ => False) W3).alloc (.cells #[.bool op] 4)))).trans' hm6 (fun i hi e => by omega) |>.toBelow (Nat.le_refl _) (fun _ _ h => h)
            have HBN := hide hbn
            have HBD := hide hbd
            clear hbn hbd
            go_region_with (first | (go_at_call 31; refine (hqt.out _).mono ?_; rintro e w5 ⟨rfl, rfl⟩) | (go_at_call 53; refine (hct.out _ HBN.out).mono ?_; rintro e w6 ⟨rfl, hm6⟩; have HB6 := hide (HBD.out _ hm6); clear hm6))
            all_goals go_wp2_with fail
            all_goals go_meet
            all_goals exact ⟨rfl, HB6.out⟩
          obtain ⟨rfl, hbc⟩ := hcut
          have hJ4 := HJ.out _ _ _ hJ3 (grown_of_below hbc _)
          clear hct hqt hbc hJ3
          gi_wp2
          refine ⟨trivial, (fun h => by cases h), callsIn_wide.2 ((hfw.out _).mono ?_)⟩
          rintro e w5 ⟨rfl, rfl⟩
          clear hfw hdv
          gi_wp2
          go_roundw
          case rel => exact ⟨_, F2, R2, o2, rfl, rfl, rfl, by go_num, hff.1, hff.2, by omega, hX2, hJ4⟩
          case measure => show R2.size < R.size; omega
        · have hpx := HPRE.out
          gi_wp2
          refine bodyPost_ret (results_none rfl _ _ _) rfl ?_
          exact ⟨⟨_, rfl⟩, .inr ⟨_, hpx, hJx3⟩⟩
end Go.Proofs.YteceealibfemjaaDoor
