/-
  THE WALK of the law ColumnsIgnored (layer 2, columns).
-/
import Derived.Test.YtghgakdbfllbeaaDoorIgnR
import Derived.Test.YtghgakdbfllbeaaDoorMrkQ
import Derived.Test.YtghgakdbfllbeaaDoorSplC
import Derived.Test.YtghgakdbfllbeaaDoorLvs
import Derived.Test.YtghgakdbfllbeaaDoorLawE
import Derived.Outline
import Derived.IntWalk
import Derived.Deep.DeepCutAuto
import Derived.Deep.RegionHeld3
namespace Go.Proofs.YtghgakdbfllbeaaDoor
open Go.RowKit Go.Shelf

theorem belowN {w b c : World} (h : Below w.heap.size w b) (k : Below b.heap.size b c) : Below w.heap.size w c := h.trans (k.mono h.size)
theorem plain_badN (s : ByteArray) : decide (badN s.data.toList = s.size) = plainL s.data.toList := by
  unfold plainL
  have h := badN_any s.data.toList
  have hl := badN_le s.data.toList
  rw [len_data] at h hl
  cases ha : s.data.toList.any badC
  · rw [ha] at h
    simp at h ⊢
    omega
  · rw [ha] at h
    simp at h ⊢
    omega
set_option maxHeartbeats 4000000 in
set_option maxRecDepth 100000 in
/-- what is too long for the law -/
theorem IgnLaw_far (s e : ByteArray) (a0 a1 : Int) (w : World) (hs : s.size ≤ maxLen) (he : e.size ≤ maxLen) (h : 2000 < s.size ∨ 6 < e.size) (htab : Lib.TabIs Tryd.prog w "internal/strconv.uint64pow10" .u64 Lib.pow10Tab) :
    Calls Tryd.prog 6 #[.string s, .agg #[.int .u8 a0, .int .u8 a1], .string e] w fun e w' => e = .returned (.bool true) ∧ Below w.heap.size w w' := by
  unfold maxLen at hs he
  have hL : Hid (∀ w1, Below w.heap.size w w1 → Calls Tryd.prog 8 #[] w1 fun e w' => e = .returned (.bool true) ∧ Below w1.heap.size w1 w') := fun w1 hb => lives_c w1 (tab_below htab hb)
  have HBa := hide ((Below.refl _ w).alloc (Nat.le_refl _) (.cells #[.int .u8 a0, .int .u8 a1] 51))
  clear htab
  by_cases h1 : 2000 < s.size
  · clear h
    go_enter Tryd.func6, Tryd.ntmps6
    go_wp2_with fail
    refine (hL.out _ HBa.out).mono ?_
    rintro e w1 ⟨rfl, hb1⟩
    have HB1 := hide (HBa.out.trans (hb1.mono HBa.out.size))
    clear hb1
    go_wp2_with fail
    go_ret
    exact ⟨rfl, HB1.out⟩
  · have h2 : 6 < e.size := by omega
    clear h
    go_enter Tryd.func6, Tryd.ntmps6
    go_wp2_with fail
    refine (hL.out _ HBa.out).mono ?_
    rintro e w1 ⟨rfl, hb1⟩
    have HB1 := hide (HBa.out.trans (hb1.mono HBa.out.size))
    clear hb1
    go_wp2_with fail
    go_ret
    exact ⟨rfl, HB1.out⟩

set_option maxHeartbeats 8000000 in
set_option maxRecDepth 100000 in
theorem IgnLaw_ok (s e : ByteArray) (a0 a1 : Int) (w : World) (hs : s.size ≤ 2000) (he : e.size ≤ 6) (ha0 : 0 ≤ a0) (ha1 : 0 ≤ a1) (hb0 : a0 ≤ 255) (_hb1 : a1 ≤ 255) (htab : Lib.TabIs Tryd.prog w "internal/strconv.uint64pow10" .u64 Lib.pow10Tab) (hmx : MaxI w) :
    Calls Tryd.prog 6 #[.string s, .agg #[.int .u8 a0, .int .u8 a1], .string e] w fun e w' => e = .returned (.bool true) ∧ Below w.heap.size w w' := by
  have hL : Hid (∀ w1, Below w.heap.size w w1 → Calls Tryd.prog 8 #[] w1 fun e w' => e = .returned (.bool true) ∧ Below w1.heap.size w1 w') := fun w1 hb => lives_c w1 (tab_below htab hb)
  have hSP : Hid (∀ w1, Below w.heap.size w w1 → Calls Tryd.prog 12 #[.string s, .string ⟨#[10]⟩] w1 fun e w' => ∃ xs : List ByteArray, xs.map (·.data.toList) = splitNL s.data.toList ∧ e = .returned (.slice (some ⟨w1.heap.size, 0, none⟩) xs.length xs.length) ∧ LinesAt w' w1.heap.size xs ∧ Below w1.heap.size w1 w') := fun w1 hb => Split_nl s w1 (by omega) (hmx.below hb)
  obtain ⟨S80, hS80⟩ : ∃ S, S = mk (List.replicate 80 32) := ⟨_, rfl⟩
  have hC80 : Hid (∀ w1, Calls Tryd.prog 14 #[.int .i64 80] w1 fun e w' => e = .returned (.string S80) ∧ Below w1.heap.size w1 w') := fun w1 => by rw [hS80]; exact spaces_c 80 w1 (by omega)
  have HS80 : Hid (S80.data.toList = List.replicate 80 32) := by unfold Hid; rw [hS80]; rfl
  have HBa := hide ((Below.refl _ w).alloc (Nat.le_refl _) (.cells #[.int .u8 a0, .int .u8 a1] 51))
  have HAT := hide (blk_new w #[.int .u8 a0, .int .u8 a1] 51)
  clear htab hmx hS80
  go_enter Tryd.func6, Tryd.ntmps6
  go_wp2_with fail
  refine (hSP.out _ HBa.out).mono ?_
  rintro e2 w2 ⟨xs, hxs, rfl, hla, hb2⟩
  have HB2 := hide (HBa.out.trans (hb2.mono HBa.out.size))
  have HXS := hide hxs
  have HLA := hide hla
  have hxl : xs.length ≤ 2001 := by
    have h1 := congrArg List.length hxs
    have h2 := splitNL_len s.data.toList
    rw [List.length_map] at h1
    rw [len_data] at h2; omega
  have hx0 : 0 < xs.length := by
    have h1 := congrArg List.length hxs
    have h2 := List.length_pos_iff.2 (splitNL_ne s.data.toList)
    rw [List.length_map] at h1; omega
  have hat := blk_kept hb2 HAT.out
  have q0 := hat.cell 0
  have q1 := hat.cell 1
  have hatl := hat.lt
  have HA2 := hide hat
  obtain ⟨lb, hlb⟩ : ∃ b, b = w.heap.size + 1 := ⟨_, rfl⟩
  have hlbs : (w.alloc (.cells #[.int .u8 a0, .int .u8 a1] 51)).heap.size = lb := by rw [hlb]; exact World.size_alloc _ _
  rw [hlbs] at HLA
  rw [hlbs]
  have hlb2 : lb < w2.heap.size := lt_of_block HLA.out.blk
  obtain ⟨K, hK⟩ : ∃ K : Nat, a0 % (xs.length : Int) = (K : Int) := ⟨(a0 % (xs.length : Int)).toNat, by have := Int.emod_nonneg a0 (show (xs.length : Int) ≠ 0 by omega); omega⟩
  have hKl : K < xs.length := by have := Int.emod_lt_of_pos a0 (show (0 : Int) < (xs.length : Int) by omega); omega
  have HKE := hide hK
  clear hxs hla hb2 hSP hlbs hlb hat HAT
  go_upto_region 5 with fail
  go_cut [9] (fun s9 wx => ∃ M : ByteArray, s9 = .string M ∧ M.data.toList ∈ moreL ∧ Below w2.heap.size w2 wx)
  case first =>
    have hr : a1 % 8 = 0 ∨ a1 % 8 = 1 ∨ a1 % 8 = 2 ∨ a1 % 8 = 3 ∨ a1 % 8 = 4 ∨ a1 % 8 = 5 ∨ a1 % 8 = 6 ∨ a1 % 8 = 7 := by omega
    have hE1 := hide (show Below w2.heap.size w2 w2.drew from below_drewN (Below.refl _ _) 1)
    clear hK
    rcases hr with hr | hr | hr | hr | hr | hr | hr | hr
    · have hr2 : a1.tmod 8 = a1 % 8 := Int.tmod_eq_emod_of_nonneg ha1
      rw [hr] at hr2
      go_region_with (go_at_call 14; refine (hC80.out w2.drew).mono ?_; rintro e2 w5 ⟨rfl, hb5⟩; have HE5 := hide (hE1.out.trans (hb5.mono hE1.out.size)); have hz5 := HE5.out.size; have hat5 := blk_kept hb5 (show Blk w2.drew w.heap.size _ _ from HA2.out); have q0 := hat5.cell 0; have q1 := hat5.cell 1; have hatl5 := hat5.lt; clear hb5 hat5)
      all_goals go_wp2_with fail
      all_goals go_meet
      all_goals exact ⟨_, rfl, by decide, HE5.out.alloc hz5 _⟩
    · have hr2 : a1.tmod 8 = a1 % 8 := Int.tmod_eq_emod_of_nonneg ha1
      rw [hr] at hr2
      go_region_with (go_at_call 14; refine (hC80.out w2.drew).mono ?_; rintro e2 w5 ⟨rfl, hb5⟩; have HE5 := hide (hE1.out.trans (hb5.mono hE1.out.size)); have hz5 := HE5.out.size; have hat5 := blk_kept hb5 (show Blk w2.drew w.heap.size _ _ from HA2.out); have q0 := hat5.cell 0; have q1 := hat5.cell 1; have hatl5 := hat5.lt; clear hb5 hat5)
      all_goals go_wp2_with fail
      all_goals go_meet
      all_goals exact ⟨_, rfl, by decide, HE5.out.alloc hz5 _⟩
    · have hr2 : a1.tmod 8 = a1 % 8 := Int.tmod_eq_emod_of_nonneg ha1
      rw [hr] at hr2
      go_region_with (go_at_call 14; refine (hC80.out w2.drew).mono ?_; rintro e2 w5 ⟨rfl, hb5⟩; have HE5 := hide (hE1.out.trans (hb5.mono hE1.out.size)); have hz5 := HE5.out.size; have hat5 := blk_kept hb5 (show Blk w2.drew w.heap.size _ _ from HA2.out); have q0 := hat5.cell 0; have q1 := hat5.cell 1; have hatl5 := hat5.lt; clear hb5 hat5)
      all_goals go_wp2_with fail
      all_goals go_meet
      all_goals exact ⟨_, rfl, by decide, HE5.out.alloc hz5 _⟩
    · have hr2 : a1.tmod 8 = a1 % 8 := Int.tmod_eq_emod_of_nonneg ha1
      rw [hr] at hr2
      go_region_with (go_at_call 14; refine (hC80.out w2.drew).mono ?_; rintro e2 w5 ⟨rfl, hb5⟩; have HE5 := hide (hE1.out.trans (hb5.mono hE1.out.size)); have hz5 := HE5.out.size; have hat5 := blk_kept hb5 (show Blk w2.drew w.heap.size _ _ from HA2.out); have q0 := hat5.cell 0; have q1 := hat5.cell 1; have hatl5 := hat5.lt; clear hb5 hat5)
      all_goals go_wp2_with fail
      all_goals go_meet
      all_goals exact ⟨_, rfl, by decide, HE5.out.alloc hz5 _⟩
    · have hr2 : a1.tmod 8 = a1 % 8 := Int.tmod_eq_emod_of_nonneg ha1
      rw [hr] at hr2
      go_region_with (go_at_call 14; refine (hC80.out w2.drew).mono ?_; rintro e2 w5 ⟨rfl, hb5⟩; have HE5 := hide (hE1.out.trans (hb5.mono hE1.out.size)); have hz5 := HE5.out.size; have hat5 := blk_kept hb5 (show Blk w2.drew w.heap.size _ _ from HA2.out); have q0 := hat5.cell 0; have q1 := hat5.cell 1; have hatl5 := hat5.lt; clear hb5 hat5)
      all_goals go_wp2_with fail
      all_goals go_meet
      all_goals exact ⟨_, rfl, by decide, HE5.out.alloc hz5 _⟩
    · have hr2 : a1.tmod 8 = a1 % 8 := Int.tmod_eq_emod_of_nonneg ha1
      rw [hr] at hr2
      go_region_with (go_at_call 14; refine (hC80.out w2.drew).mono ?_; rintro e2 w5 ⟨rfl, hb5⟩; have HE5 := hide (hE1.out.trans (hb5.mono hE1.out.size)); have hz5 := HE5.out.size; have hat5 := blk_kept hb5 (show Blk w2.drew w.heap.size _ _ from HA2.out); have q0 := hat5.cell 0; have q1 := hat5.cell 1; have hatl5 := hat5.lt; clear hb5 hat5)
      all_goals go_wp2_with fail
      all_goals go_meet
      all_goals exact ⟨_, rfl, by rw [HS80.out]; simp [moreL], HE5.out.alloc hz5 _⟩
    · have hr2 : a1.tmod 8 = a1 % 8 := Int.tmod_eq_emod_of_nonneg ha1
      rw [hr] at hr2
      go_region_with (go_at_call 14; refine (hC80.out w2.drew).mono ?_; rintro e2 w5 ⟨rfl, hb5⟩; have HE5 := hide (hE1.out.trans (hb5.mono hE1.out.size)); have hz5 := HE5.out.size; have hat5 := blk_kept hb5 (show Blk w2.drew w.heap.size _ _ from HA2.out); have q0 := hat5.cell 0; have q1 := hat5.cell 1; have hatl5 := hat5.lt; clear hb5 hat5)
      all_goals go_wp2_with fail
      all_goals go_meet
      all_goals exact ⟨_, rfl, by decide, HE5.out.alloc hz5 _⟩
    · have hr2 : a1.tmod 8 = a1 % 8 := Int.tmod_eq_emod_of_nonneg ha1
      rw [hr] at hr2
      go_region_with (go_at_call 14; refine (hC80.out w2.drew).mono ?_; rintro e2 w5 ⟨rfl, hb5⟩; have HE5 := hide (hE1.out.trans (hb5.mono hE1.out.size)); have hz5 := HE5.out.size; have hat5 := blk_kept hb5 (show Blk w2.drew w.heap.size _ _ from HA2.out); have q0 := hat5.cell 0; have q1 := hat5.cell 1; have hatl5 := hat5.lt; clear hb5 hat5)
      all_goals go_wp2_with fail
      all_goals go_meet
      all_goals exact ⟨_, rfl, by decide, HE5.out.alloc hz5 _⟩
  case rest =>
    obtain ⟨M, rfl, hM, hbm⟩ := hcut
    have HM := hide hM
    have HB3 := hide (HB2.out.trans (hbm.mono HB2.out.size))
    have hla3 := HLA.out.below hbm
    have HL3 := hide hla3
    have hlb3 : lb < wc.heap.size := lt_of_block hla3.blk
    clear hM hbm hla3
    generalize wc = W at *
    have HBW := HB3
    have HKl := hide hKl
    obtain ⟨E, hE⟩ : ∃ E, E = e.data.toList := ⟨_, rfl⟩
    have hEl : E.length ≤ 6 := by rw [hE, len_data]; exact he
    obtain ⟨ls, hls⟩ : ∃ l, l = splitNL s.data.toList := ⟨_, rfl⟩
    have hll : ls.length = xs.length := by rw [hls, ← HXS.out, List.length_map]
    have HXL : Hid (∀ i (h : i < xs.length), (xs[i]'h).data.toList = ls.getD i []) := fun i h => by
      rw [hls, ← HXS.out, List.getD_eq_getElem?_getD, List.getElem?_map, List.getElem?_eq_getElem h]; rfl
    have HXZ : Hid (∀ i (h : i < xs.length), (xs[i]'h).size ≤ 2001) := fun i h => by
      rw [← len_data, HXL.out i h]
      have := splitNL_each s.data.toList (ls.getD i [])
      rw [len_data] at this
      refine Nat.le_trans (this ?_) (by omega)
      rw [← hls, List.getD_eq_getElem?_getD, List.getElem?_eq_getElem (by omega)]
      exact List.getElem_mem _
    have hpE : plainL e.data.toList = plainL E := by rw [hE]
    have HLL := hide hll
    have HE := hide hE
    have HLS := hide hls
    clear hK hll hE hls hpE
    go_wp2_with fail
    go_loopw [10, 11] (fun v10 v11 wr => ∃ (A' : Option Addr) (i c m : Nat), v10 = .slice A' m c ∧ v11 = .int .i64 (i : Int) ∧ i ≤ xs.length ∧ m ≤ 2 * i ∧ Hid (m = (insL (edgeL E) M.data.toList K ls i).length) ∧ wr.ownsRow W.heap.size 9 1 (.slice A' m c) m ((insL (edgeL E) M.data.toList K ls i).map encS) ∧ Below W.heap.size W wr) (fun _ v11 _ => xs.length - (intOf v11).toNat)
    case atStart => exact ⟨none, 0, 0, 0, rfl, rfl, Nat.zero_le _, by omega, rfl, World.ownsRow_nil _ _ _ _, Below.refl _ _⟩
    case round =>
      obtain ⟨A', i, c, m, rfl, rfl, hi, hmi, hm, hown, hb⟩ := hrel
      have hsz := hb.size
      have hlbr : lb < wr.heap.size := by omega
      have HLr := hide (show LinesAt wr lb xs from ⟨(hb.block lb hlb3).trans HL3.out.blk⟩)
      have HOWN := hide hown
      have HB := hide hb
      clear hown hb
      by_cases hlt : i < xs.length
      · go_upto_if 49 with fail
        go_cut [10] (fun s10 wx => ∃ (A2 : Option Addr) (c2 m2 : Nat), s10 = .slice A2 m2 c2 ∧ m2 ≤ 2 * i + 1 ∧ Hid (m2 = (insL (edgeL E) M.data.toList K ls i ++ if i = K then [M.data.toList] else []).length) ∧ wx.ownsRow W.heap.size 9 1 (.slice A2 m2 c2) m2 ((insL (edgeL E) M.data.toList K ls i ++ if i = K then [M.data.toList] else []).map encS) ∧ Below W.heap.size W wx)
        case first =>
          by_cases hik : i = K
          · have ek : ((i : Int) == a0 % (xs.length : Int)) = true := by rw [HKE.out, beq_iff_eq]; omega
            obtain ⟨g3, c3, w3, hrun, hown3, hb3⟩ := append_str W.heap.size W wr A' _ M m c HOWN.out HB.out HB.out.size (by omega)
            have HM2 : Hid (m + 1 = (insL (edgeL E) M.data.toList K ls i ++ if i = K then [M.data.toList] else []).length) := by
              unfold Hid; rw [if_pos hik, List.length_append, ← hm.out]; rfl
            have HOW3 : Hid (w3.ownsRow W.heap.size 9 1 (.slice (some ⟨g3, 0, none⟩) (m + 1) c3) (m + 1) ((insL (edgeL E) M.data.toList K ls i ++ if i = K then [M.data.toList] else []).map encS)) := by
              unfold Hid; rw [if_pos hik, List.map_append]; exact hown3
            have HB3' := hide hb3
            clear hown3 hb3 hik hm
            go_wp2_with (at_builtin; refine wpList_append_run rfl (.tmp 50) (.tmp 52) 40 rfl _ _ rfl rfl _ _ 40 rfl hrun ?_)
            go_meet
            exact ⟨_, c3, m + 1, rfl, by omega, HM2.out, HOW3.out, HB3'.out⟩
          · have ek : ((i : Int) == a0 % (xs.length : Int)) = false := by rw [HKE.out, beq_eq_false_iff_ne]; omega
            have HM2 : Hid (m = (insL (edgeL E) M.data.toList K ls i ++ if i = K then [M.data.toList] else []).length) := by
              unfold Hid; rw [if_neg hik, List.append_nil]; exact hm.out
            have HOW3 : Hid (wr.ownsRow W.heap.size 9 1 (.slice A' m c) m ((insL (edgeL E) M.data.toList K ls i ++ if i = K then [M.data.toList] else []).map encS)) := by
              unfold Hid; rw [if_neg hik, List.append_nil]; exact HOWN.out
            clear hik hm
            go_wp2_with fail
            go_meet
            exact ⟨A', c, m, rfl, by omega, HM2.out, HOW3.out, HB.out⟩
        case rest =>
        obtain ⟨A2, c2, m2, rfl, hm2i, hm2, hownx, hbx⟩ := hcut
        have HOWx := hide hownx
        have HBx := hide hbx
        have hlbx : lb < wc.heap.size := by have := hbx.size; omega
        have hlx := (show LinesAt wc lb xs from ⟨(hbx.block lb hlb3).trans HL3.out.blk⟩).cell i hlt
        obtain ⟨X, hX⟩ : ∃ X, X = xs[i]'hlt := ⟨_, rfl⟩
        have HXi : Hid (ls.getD i [] = X.data.toList) := by unfold Hid; rw [hX, HXL.out i hlt]
        have hXz : X.size ≤ 2001 := by rw [hX]; exact HXZ.out i hlt
        rw [← hX] at hlx
        have HX := hide hX
        clear hownx hbx hX
        generalize wc = Wx at *
        have hXd := len_data X
        have HXD := hide hXd
        by_cases h7 : 7 ≤ X.size
        · by_cases h72 : X.size ≤ 72
          · have hP6 : Hid (∀ w1, Calls Tryd.prog 20 #[.string (X.extract 0 6)] w1 fun e w' => e = .returned (.bool (plainL (X.data.toList.take 6))) ∧ w1 = w') := fun w1 => by
              have h := plain_c (X.extract 0 6) w1 (by rw [ByteArray.size_extract]; unfold maxLen; omega)
              rw [plain_badN, Lib.extract_from_zero] at h; exact h
            have hPE : Hid (∀ w1, Calls Tryd.prog 20 #[.string e] w1 fun e w' => e = .returned (.bool (plainL E)) ∧ w1 = w') := fun w1 => by
              have h := plain_c e w1 (by unfold maxLen; omega)
              rw [plain_badN, ← HE.out] at h; exact h
            clear hXd
            go_wp2_with fail
            refine (hP6.out _).mono ?_
            rintro e2 w4 ⟨rfl, rfl⟩
            cases hp6 : plainL (X.data.toList.take 6)
            · have hed : Hid (edgeL E X.data.toList = X.data.toList) := by
                unfold Hid edgeL; rw [if_neg (by rw [hp6]; simp)]
              have HMN : Hid (m2 + 1 = (insL (edgeL E) M.data.toList K ls (i + 1)).length) := by
                unfold Hid; rw [insL, List.length_append, ← hm2.out]; rfl
              obtain ⟨g3, c3, w3, hrun, hown3, hb3⟩ := append_str W.heap.size W Wx A2 _ X m2 c2 HOWx.out HBx.out HBx.out.size (by omega)
              have HOW3 : Hid (w3.ownsRow W.heap.size 9 1 (.slice (some ⟨g3, 0, none⟩) (m2 + 1) c3) (m2 + 1) ((insL (edgeL E) M.data.toList K ls (i + 1)).map encS)) := by
                unfold Hid; rw [insL, List.map_append, HXi.out, hed.out]; exact hown3
              have HB3' := hide hb3
              clear hown3 hb3 hm2
              go_wp2_with (at_builtin; refine wpList_append_run rfl (.tmp 89) (.tmp 91) 40 rfl _ _ rfl rfl _ _ 40 rfl hrun ?_)
              go_roundw
              case rel => exact ⟨_, i + 1, c3, m2 + 1, rfl, by go_num, hlt, by omega, HMN.out, HOW3.out, HB3'.out⟩
              case measure => simp [intOf]; omega
            · go_wp2_with fail
              refine (hPE.out _).mono ?_
              rintro e2 w4 ⟨rfl, rfl⟩
              cases hpe : plainL E
              · have hed : Hid (edgeL E X.data.toList = X.data.toList) := by
                  unfold Hid edgeL; rw [if_neg (by rw [hpe]; simp)]
                have HMN : Hid (m2 + 1 = (insL (edgeL E) M.data.toList K ls (i + 1)).length) := by
                  unfold Hid; rw [insL, List.length_append, ← hm2.out]; rfl
                obtain ⟨g3, c3, w3, hrun, hown3, hb3⟩ := append_str W.heap.size W Wx A2 _ X m2 c2 HOWx.out HBx.out HBx.out.size (by omega)
                have HOW3 : Hid (w3.ownsRow W.heap.size 9 1 (.slice (some ⟨g3, 0, none⟩) (m2 + 1) c3) (m2 + 1) ((insL (edgeL E) M.data.toList K ls (i + 1)).map encS)) := by
                  unfold Hid; rw [insL, List.map_append, HXi.out, hed.out]; exact hown3
                have HB3' := hide hb3
                clear hown3 hb3 hm2
                go_wp2_with (at_builtin; refine wpList_append_run rfl (.tmp 89) (.tmp 91) 40 rfl _ _ rfl rfl _ _ 40 rfl hrun ?_)
                go_roundw
                case rel => exact ⟨_, i + 1, c3, m2 + 1, rfl, by go_num, hlt, by omega, HMN.out, HOW3.out, HB3'.out⟩
                case measure => simp [intOf]; omega
              · obtain ⟨S6, hS6⟩ : ∃ S, S = mk (List.replicate 6 32) := ⟨_, rfl⟩
                obtain ⟨r7, hr7⟩ : ∃ r : Nat, r = 72 - X.size := ⟨_, rfl⟩
                obtain ⟨S7, hS7⟩ : ∃ S, S = mk (List.replicate r7 32) := ⟨_, rfl⟩
                have hC6 : Hid (∀ w1, Calls Tryd.prog 14 #[.int .i64 6] w1 fun e w' => e = .returned (.string S6) ∧ Below w1.heap.size w1 w') := fun w1 => by rw [hS6]; exact spaces_c 6 w1 (by omega)
                have hC7 : Hid (∀ w1, Calls Tryd.prog 14 #[.int .i64 (72 - (X.size : Int))] w1 fun e w' => e = .returned (.string S7) ∧ Below w1.heap.size w1 w') := fun w1 => by
                  have h := spaces_c r7 w1 (by omega)
                  rw [← hS7, show ((r7 : Nat) : Int) = 72 - (X.size : Int) by omega] at h
                  exact h
                have hz6 : S6.size = 6 := by rw [hS6, mk_size, List.length_replicate]
                have hz7 : S7.size ≤ 72 := by rw [hS7, mk_size, List.length_replicate]; omega
                obtain ⟨P6, hP6⟩ : ∃ P, (e ++ S6).extract 0 6 = P := ⟨_, rfl⟩
                obtain ⟨X6, hX6⟩ : ∃ P, X.extract 6 X.size = P := ⟨_, rfl⟩
                have hp6z : P6.size ≤ 6 := by rw [← hP6, ByteArray.size_extract]; omega
                have hx6z : X6.size ≤ 2001 := by rw [← hX6, ByteArray.size_extract]; omega
                obtain ⟨Y, hY⟩ : ∃ Y, Y = P6 ++ X6 ++ S7 ++ e := ⟨_, rfl⟩
                have hed : Hid (edgeL E X.data.toList = Y.data.toList) := by
                  unfold Hid edgeL
                  rw [if_pos ⟨by rw [HXD.out]; exact h7, by rw [HXD.out]; exact h72, hp6, hpe⟩, hY, ← hP6, ← hX6]
                  simp only [ByteArray.data_append, Array.toList_append, HXD.out]
                  rw [Lib.extract_from_zero, extract_drop, ByteArray.data_append, Array.toList_append, hS6, hS7, HE.out, hr7]
                  rfl
                have HMN : Hid (m2 + 1 = (insL (edgeL E) M.data.toList K ls (i + 1)).length) := by
                  unfold Hid; rw [insL, List.length_append, ← hm2.out]; rfl
                have hX1 := hide (show Below Wx.heap.size Wx Wx.drew from below_drewN (Below.refl _ _) 1)
                have HAP : Hid (∀ w6, Below Wx.heap.size Wx w6 → ∃ g3 c3 w3, (Builtin.append_ #[40, 40] 40 #[.slice A2 m2 c2, .slice (some ⟨w6.heap.size, 0, none⟩) 1 1]).run Tryd.prog (w6.alloc (.cells #[.string Y] 9)) = .ok (.slice (some ⟨g3, 0, none⟩) (m2 + 1) c3) w3 ∧ w3.ownsRow W.heap.size 9 1 (.slice (some ⟨g3, 0, none⟩) (m2 + 1) c3) (m2 + 1) ((insL (edgeL E) M.data.toList K ls (i + 1)).map encS) ∧ Below W.heap.size W w3) := fun w6 hb6 => by
                  have hbw : Below W.heap.size W w6 := HBx.out.trans (hb6.mono HBx.out.size)
                  obtain ⟨g3, c3, w3, hrun, hown3, hb3⟩ := append_str W.heap.size W w6 A2 _ Y m2 c2 (own_kept HOWx.out (Mods.of_below hb6) (fun _ _ e => e)) hbw hbw.size (by omega)
                  refine ⟨g3, c3, w3, hrun, ?_, hb3⟩
                  rw [insL, List.map_append, HXi.out, List.map_cons, hed.out]; exact hown3
                have hsm : (e ++ S6).size ≤ 1000 := by rw [ByteArray.size_append]; omega
                have hsm6 : 6 ≤ (e ++ S6).size := by rw [ByteArray.size_append]; omega
                have HY := hide hY
                have HR7 := hide hr7
                have hw72 : IntKind.i64.wrap (72 - (X.size : Int)) = 72 - (X.size : Int) := by rw [IntWalk.i64_in _ (by omega)]
                have hi6 : (6 : Int) ≤ (X.size : Int) := by omega
                have hi60 : (6 : Int) ≤ ((e ++ S6).size : Int) := by omega
                clear hS6 hS7 hY hp6 hpe hm2 hr7
                go_wp2_with fail
                go_region_with
                  (first
                  | (go_at_call_of 14 (Value.int .i64 6); ((with_reducible refine (hC6.out _).mono ?_); rintro e2 w5 ⟨rfl, hb5⟩; have hS5 := hX1.out.trans (hb5.mono hX1.out.size); clear hb5))
                  | (go_at_call 14; ((with_reducible refine (hC7.out _).mono ?_); rintro e2 w6 ⟨rfl, hb6⟩; have hS6 := belowN hS5 hb6; clear hb6)))
                all_goals
                  rw [← HY.out]
                  obtain ⟨g3, c3, w3, hrun, hown3, hb3⟩ := HAP.out w6 hS6
                  have HOW3 := hide hown3
                  have HB3' := hide hb3
                  clear hown3 hb3
                  go_wp2_with (at_builtin; refine wpList_append_run rfl (.tmp 89) (.tmp 91) 40 rfl _ _ rfl rfl _ _ 40 rfl hrun ?_)
                  go_roundw
                  case rel => exact ⟨_, i + 1, c3, m2 + 1, rfl, by go_num, hlt, by omega, HMN.out, HOW3.out, HB3'.out⟩
                  case measure => simp [intOf]; omega
          · clear hXd
            have hed : Hid (edgeL E X.data.toList = X.data.toList) := by
              unfold Hid edgeL; rw [if_neg (by rw [HXD.out]; omega)]
            have HMN : Hid (m2 + 1 = (insL (edgeL E) M.data.toList K ls (i + 1)).length) := by
              unfold Hid; rw [insL, List.length_append, ← hm2.out]; rfl
            obtain ⟨g3, c3, w3, hrun, hown3, hb3⟩ := append_str W.heap.size W Wx A2 _ X m2 c2 HOWx.out HBx.out HBx.out.size (by omega)
            have HOW3 : Hid (w3.ownsRow W.heap.size 9 1 (.slice (some ⟨g3, 0, none⟩) (m2 + 1) c3) (m2 + 1) ((insL (edgeL E) M.data.toList K ls (i + 1)).map encS)) := by
              unfold Hid; rw [insL, List.map_append, HXi.out, hed.out]; exact hown3
            have HB3' := hide hb3
            clear hown3 hb3 hm2
            go_wp2_with (at_builtin; refine wpList_append_run rfl (.tmp 89) (.tmp 91) 40 rfl _ _ rfl rfl _ _ 40 rfl hrun ?_)
            go_roundw
            case rel => exact ⟨_, i + 1, c3, m2 + 1, rfl, by go_num, hlt, by omega, HMN.out, HOW3.out, HB3'.out⟩
            case measure => simp [intOf]; omega
        · clear hXd
          have hed : Hid (edgeL E X.data.toList = X.data.toList) := by
            unfold Hid edgeL; rw [if_neg (by rw [HXD.out]; omega)]
          have HMN : Hid (m2 + 1 = (insL (edgeL E) M.data.toList K ls (i + 1)).length) := by
            unfold Hid; rw [insL, List.length_append, ← hm2.out]; rfl
          obtain ⟨g3, c3, w3, hrun, hown3, hb3⟩ := append_str W.heap.size W Wx A2 _ X m2 c2 HOWx.out HBx.out HBx.out.size (by omega)
          have HOW3 : Hid (w3.ownsRow W.heap.size 9 1 (.slice (some ⟨g3, 0, none⟩) (m2 + 1) c3) (m2 + 1) ((insL (edgeL E) M.data.toList K ls (i + 1)).map encS)) := by
            unfold Hid; rw [insL, List.map_append, HXi.out, hed.out]; exact hown3
          have HB3' := hide hb3
          clear hown3 hb3 hm2
          go_wp2_with (at_builtin; refine wpList_append_run rfl (.tmp 89) (.tmp 91) 40 rfl _ _ rfl rfl _ _ 40 rfl hrun ?_)
          go_roundw
          case rel => exact ⟨_, i + 1, c3, m2 + 1, rfl, by go_num, hlt, by omega, HMN.out, HOW3.out, HB3'.out⟩
          case measure => simp [intOf]; omega
      · obtain rfl : i = xs.length := by omega
        have hll2 := HLL.out
        have hKls : K < (splitNL s.data.toList).length := by rw [← HLS.out, hll2]; exact HKl.out
        obtain ⟨J, hJ⟩ : ∃ J, J = mk (Lib.join (insL (edgeL E) M.data.toList K ls ls.length) [10]) := ⟨_, rfl⟩
        have hJd : J.data.toList = Lib.join (insL (edgeL E) M.data.toList K ls ls.length) [10] := by rw [hJ, mk_data]
        have hJd2 : J.data.toList = Lib.join (insL (edgeL E) M.data.toList K (splitNL s.data.toList) (splitNL s.data.toList).length) [10] := by rw [hJd, HLS.out]
        have hsame := ign_same E s.data.toList M.data.toList hEl HM.out K hKls J.data.toList hJd2
        have hmb := more_blank M.data.toList HM.out
        have hJz : J.size ≤ 200000 := by
          rw [← len_data, hJd2]
          exact join_small E M.data.toList s.data.toList K hEl hmb.2.2 (by rw [len_data]; exact hs)
        have hi2 := insL_length (edgeL E) M.data.toList K ls ls.length
        have hJn : (splitNL J.data.toList).length ≤ 70000 := by
          rw [hsame.1, ← HLS.out]
          split at hi2 <;> omega
        have hsn : (splitNL s.data.toList).length ≤ 70000 := by rw [← HLS.out]; omega
        obtain ⟨-, hsh, hE1, hz1, hz2⟩ := hsame
        obtain ⟨⟨f1, f2, f3⟩, hF⟩ : ∃ f, f = resF (readL false s.data.toList) := ⟨_, rfl⟩
        obtain ⟨⟨g1, g2, g3⟩, hG⟩ : ∃ f, f = resF (readL false J.data.toList) := ⟨_, rfl⟩
        rw [← hF, ← hG] at hE1
        rw [← hF] at hz1
        rw [← hG] at hz2
        obtain ⟨S1, hS1⟩ : ∃ S, S = mk (shown (resCs (readL false s.data.toList))) := ⟨_, rfl⟩
        have HR1 : Hid (∀ w1, Calls Tryd.prog 21 #[.string s] w1 fun e w' => e = .returned (.tuple #[.string S1, .agg #[.int .i64 f1, .int .i64 f2, .int .i64 f3]]) ∧ Below w1.heap.size w1 w') := fun w1 => by
          have h := help_small s w1 (by omega) hsn
          rw [← hS1, ← hF] at h; exact h
        have HR2 : Hid (∀ w1, Calls Tryd.prog 21 #[.string J] w1 fun e w' => e = .returned (.tuple #[.string S1, .agg #[.int .i64 g1, .int .i64 g2, .int .i64 g3]]) ∧ Below w1.heap.size w1 w') := fun w1 => by
          have h := help_small J w1 (by omega) hJn
          rw [← hsh, ← hS1, ← hG] at h; exact h
        have hml : m = (insL (edgeL E) M.data.toList K ls ls.length).length := by rw [hll2]; exact hm.out
        have hm0 : 0 < m := by
          rw [hml, insL_all _ _ _ _ (by rw [hll2]; exact HKl.out), List.length_append, List.length_cons]; omega
        obtain ⟨g, rfl⟩ : ∃ g, A' = some ⟨g, 0, none⟩ := by
          rcases HOWN.out.2 with ⟨hv, _⟩ | ⟨g, cap, cur, hv, _⟩
          · injection hv with _ h _; exact absurd h (by omega)
          · injection hv with h _ _; exact ⟨g, h⟩
        have HJ : Hid (∀ W', Below wr.heap.size wr W' → Calls Tryd.prog 22 #[.slice (some ⟨g, 0, none⟩) m c, .string ⟨#[10]⟩] W' fun e w' => e = .returned (.string J) ∧ Below W'.heap.size W' w') := by
          intro W' hb
          have hown2 := own_kept HOWN.out (Mods.of_below hb) (fun _ _ e => e)
          have hlen : ((insL (edgeL E) M.data.toList K ls ls.length).map mk).length = m := by rw [List.length_map, ← hml]
          have hmm : ((insL (edgeL E) M.data.toList K ls ls.length).map mk).map (·.data.toList) = insL (edgeL E) M.data.toList K ls ls.length := by
            rw [List.map_map]
            conv => rhs; rw [← List.map_id (insL (edgeL E) M.data.toList K ls ls.length)]
            exact List.map_congr_left fun x _ => mk_data x
          have h := Tryd.strings_Join g 0 c ((insL (edgeL E) M.data.toList K ls ls.length).map mk) ⟨#[10]⟩ W' (fun j x hx => by
            have hu : ((insL (edgeL E) M.data.toList K ls xs.length).map encS)[j]? = some (.string x) := by
              rw [← hll2, List.getElem?_map]
              rw [List.getElem?_map] at hx
              cases hc : (insL (edgeL E) M.data.toList K ls ls.length)[j]? with
              | none => rw [hc] at hx; cases hx
              | some d => rw [hc] at hx; injection hx with hx; subst hx; rfl
            have hjl : j < m * 1 := by
              have := (List.getElem?_eq_some_iff.1 hu).1
              rw [List.length_map, ← hll2, ← hml] at this
              omega
            rw [Nat.zero_add]
            exact (hown2.cellAt j hjl).trans hu) (by have := (hown2.lt g rfl).2; exact this) (by rw [hlen]; omega) (by rw [hlen]; exact (own_cap hown2).2) (by
              rw [hmm, ← hJd, len_data]; omega)
          rw [hlen] at h
          refine h.mono fun _ _ h => ⟨?_, h.2⟩
          rw [h.1, hmm, hJ]; rfl
        have HB3w : Hid (Below w.heap.size w wr) := HBW.out.trans (HB.out.mono HBW.out.size)
        have HZ1 := hide hz1
        have HZ2 := hide hz2
        have HE1 := hide hE1
        clear hll2 hKls hJ hJd hJd2 hmb hi2 hJn hsn hsh hE1 hz1 hz2 hF hG hS1 hml hm
        go_wp2_with fail
        refine (HR1.out _).mono ?_
        rintro e2 w4 ⟨rfl, hb4⟩
        have HA4 := hide (show Below wr.heap.size wr (w4.alloc (.cells #[.int .i64 f1, .int .i64 f2, .int .i64 f3] 34)) from hb4.alloc hb4.size _)
        have HK4 := hide (blk_new w4 #[.int .i64 f1, .int .i64 f2, .int .i64 f3] 34)
        clear hb4
        go_wp2_with fail
        refine (HJ.out _ HA4.out).mono ?_
        rintro e2 w5 ⟨rfl, hb5⟩
        have HA5 := hide (HA4.out.trans (hb5.mono HA4.out.size))
        have HK5 := hide (blk_kept hb5 HK4.out)
        clear hb5
        go_wp2_with fail
        refine (HR2.out _).mono ?_
        rintro e2 w6 ⟨rfl, hb6⟩
        have HA6 := hide ((HA5.out.trans (hb6.mono HA5.out.size)).alloc (HA5.out.trans (hb6.mono HA5.out.size)).size (.cells #[.int .i64 g1, .int .i64 g2, .int .i64 g3] 34))
        have hk6 := blk_kept hb6 HK5.out
        have hk6l := hk6.lt
        have HK6 := hide (hk6.alloc (.cells #[.int .i64 g1, .int .i64 g2, .int .i64 g3] 34))
        have HG6 := hide (blk_new w6 #[.int .i64 g1, .int .i64 g2, .int .i64 g3] 34)
        have u0 := HK6.out.cell 0
        have u1 := HK6.out.cell 1
        have u2 := HK6.out.cell 2
        have v0 := HG6.out.cell 0
        have v1 := HG6.out.cell 1
        have v2 := HG6.out.cell 2
        have HBz := hide (HB3w.out.trans (HA6.out.mono HB3w.out.size))
        clear hb6 hk6
        have hE1 := HE1.out
        have hz1 := HZ1.out
        have hz2 := HZ2.out
        try simp only at hE1 hz1 hz2
        subst hE1
        clear HE1 HZ1 HZ2
        by_cases h0 : f1 = 0
        · subst h0
          have q1 := hz1 rfl
          have q2 := hz2 rfl
          injection q1 with _ q1
          injection q1 with q1 q3
          injection q2 with _ q2
          injection q2 with q2 q4
          subst q1 q2 q3 q4
          clear hz1 hz2
          go_wp2_with fail
          refine (hL.out _ HBz.out).mono ?_
          rintro e2 w8 ⟨rfl, hb8⟩
          have HB8 := hide (HBz.out.trans (hb8.mono HBz.out.size))
          clear hb8
          go_wp2_with fail
          go_ret
          exact ⟨rfl, HB8.out⟩
        · have hb0 : (f1 == 0) = false := by rw [beq_eq_false_iff_ne]; exact h0
          clear hz1 hz2
          go_wp2_with fail
          refine (hL.out _ HBz.out).mono ?_
          rintro e2 w8 ⟨rfl, hb8⟩
          have HB8 := hide (HBz.out.trans (hb8.mono HBz.out.size))
          clear hb8
          go_wp2_with fail
          go_ret
          exact ⟨rfl, HB8.out⟩
end Go.Proofs.YtghgakdbfllbeaaDoor
