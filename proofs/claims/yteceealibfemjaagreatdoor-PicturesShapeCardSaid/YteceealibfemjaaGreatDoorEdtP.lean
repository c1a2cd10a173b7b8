/-
  CONTRACT of edited (layer 6, pictures).
-/
import Derived.Test.YteceealibfemjaaGreatDoorBarP
namespace Go.Proofs.YteceealibfemjaaGreatDoor
open Go.RowKit Go.Shelf

theorem bar_len (p : List UInt8) : (Pic.barL p).length ≤ p.length + 2 := by
  unfold Pic.barL
  rw [List.length_append]
  have h1 : (List.filter (fun c => !insOf c) (Lib.trimSuffix p [68, 66])).length ≤ p.length := by
    refine Nat.le_trans (List.length_filter_le _ _) ?_
    unfold Lib.trimSuffix
    split
    · rw [List.length_take]; omega
    · exact Nat.le_refl _
  have h2 : (if Lib.hasSuffix p [68, 66] then [68, 66] else ([] : List UInt8)).length ≤ 2 := by split <;> simp
  omega
set_option maxRecDepth 100000 in
set_option maxHeartbeats 4000000 in
theorem edited_c (s : ByteArray) (w : World) (hs : s.size ≤ 900) (he : EnvP w) :
    Calls Tryz.prog 16 #[.string s] w (FrmPost (Pic.ediL s.data.toList) w) := by
  obtain ⟨l, hl⟩ : ∃ l, l = s.data.toList := ⟨_, rfl⟩
  rw [← hl]
  have hls : l.length = s.size := by rw [hl, len_data]
  obtain ⟨B, hB⟩ : ∃ B, B = Pic.barL l := ⟨_, rfl⟩
  have hBl : B.length ≤ 1000 := by have := bar_len l; rw [hB]; omega
  obtain ⟨r, hr⟩ : ∃ r, r = Pic.reaL B := ⟨_, rfl⟩
  obtain ⟨p1, hp1⟩ : ∃ p1, p1 = Lib.hasPrefix l [44] := ⟨_, rfl⟩
  obtain ⟨p2, hp2⟩ : ∃ p2, p2 = Lib.hasSuffix l [44] := ⟨_, rfl⟩
  obtain ⟨n, hn⟩ : ∃ n, n = Pic.cnt 86 l := ⟨_, rfl⟩
  have hnl : n ≤ s.size := by have := cnt_le 86 l; omega
  have HX : Hid (Pic.ediL l = if (r.1 && decide (r.2.sg ≤ 1) && decide (0 < r.2.d) && !p1 && !p2) = true then some ⟨5, r.2.d, r.2.sc, decide (0 < r.2.sg), s.size - n⟩ else none) := by
    unfold Hid Pic.ediL Pic.ediB; rw [hr, hB, hp1, hp2, hn, ← hls]
  have HP1 : Hid (∀ W, Calls Tryz.prog 36 #[.string s, .string ⟨#[44]⟩] W fun e w' => e = .returned (.bool p1) ∧ W = w') := fun W => by
    rw [hp1, hl]; exact (Tryz.strings_HasPrefix s ⟨#[44]⟩ W).mono fun _ _ h => ⟨h.1, h.2.symm⟩
  have HP2 : Hid (∀ W, Calls Tryz.prog 37 #[.string s, .string ⟨#[44]⟩] W fun e w' => e = .returned (.bool p2) ∧ W = w') := fun W => by
    rw [hp2, hl]; exact (Tryz.strings_HasSuffix s ⟨#[44]⟩ W (by omega)).mono fun _ _ h => ⟨h.1, h.2.symm⟩
  have HCn : Hid (∀ W, Calls Tryz.prog 17 #[.string s, .string ⟨#[86]⟩] W fun e w' => e = .returned (.int .i64 (n : Int)) ∧ W = w') := fun W => by
    refine (Tryz.strings_Count_one s 86 W).mono fun e w' h => ⟨?_, h.2.symm⟩
    rw [h.1, hn, hl]; rfl
  obtain ⟨W0, hW0⟩ : ∃ W0, W0 = w.alloc (.cells (shpC 0 ⟨#[]⟩ 0 0 false 0) 28) := ⟨_, rfl⟩
  have HB0 : Hid (Below w.heap.size w W0) := by unfold Hid; rw [hW0]; exact below1 w _
  have HK0 : Hid (ShpB W0 w.heap.size (shpC 0 ⟨#[]⟩ 0 0 false 0)) := by unfold Hid; rw [hW0]; exact heap_alloc_new w _
  have HBA := hide (bare_c s W0 (by omega) (he.below HB0.out))
  rw [← hl, ← hB] at HBA
  have HRD : Hid (∀ W b g off cap, OutAt W b g ⟨B, 0, 0, 0⟩ off cap → Calls Tryz.prog 35 #[.pointer (some ⟨b, 0, none⟩)] W fun e w' => e = .returned (.bool r.1) ∧ TaiPost b r.2 W w') := fun W b g off cap hh => by
    have := read_c b g B off cap W hBl hh
    rw [← hr] at this; exact this
  unfold shpC at hW0
  have HW0 := hide hW0
  clear hls hB hr hp1 hp2 hn hl he hW0
  obtain ⟨r1, ro, sg, d, sc⟩ := r
  simp only [] at HX
  go_enter Tryz.func16, Tryz.ntmps16
  go_wp2_with fail
  with_reducible rw [← HW0.out]
  refine HBA.out.mono ?_
  rintro e w1 ⟨g, cap, rfl, hr1, hc1, hg1, hb1⟩
  obtain ⟨W2, hW2⟩ : ∃ W2, W2 = w1.alloc (.cells #[.slice (some ⟨g, 0, none⟩) B.length cap, .int .i64 0, .int .i64 0, .int .i64 0] 69) := ⟨_, rfl⟩
  have hb2 : Below w1.heap.size w1 W2 := by rw [hW2]; exact below1 w1 _
  have HO2 : Hid (OutAt W2 w1.heap.size g ⟨B, 0, 0, 0⟩ 0 cap) := ⟨by rw [hW2]; exact heap_alloc_new w1 _, hr1.below hb2, hc1, by have := hr1.1; omega⟩
  have HB2 : Hid (Below W0.heap.size W0 W2) := hb1.trans (hb2.mono hb1.size)
  have HLT : Hid (w.heap.size < w1.heap.size) := Nat.lt_of_lt_of_le HK0.out.lt hb1.size
  clear hr1 hc1 hg1 hb1 hb2 HW0 HBA
  go_upto_region 2 with fail
  with_reducible rw [← hW2]
  clear hW2
  go_wp2_with fail
  refine (HRD.out W2 _ _ _ _ HO2.out).mono ?_
  rintro e w3 ⟨rfl, ⟨A, cap3, hb3⟩, hm3⟩
  have HB3 : Hid (Below w.heap.size w w3) := (HB0.out.trans (HB2.out.mono HB0.out.size)).trans (hm3.toBelow (by have := HB2.out.size; have := HB0.out.size; omega) (fun j hj e => by have := HLT.out; unfold Mb at e; omega))
  have HK3 : Hid (ShpB w3 w.heap.size (shpC 0 ⟨#[]⟩ 0 0 false 0)) := (hm3.block _ (Nat.lt_of_lt_of_le HK0.out.lt HB2.out.size) (by have := HLT.out; unfold Mb; omega)).trans (HK0.out.below HB2.out)
  have c1 := cell_of_row w3 w1.heap.size 1 _ _ _ hb3
  have c2 := cell_of_row w3 w1.heap.size 2 _ _ _ hb3
  have c3 := cell_of_row w3 w1.heap.size 3 _ _ _ hb3
  simp only [] at c1 c2 c3
  clear hb3 hm3 HRD HO2 HB2
  by_cases hf : (r1 = true ∧ sg ≤ 1) ∧ 0 < d
  · obtain ⟨⟨hr1, hsg⟩, hd⟩ := hf
    subst hr1
    have hsgd : decide ((sg : Int) ≤ 1) = true := decide_eq_true (by omega)
    have hdd : decide (0 < d) = true := decide_eq_true hd
    cases p1 with
    | true =>
      have HX2 : Hid (Pic.ediL l = none) := by unfold Hid; rw [HX.out, if_neg (by simp)]
      clear HX hsg hd
      go_wp2_with fail
      refine (HP1.out _).mono ?_
      rintro e w' ⟨rfl, rfl⟩
      go_wp2_with (refine wpList_store_row rfl 28 _ _ rfl w.heap.size (shpC 0 ⟨#[]⟩ 0 0 false 0) rfl rfl 28 _ HK3.out (shp_info _ _ _ _ _ _) rfl (shp_one _ _ _ _ _ _) ?_)
      obtain ⟨WF, hWF⟩ : ∃ WF, WF = w3.setRow w.heap.size (shpC 0 ⟨#[]⟩ 0 0 false 0) := ⟨_, rfl⟩
      have hsh : ShpB WF w.heap.size (shpC 0 ⟨#[]⟩ 0 0 false 0) := by rw [hWF]; exact HK3.out.set _
      obtain ⟨d0, d1, d2, d3, d4, d5, d6, d7, d8, d9, d10⟩ := hsh.cells
      have HBF : Hid (Below w.heap.size w WF) := by unfold Hid; rw [hWF]; exact below_setRow HB3.out (Nat.le_refl _) _
      with_reducible rw [← hWF]
      clear hWF
      refine bodyPost_ret (v := .tuple #[.agg (shpC 0 ⟨#[]⟩ 0 0 false 0), .bool false]) (by simp [results, Tryz.results16, go_sem, d0, d1, d2, d3, d4, d5, d6, d7, d8, d9, d10, shpC]) rfl ⟨?_, HBF.out⟩
      rw [HX2.out]; rfl
    | false =>
      cases p2 with
      | true =>
        have HX2 : Hid (Pic.ediL l = none) := by unfold Hid; rw [HX.out, if_neg (by simp)]
        clear HX hsg hd
        go_wp2_with fail
        refine (HP1.out _).mono ?_
        rintro e w' ⟨rfl, rfl⟩
        go_wp2_with fail
        refine (HP2.out _).mono ?_
        rintro e w' ⟨rfl, rfl⟩
        go_wp2_with (refine wpList_store_row rfl 28 _ _ rfl w.heap.size (shpC 0 ⟨#[]⟩ 0 0 false 0) rfl rfl 28 _ HK3.out (shp_info _ _ _ _ _ _) rfl (shp_one _ _ _ _ _ _) ?_)
        obtain ⟨WF, hWF⟩ : ∃ WF, WF = w3.setRow w.heap.size (shpC 0 ⟨#[]⟩ 0 0 false 0) := ⟨_, rfl⟩
        have hsh : ShpB WF w.heap.size (shpC 0 ⟨#[]⟩ 0 0 false 0) := by rw [hWF]; exact HK3.out.set _
        obtain ⟨d0, d1, d2, d3, d4, d5, d6, d7, d8, d9, d10⟩ := hsh.cells
        have HBF : Hid (Below w.heap.size w WF) := by unfold Hid; rw [hWF]; exact below_setRow HB3.out (Nat.le_refl _) _
        with_reducible rw [← hWF]
        clear hWF
        refine bodyPost_ret (v := .tuple #[.agg (shpC 0 ⟨#[]⟩ 0 0 false 0), .bool false]) (by simp [results, Tryz.results16, go_sem, d0, d1, d2, d3, d4, d5, d6, d7, d8, d9, d10, shpC]) rfl ⟨?_, HBF.out⟩
        rw [HX2.out]; rfl
      | false =>
        obtain ⟨q, hq⟩ : ∃ q, q = decide (0 < sg) := ⟨_, rfl⟩
        have HX2 : Hid (Pic.ediL l = some ⟨5, d, sc, q, s.size - n⟩) := by
          unfold Hid; rw [HX.out, hq, if_pos (by simp [hsg, hd])]
        have hq' : decide (0 < sg) = q := hq.symm
        have hcast : ((s.size - n : Nat) : Int) = (s.size : Int) - (n : Int) := by omega
        have HCAST := hide hcast
        clear HX hsg hd hq hcast
        go_wp2_with fail
        refine (HP1.out _).mono ?_
        rintro e w' ⟨rfl, rfl⟩
        go_wp2_with fail
        refine (HP2.out _).mono ?_
        rintro e w' ⟨rfl, rfl⟩
        go_wp2_with fail
        refine (HCn.out _).mono ?_
        rintro e w' ⟨rfl, rfl⟩
        go_wp2_with (refine wpList_store_row rfl 28 _ _ rfl w.heap.size (shpC 5 ⟨#[]⟩ (d : Int) (sc : Int) q ((s.size : Int) - (n : Int))) rfl rfl 28 _ HK3.out (shp_info _ _ _ _ _ _) rfl (shp_one _ _ _ _ _ _) ?_)
        obtain ⟨WF, hWF⟩ : ∃ WF, WF = w3.setRow w.heap.size (shpC 5 ⟨#[]⟩ (d : Int) (sc : Int) q ((s.size : Int) - (n : Int))) := ⟨_, rfl⟩
        have hsh : ShpB WF w.heap.size (shpC 5 ⟨#[]⟩ (d : Int) (sc : Int) q ((s.size : Int) - (n : Int))) := by rw [hWF]; exact HK3.out.set _
        obtain ⟨d0, d1, d2, d3, d4, d5, d6, d7, d8, d9, d10⟩ := hsh.cells
        have HBF : Hid (Below w.heap.size w WF) := by unfold Hid; rw [hWF]; exact below_setRow HB3.out (Nat.le_refl _) _
        with_reducible rw [← hWF]
        clear hWF
        refine bodyPost_ret (v := .tuple #[.agg (shpC 5 ⟨#[]⟩ (d : Int) (sc : Int) q ((s.size : Int) - (n : Int))), .bool true]) (by simp [results, Tryz.results16, go_sem, d0, d1, d2, d3, d4, d5, d6, d7, d8, d9, d10, shpC]) rfl ⟨?_, HBF.out⟩
        rw [HX2.out, ← HCAST.out]; rfl
  · have hfb : (r1 && decide (sg ≤ 1) && decide (0 < d)) = false := by
      rw [Bool.eq_false_iff]; intro e; apply hf
      simpa using e
    have HX2 : Hid (Pic.ediL l = none) := by unfold Hid; rw [HX.out, if_neg]; intro e; rw [hfb] at e; simp at e
    clear HX hfb
    cases r1 with
    | false =>
      clear hf
      go_wp2_with (refine wpList_store_row rfl 28 _ _ rfl w.heap.size (shpC 0 ⟨#[]⟩ 0 0 false 0) rfl rfl 28 _ HK3.out (shp_info _ _ _ _ _ _) rfl (shp_one _ _ _ _ _ _) ?_)
      obtain ⟨WF, hWF⟩ : ∃ WF, WF = w3.setRow w.heap.size (shpC 0 ⟨#[]⟩ 0 0 false 0) := ⟨_, rfl⟩
      have hsh : ShpB WF w.heap.size (shpC 0 ⟨#[]⟩ 0 0 false 0) := by rw [hWF]; exact HK3.out.set _
      obtain ⟨d0, d1, d2, d3, d4, d5, d6, d7, d8, d9, d10⟩ := hsh.cells
      have HBF : Hid (Below w.heap.size w WF) := by unfold Hid; rw [hWF]; exact below_setRow HB3.out (Nat.le_refl _) _
      with_reducible rw [← hWF]
      clear hWF
      refine bodyPost_ret (v := .tuple #[.agg (shpC 0 ⟨#[]⟩ 0 0 false 0), .bool false]) (by simp [results, Tryz.results16, go_sem, d0, d1, d2, d3, d4, d5, d6, d7, d8, d9, d10, shpC]) rfl ⟨?_, HBF.out⟩
      rw [HX2.out]; rfl
    | true =>
      by_cases hsg : sg ≤ 1
      · have hsgd : decide ((sg : Int) ≤ 1) = true := decide_eq_true (by omega)
        have hdd : decide (0 < d) = false := decide_eq_false (fun h => hf ⟨⟨rfl, hsg⟩, h⟩)
        clear hf hsg
        go_wp2_with (refine wpList_store_row rfl 28 _ _ rfl w.heap.size (shpC 0 ⟨#[]⟩ 0 0 false 0) rfl rfl 28 _ HK3.out (shp_info _ _ _ _ _ _) rfl (shp_one _ _ _ _ _ _) ?_)
        obtain ⟨WF, hWF⟩ : ∃ WF, WF = w3.setRow w.heap.size (shpC 0 ⟨#[]⟩ 0 0 false 0) := ⟨_, rfl⟩
        have hsh : ShpB WF w.heap.size (shpC 0 ⟨#[]⟩ 0 0 false 0) := by rw [hWF]; exact HK3.out.set _
        obtain ⟨d0, d1, d2, d3, d4, d5, d6, d7, d8, d9, d10⟩ := hsh.cells
        have HBF : Hid (Below w.heap.size w WF) := by unfold Hid; rw [hWF]; exact below_setRow HB3.out (Nat.le_refl _) _
        with_reducible rw [← hWF]
        clear hWF
        refine bodyPost_ret (v := .tuple #[.agg (shpC 0 ⟨#[]⟩ 0 0 false 0), .bool false]) (by simp [results, Tryz.results16, go_sem, d0, d1, d2, d3, d4, d5, d6, d7, d8, d9, d10, shpC]) rfl ⟨?_, HBF.out⟩
        rw [HX2.out]; rfl
      · have hsgd : decide ((sg : Int) ≤ 1) = false := decide_eq_false (by omega)
        clear hf hsg
        go_wp2_with (refine wpList_store_row rfl 28 _ _ rfl w.heap.size (shpC 0 ⟨#[]⟩ 0 0 false 0) rfl rfl 28 _ HK3.out (shp_info _ _ _ _ _ _) rfl (shp_one _ _ _ _ _ _) ?_)
        obtain ⟨WF, hWF⟩ : ∃ WF, WF = w3.setRow w.heap.size (shpC 0 ⟨#[]⟩ 0 0 false 0) := ⟨_, rfl⟩
        have hsh : ShpB WF w.heap.size (shpC 0 ⟨#[]⟩ 0 0 false 0) := by rw [hWF]; exact HK3.out.set _
        obtain ⟨d0, d1, d2, d3, d4, d5, d6, d7, d8, d9, d10⟩ := hsh.cells
        have HBF : Hid (Below w.heap.size w WF) := by unfold Hid; rw [hWF]; exact below_setRow HB3.out (Nat.le_refl _) _
        with_reducible rw [← hWF]
        clear hWF
        refine bodyPost_ret (v := .tuple #[.agg (shpC 0 ⟨#[]⟩ 0 0 false 0), .bool false]) (by simp [results, Tryz.results16, go_sem, d0, d1, d2, d3, d4, d5, d6, d7, d8, d9, d10, shpC]) rfl ⟨?_, HBF.out⟩
        rw [HX2.out]; rfl
end Go.Proofs.YteceealibfemjaaGreatDoor
