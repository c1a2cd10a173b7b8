/-
  CONTRACT of law 06's Of (layer 6, pictures).
-/
import Derived.Test.YteceealibfemjaaGreatDoorMnyP
namespace Go.Proofs.YteceealibfemjaaGreatDoor
open Go.RowKit Go.Shelf

theorem tx_ext (one : Bool) (b : UInt8) : (⟨#[65, 88, 57, 66, 48, 47]⟩ : ByteArray).extract (Pic.txK one b) (Pic.txK one b + 1) = mk [Pic.txS one b] := by
  have H : ∀ k, k < 6 → ((⟨#[65, 88, 57, 66, 48, 47]⟩ : ByteArray).extract k (k + 1)).data.toList = [[65, 88, 57, 66, 48, 47].getD k 65] := by decide +kernel
  have := H _ (Pic.txK_lt one b)
  unfold Pic.txS
  rw [← this]
  rfl
theorem ofT_snoc (one : Bool) (l : List UInt8) (b : UInt8) : Pic.ofT one (l ++ [b]) = Pic.ofT one l ++ [Pic.txS one b] := by unfold Pic.ofT; simp
theorem catT_snoc (one : Bool) (l : List UInt8) (b : UInt8) : Pic.catT one (l ++ [b]) = if 2 < Pic.txK one b then 3 else Pic.catT one l := by
  unfold Pic.catT
  rw [List.any_append]
  by_cases h : 2 < Pic.txK one b
  · simp [h]
  · simp [h]
/-- what Of hands back -/
def OfPost (K Wh S G F : Nat) (bs : List UInt8) (w : World) (e : Ending) (w' : World) : Prop :=
  e = .returned (.tuple #[.string (mk (Pic.ofP K Wh S G F bs)), .agg (shpV (Pic.shP K Wh S G F bs) (mk (Pic.ofP K Wh S G F bs)))]) ∧ Below w.heap.size w w'
set_option maxRecDepth 100000 in
set_option maxHeartbeats 4000000 in
theorem Of_0 (K Wh S G F : Nat) (a : Value) (bs : List UInt8) (w : World) (h0 : K % 6 = 0) :
    Calls Tryz.prog 4 #[.agg (prtA K Wh S G F a)] w (OfPost K Wh S G F bs w) := by
  obtain ⟨n, hn⟩ : ∃ n, n = Wh % 10 := ⟨_, rfl⟩
  have hn9 : n < 10 := by omega
  obtain ⟨R, hR⟩ : ∃ R, R = mk (List.replicate (n + 1) 65) := ⟨_, rfl⟩
  have hRs : R.size = n + 1 := by rw [hR, mk_size, List.length_replicate]
  have hpost : OfPost K Wh S G F bs w = fun e w' => e = .returned (.tuple #[.string R, .agg (shpC 1 R 0 0 false ((n : Int) + 1))]) ∧ Below w.heap.size w w' := by
    funext e w'
    unfold OfPost Pic.ofP Pic.shP
    rw [if_pos h0, if_pos h0, ← hn, ← hR]
    rfl
  have t0 : ((K : Int) % 6 == 0) = true := by rw [beq_iff_eq]; omega
  have hw10 : (Wh : Int) % 10 = (n : Int) := by omega
  have HM : Hid (∀ W : World, Calls Tryz.prog 10 #[.string ⟨#[65]⟩, .int .i64 ((Wh : Int) % 10 + 1)] W fun e w' => e = .returned (.string R) ∧ W = w') := fun W => by
    rw [hR]; exact many_i 65 (n + 1) _ _ W rfl (by omega) (by omega)
  have HW10 := hide hw10
  rw [hpost]
  clear hpost hR hn h0 hw10
  unfold prtA
  go_enter Tryz.func4, Tryz.ntmps4
  go_wp2_with fail
  refine (HM.out _).mono ?_
  rintro e w1 ⟨rfl, rfl⟩
  go_wp2_with fail
  obtain ⟨WF, hWF⟩ : ∃ WF, WF = ((w.alloc (.cells #[.int .u8 (K : Int), .int .u8 (Wh : Int), .int .u8 (S : Int), .int .u8 (G : Int), .int .u8 (F : Int), a] 24)).alloc (.cells #[.int .u8 1, .int .u8 0, .string R, .int .i64 0, .int .i64 0, .bool false, .bool false, .bool false, .bool false, .bool false, .int .i64 ((n : Int) + 1)] 28)) := ⟨_, rfl⟩
  have hsh : ShpB WF (w.heap.size + 1) (shpC 1 R 0 0 false ((n : Int) + 1)) := by rw [hWF]; exact res_new w _ _
  have hbf : Below w.heap.size w WF := by rw [hWF]; exact (below1 w _).alloc (below1 w _).size _
  obtain ⟨d0, d1, d2, d3, d4, d5, d6, d7, d8, d9, d10⟩ := hsh.cells
  with_reducible rw [← hWF]
  clear hWF
  refine bodyPost_ret (v := .tuple #[.string R, .agg (shpC 1 R 0 0 false ((n : Int) + 1))]) (by simp [results, Tryz.results4, go_sem, d0, d1, d2, d3, d4, d5, d6, d7, d8, d9, d10, shpC]) rfl ⟨rfl, hbf⟩
set_option maxRecDepth 100000 in
set_option maxHeartbeats 4000000 in
theorem Of_12 (K Wh S G F : Nat) (A : Option Addr) (cap : Nat) (bs : List UInt8) (w : World) (hsl : Sl w w.heap.size A bs) (hbl : bs.length ≤ cap) (hcap : cap ≤ maxLen) (h12 : K % 6 = 1 ∨ K % 6 = 2) :
    Calls Tryz.prog 4 #[.agg (prtA K Wh S G F (.slice A bs.length cap))] w (OfPost K Wh S G F bs w) := by
  obtain ⟨one, hone⟩ : ∃ one, one = (K % 6 == 1) := ⟨_, rfl⟩
  obtain ⟨ts, hts⟩ : ∃ ts, ts = bs.take 20 := ⟨_, rfl⟩
  have htl : ts.length ≤ 20 ∧ ts.length ≤ bs.length ∧ (bs.length ≤ ts.length ∨ ts.length = 20) := by rw [hts, List.length_take]; omega
  obtain ⟨R, hR⟩ : ∃ R, R = mk (Pic.ofT one ts) := ⟨_, rfl⟩
  obtain ⟨cc, hcc⟩ : ∃ cc, cc = Pic.catT one ts := ⟨_, rfl⟩
  have hRs : R.size = ts.length + 1 := by rw [hR, mk_size]; unfold Pic.ofT; simp
  have hpost : OfPost K Wh S G F bs w = fun e w' => e = .returned (.tuple #[.string R, .agg (shpC (cc : Int) R 0 0 false ((ts.length : Int) + 1))]) ∧ Below w.heap.size w w' := by
    funext e w'
    unfold OfPost Pic.ofP Pic.shP
    rw [if_neg (by omega), if_pos h12, if_neg (by omega), if_pos h12, ← hone, ← hts, ← hR, ← hcc]
    unfold shpV
    simp only []
    rw [← mk_size, ← hR, hRs]
    rfl
  have t0 : ((K : Int) % 6 == 0) = false := by rw [beq_eq_false_iff_ne]; omega
  have t1 : ((K : Int) % 6 == 1) = one := by rw [hone, Bool.eq_iff_iff, beq_iff_eq, beq_iff_eq]; omega
  have t2 : ((K : Int) % 6 == 2) = !one := by rw [hone, Bool.eq_iff_iff, beq_iff_eq, Bool.not_eq_true', beq_eq_false_iff_ne]; omega
  have HSLI := hide hsl
  have HTS := hide hts
  have HR := hide hR
  have HCC := hide hcc
  unfold maxLen at hcap
  rw [hpost]
  clear hpost hR hcc hts hsl hone h12
  unfold prtA
  go_enter Tryz.func4, Tryz.ntmps4
  cases one with
  | true =>
    go_wp2_with fail
    obtain ⟨W, hW⟩ : ∃ W, W = ((w.alloc (.cells #[.int .u8 (K : Int), .int .u8 (Wh : Int), .int .u8 (S : Int), .int .u8 (G : Int), .int .u8 (F : Int), .slice A bs.length cap] 24)).alloc (.cells #[.int .u8 0, .int .u8 0, .string ⟨#[]⟩, .int .i64 0, .int .i64 0, .bool false, .bool false, .bool false, .bool false, .bool false, .int .i64 0] 28)) := ⟨_, rfl⟩
    have HB : Hid (Below w.heap.size w W) := by unfold Hid; rw [hW]; exact (below1 w _).alloc (below1 w _).size _
    have HX : Hid (PrB W w.heap.size K Wh S G F (.slice A bs.length cap)) := by unfold Hid; rw [hW]; exact (heap_alloc_old _ _ (Array.getElem?_eq_some_iff.1 (heap_alloc_new w _)).1).trans (heap_alloc_new w _)
    have HZ : Hid (ShpB W (w.heap.size + 1) (shpC 0 ⟨#[]⟩ 0 0 false 0)) := by unfold Hid; rw [hW]; exact res_new w _ _
    have hlt0 : w.heap.size < W.heap.size := (Array.getElem?_eq_some_iff.1 HX.out).1
    obtain ⟨cK, _, _, _, _, c5⟩ := HX.out.cells
    with_reducible rw [← hW]
    clear hW
    go_loopw [7, 8, 9] (fun pv cv iv wr => ∃ i : Nat, pv = .string (mk (Pic.ofT true (ts.take i))) ∧ cv = .int .u8 (Pic.catT true (ts.take i) : Int) ∧ iv = .int .i64 (i : Int) ∧ i ≤ ts.length ∧ W = wr) (fun _ _ iv _ => 30 - (intOf iv).toNat)
    case atStart => exact ⟨0, rfl, rfl, rfl, by omega, rfl⟩
    case round =>
      obtain ⟨i, rfl, rfl, rfl, hi, hw⟩ := hrel
      obtain rfl : W = wr := hw
      obtain ⟨P, hP⟩ : ∃ P, P = mk (Pic.ofT true (ts.take i)) := ⟨_, rfl⟩
      obtain ⟨C, hC⟩ : ∃ C, C = Pic.catT true (ts.take i) := ⟨_, rfl⟩
      have hPs : P.size = i + 1 := by rw [hP, mk_size]; unfold Pic.ofT; simp; omega
      rw [← hP, ← hC]
      by_cases hlt : i < ts.length
      · have hib : i < bs.length := by omega
        obtain ⟨b, hb⟩ : ∃ b, ts[i]? = some b := ⟨ts[i], List.getElem?_eq_getElem hlt⟩
        have hb2 : bs[i]? = some b := by rw [HTS.out, List.getElem?_take, if_pos (by omega)] at hb; exact hb
        have hsn : ts.take (i + 1) = ts.take i ++ [b] := by
          rw [List.take_succ_eq_append_getElem hlt]
          congr 2
          exact (List.getElem?_eq_some_iff.1 hb).2
        rcases HSLI.out with hsl | ⟨ab', ao, hAA, hab', hcl⟩
        · rw [hsl] at hib; simp at hib
        · have cb : W.cell? ⟨ab', ao + i, none⟩ = some (.int .u8 (b.toNat : Int)) := by
            rw [World.cell?_of_block (HB.out.block ab' hab')]
            exact hcl _ _ hb2
          subst hAA
          have hltb : ab' < W.heap.size := by omega
          have hEX : (⟨#[65, 88, 57, 66, 48, 47]⟩ : ByteArray).extract (b.toNat % 3) (b.toNat % 3 + 1) = mk [Pic.txS true b] := by have := tx_ext true b; rw [show Pic.txK true b = b.toNat % 3 by unfold Pic.txK; rw [if_pos rfl]; omega] at this; exact this
          have hEs : ((⟨#[65, 88, 57, 66, 48, 47]⟩ : ByteArray).extract (b.toNat % 3) (b.toNat % 3 + 1)).size = 1 := by rw [hEX]; rfl
          have n1 := fun wx : World => run_string_add_sum (P := Tryz.prog) wx P ((⟨#[65, 88, 57, 66, 48, 47]⟩ : ByteArray).extract (b.toNat % 3) (b.toNat % 3 + 1)) (by omega)
          have HQ : Hid (P ++ (⟨#[65, 88, 57, 66, 48, 47]⟩ : ByteArray).extract (b.toNat % 3) (b.toNat % 3 + 1) = mk (Pic.ofT true (ts.take (i + 1)))) := by unfold Hid; rw [hEX, hP, mk_app, hsn, ofT_snoc]
          have hCn : Pic.catT true (ts.take (i + 1)) = if 2 < b.toNat % 3 then 3 else C := by rw [hsn, catT_snoc, ← hC, show Pic.txK true b = b.toNat % 3 by unfold Pic.txK; rw [if_pos rfl]; omega]
          have hk6 : b.toNat % 3 < 6 := by omega
          have HBB := hide hb2
          clear hP hC hb hb2 hsn hEX hcl
          by_cases h2 : 2 < b.toNat % 3
          · exact absurd h2 (by omega)
          · have d2 : decide ((2 : Int) < (b.toNat : Int) % 3) = false := decide_eq_false (by omega)
            have HCN : Hid (Pic.catT true (ts.take (i + 1)) = C) := by unfold Hid; rw [hCn, if_neg h2]
            clear hCn
            go_wp2_with fail
            exact ⟨⟨i + 1, by rw [HQ.out], by rw [HCN.out], by first | rfl | go_num | trivial, by omega, by first | rfl | trivial⟩, by simp [intOf]; omega⟩
      · obtain rfl : i = ts.length := by omega
        have HPR : Hid (P = R) := by unfold Hid; rw [hP, HR.out, List.take_length]
        have HCR : Hid (C = cc) := by unfold Hid; rw [hC, HCC.out, List.take_length]
        clear hP hC
        have hnl : ¬ ts.length < 20 ∨ ¬ ts.length < bs.length := by omega
        rcases (show ts.length = bs.length ∨ (ts.length = 20 ∧ ts.length < bs.length) by omega) with he | ⟨he, he2⟩
        · have d1 : ¬ ts.length < bs.length := by omega
          rw [HPR.out, HCR.out]
          have HH := hide he
          clear he hnl hi htl hlt
          go_wp2_with (refine wpList_store_row rfl 28 _ _ rfl (w.heap.size + 1) (shpC (cc : Int) R 0 0 false ((ts.length : Int) + 1)) rfl rfl 28 _ HZ.out (shp_info _ _ _ _ _ _) rfl (shp_one _ _ _ _ _ _) ?_)
          obtain ⟨WF, hWF⟩ : ∃ WF, WF = W.setRow (w.heap.size + 1) (shpC (cc : Int) R 0 0 false ((ts.length : Int) + 1)) := ⟨_, rfl⟩
          have hsh : ShpB WF (w.heap.size + 1) (shpC (cc : Int) R 0 0 false ((ts.length : Int) + 1)) := by rw [hWF]; exact HZ.out.set _
          have hbf : Below w.heap.size w WF := by rw [hWF]; exact below_setRow HB.out (by omega) _
          obtain ⟨d0, d1, d2, d3, d4, d5, d6, d7, d8, d9, d10⟩ := hsh.cells
          with_reducible rw [← hWF]
          clear hWF
          refine bodyPost_ret (v := .tuple #[.string R, .agg (shpC (cc : Int) R 0 0 false ((ts.length : Int) + 1))]) (by simp [results, Tryz.results4, go_sem, d0, d1, d2, d3, d4, d5, d6, d7, d8, d9, d10, shpC]) rfl ⟨rfl, hbf⟩
        · have d2 : ¬ ts.length < 20 := by omega
          rw [HPR.out, HCR.out]
          have HH := hide he
          clear he hnl hi htl hlt
          go_wp2_with (refine wpList_store_row rfl 28 _ _ rfl (w.heap.size + 1) (shpC (cc : Int) R 0 0 false ((ts.length : Int) + 1)) rfl rfl 28 _ HZ.out (shp_info _ _ _ _ _ _) rfl (shp_one _ _ _ _ _ _) ?_)
          obtain ⟨WF, hWF⟩ : ∃ WF, WF = W.setRow (w.heap.size + 1) (shpC (cc : Int) R 0 0 false ((ts.length : Int) + 1)) := ⟨_, rfl⟩
          have hsh : ShpB WF (w.heap.size + 1) (shpC (cc : Int) R 0 0 false ((ts.length : Int) + 1)) := by rw [hWF]; exact HZ.out.set _
          have hbf : Below w.heap.size w WF := by rw [hWF]; exact below_setRow HB.out (by omega) _
          obtain ⟨d0, d1, d2, d3, d4, d5, d6, d7, d8, d9, d10⟩ := hsh.cells
          with_reducible rw [← hWF]
          clear hWF
          refine bodyPost_ret (v := .tuple #[.string R, .agg (shpC (cc : Int) R 0 0 false ((ts.length : Int) + 1))]) (by simp [results, Tryz.results4, go_sem, d0, d1, d2, d3, d4, d5, d6, d7, d8, d9, d10, shpC]) rfl ⟨rfl, hbf⟩
  | false =>
    go_wp2_with fail
    obtain ⟨W, hW⟩ : ∃ W, W = ((w.alloc (.cells #[.int .u8 (K : Int), .int .u8 (Wh : Int), .int .u8 (S : Int), .int .u8 (G : Int), .int .u8 (F : Int), .slice A bs.length cap] 24)).alloc (.cells #[.int .u8 0, .int .u8 0, .string ⟨#[]⟩, .int .i64 0, .int .i64 0, .bool false, .bool false, .bool false, .bool false, .bool false, .int .i64 0] 28)) := ⟨_, rfl⟩
    have HB : Hid (Below w.heap.size w W) := by unfold Hid; rw [hW]; exact (below1 w _).alloc (below1 w _).size _
    have HX : Hid (PrB W w.heap.size K Wh S G F (.slice A bs.length cap)) := by unfold Hid; rw [hW]; exact (heap_alloc_old _ _ (Array.getElem?_eq_some_iff.1 (heap_alloc_new w _)).1).trans (heap_alloc_new w _)
    have HZ : Hid (ShpB W (w.heap.size + 1) (shpC 0 ⟨#[]⟩ 0 0 false 0)) := by unfold Hid; rw [hW]; exact res_new w _ _
    have hlt0 : w.heap.size < W.heap.size := (Array.getElem?_eq_some_iff.1 HX.out).1
    obtain ⟨cK, _, _, _, _, c5⟩ := HX.out.cells
    with_reducible rw [← hW]
    clear hW
    go_loopw [7, 8, 9] (fun pv cv iv wr => ∃ i : Nat, pv = .string (mk (Pic.ofT false (ts.take i))) ∧ cv = .int .u8 (Pic.catT false (ts.take i) : Int) ∧ iv = .int .i64 (i : Int) ∧ i ≤ ts.length ∧ W = wr) (fun _ _ iv _ => 30 - (intOf iv).toNat)
    case atStart => exact ⟨0, rfl, rfl, rfl, by omega, rfl⟩
    case round =>
      obtain ⟨i, rfl, rfl, rfl, hi, hw⟩ := hrel
      obtain rfl : W = wr := hw
      obtain ⟨P, hP⟩ : ∃ P, P = mk (Pic.ofT false (ts.take i)) := ⟨_, rfl⟩
      obtain ⟨C, hC⟩ : ∃ C, C = Pic.catT false (ts.take i) := ⟨_, rfl⟩
      have hPs : P.size = i + 1 := by rw [hP, mk_size]; unfold Pic.ofT; simp; omega
      rw [← hP, ← hC]
      by_cases hlt : i < ts.length
      · have hib : i < bs.length := by omega
        obtain ⟨b, hb⟩ : ∃ b, ts[i]? = some b := ⟨ts[i], List.getElem?_eq_getElem hlt⟩
        have hb2 : bs[i]? = some b := by rw [HTS.out, List.getElem?_take, if_pos (by omega)] at hb; exact hb
        have hsn : ts.take (i + 1) = ts.take i ++ [b] := by
          rw [List.take_succ_eq_append_getElem hlt]
          congr 2
          exact (List.getElem?_eq_some_iff.1 hb).2
        rcases HSLI.out with hsl | ⟨ab', ao, hAA, hab', hcl⟩
        · rw [hsl] at hib; simp at hib
        · have cb : W.cell? ⟨ab', ao + i, none⟩ = some (.int .u8 (b.toNat : Int)) := by
            rw [World.cell?_of_block (HB.out.block ab' hab')]
            exact hcl _ _ hb2
          subst hAA
          have hltb : ab' < W.heap.size := by omega
          have hEX : (⟨#[65, 88, 57, 66, 48, 47]⟩ : ByteArray).extract (b.toNat % 6) (b.toNat % 6 + 1) = mk [Pic.txS false b] := tx_ext false b
          have hEs : ((⟨#[65, 88, 57, 66, 48, 47]⟩ : ByteArray).extract (b.toNat % 6) (b.toNat % 6 + 1)).size = 1 := by rw [hEX]; rfl
          have n1 := fun wx : World => run_string_add_sum (P := Tryz.prog) wx P ((⟨#[65, 88, 57, 66, 48, 47]⟩ : ByteArray).extract (b.toNat % 6) (b.toNat % 6 + 1)) (by omega)
          have HQ : Hid (P ++ (⟨#[65, 88, 57, 66, 48, 47]⟩ : ByteArray).extract (b.toNat % 6) (b.toNat % 6 + 1) = mk (Pic.ofT false (ts.take (i + 1)))) := by unfold Hid; rw [hEX, hP, mk_app, hsn, ofT_snoc]
          have hCn : Pic.catT false (ts.take (i + 1)) = if 2 < b.toNat % 6 then 3 else C := by rw [hsn, catT_snoc, ← hC]; rfl
          have hk6 : b.toNat % 6 < 6 := by omega
          have HBB := hide hb2
          clear hP hC hb hb2 hsn hEX hcl
          by_cases h2 : 2 < b.toNat % 6
          · have d2 : decide ((2 : Int) < (b.toNat : Int) % 6) = true := decide_eq_true (by omega)
            have HCN : Hid ((Pic.catT false (ts.take (i + 1)) : Int) = 3) := by unfold Hid; rw [hCn, if_pos h2]; rfl
            clear hCn
            go_wp2_with fail
            exact ⟨⟨i + 1, by rw [HQ.out], by rw [HCN.out], by first | rfl | go_num | trivial, by omega, by first | rfl | trivial⟩, by simp [intOf]; omega⟩
          · have d2 : decide ((2 : Int) < (b.toNat : Int) % 6) = false := decide_eq_false (by omega)
            have HCN : Hid (Pic.catT false (ts.take (i + 1)) = C) := by unfold Hid; rw [hCn, if_neg h2]
            clear hCn
            go_wp2_with fail
            exact ⟨⟨i + 1, by rw [HQ.out], by rw [HCN.out], by first | rfl | go_num | trivial, by omega, by first | rfl | trivial⟩, by simp [intOf]; omega⟩
      · obtain rfl : i = ts.length := by omega
        have HPR : Hid (P = R) := by unfold Hid; rw [hP, HR.out, List.take_length]
        have HCR : Hid (C = cc) := by unfold Hid; rw [hC, HCC.out, List.take_length]
        clear hP hC
        have hnl : ¬ ts.length < 20 ∨ ¬ ts.length < bs.length := by omega
        rcases (show ts.length = bs.length ∨ (ts.length = 20 ∧ ts.length < bs.length) by omega) with he | ⟨he, he2⟩
        · have d1 : ¬ ts.length < bs.length := by omega
          rw [HPR.out, HCR.out]
          have HH := hide he
          clear he hnl hi htl hlt
          go_wp2_with (refine wpList_store_row rfl 28 _ _ rfl (w.heap.size + 1) (shpC (cc : Int) R 0 0 false ((ts.length : Int) + 1)) rfl rfl 28 _ HZ.out (shp_info _ _ _ _ _ _) rfl (shp_one _ _ _ _ _ _) ?_)
          obtain ⟨WF, hWF⟩ : ∃ WF, WF = W.setRow (w.heap.size + 1) (shpC (cc : Int) R 0 0 false ((ts.length : Int) + 1)) := ⟨_, rfl⟩
          have hsh : ShpB WF (w.heap.size + 1) (shpC (cc : Int) R 0 0 false ((ts.length : Int) + 1)) := by rw [hWF]; exact HZ.out.set _
          have hbf : Below w.heap.size w WF := by rw [hWF]; exact below_setRow HB.out (by omega) _
          obtain ⟨d0, d1, d2, d3, d4, d5, d6, d7, d8, d9, d10⟩ := hsh.cells
          with_reducible rw [← hWF]
          clear hWF
          refine bodyPost_ret (v := .tuple #[.string R, .agg (shpC (cc : Int) R 0 0 false ((ts.length : Int) + 1))]) (by simp [results, Tryz.results4, go_sem, d0, d1, d2, d3, d4, d5, d6, d7, d8, d9, d10, shpC]) rfl ⟨rfl, hbf⟩
        · have d2 : ¬ ts.length < 20 := by omega
          rw [HPR.out, HCR.out]
          have HH := hide he
          clear he hnl hi htl hlt
          go_wp2_with (refine wpList_store_row rfl 28 _ _ rfl (w.heap.size + 1) (shpC (cc : Int) R 0 0 false ((ts.length : Int) + 1)) rfl rfl 28 _ HZ.out (shp_info _ _ _ _ _ _) rfl (shp_one _ _ _ _ _ _) ?_)
          obtain ⟨WF, hWF⟩ : ∃ WF, WF = W.setRow (w.heap.size + 1) (shpC (cc : Int) R 0 0 false ((ts.length : Int) + 1)) := ⟨_, rfl⟩
          have hsh : ShpB WF (w.heap.size + 1) (shpC (cc : Int) R 0 0 false ((ts.length : Int) + 1)) := by rw [hWF]; exact HZ.out.set _
          have hbf : Below w.heap.size w WF := by rw [hWF]; exact below_setRow HB.out (by omega) _
          obtain ⟨d0, d1, d2, d3, d4, d5, d6, d7, d8, d9, d10⟩ := hsh.cells
          with_reducible rw [← hWF]
          clear hWF
          refine bodyPost_ret (v := .tuple #[.string R, .agg (shpC (cc : Int) R 0 0 false ((ts.length : Int) + 1))]) (by simp [results, Tryz.results4, go_sem, d0, d1, d2, d3, d4, d5, d6, d7, d8, d9, d10, shpC]) rfl ⟨rfl, hbf⟩
theorem prt_info (K Wh S G F : Nat) (a : Value) : (Tryz.prog.info? 24).map (·.size) = some (prtA K Wh S G F a).size := by show _ = some 6; kernel_rfl
set_option maxRecDepth 100000 in
set_option maxHeartbeats 4000000 in
theorem Of_3 (K Wh S G F : Nat) (a : Value) (bs : List UInt8) (w : World) (hG : G < 256) (hF : F < 256) (h3 : K % 6 = 3) :
    Calls Tryz.prog 4 #[.agg (prtA K Wh S G F a)] w (OfPost K Wh S G F bs w) := by
  obtain ⟨R, hR⟩ : ∃ R, R = mk (Pic.numP (Wh % 10) (S % 6) (G % 2) (F % 6)) := ⟨_, rfl⟩
  obtain ⟨V, hV⟩ : ∃ V, V = shpV (Pic.numS (Wh % 10) (S % 6) (G % 2) (F % 6)) R := ⟨_, rfl⟩
  obtain ⟨d, sc, sg, n, hV2⟩ : ∃ d sc sg n, V = shpC 4 R d sc sg n := ⟨_, _, _, _, hV⟩
  have hpost : OfPost K Wh S G F bs w = fun e w' => e = .returned (.tuple #[.string R, .agg V]) ∧ Below w.heap.size w w' := by
    funext e w'
    unfold OfPost Pic.ofP Pic.shP
    rw [if_neg (by omega), if_neg (by omega), if_pos h3, if_neg (by omega), if_neg (by omega), if_pos h3, ← hR, ← hV]
  have t0 : ((K : Int) % 6 == 0) = false := by rw [beq_eq_false_iff_ne]; omega
  have t1 : ((K : Int) % 6 == 1) = false := by rw [beq_eq_false_iff_ne]; omega
  have t2 : ((K : Int) % 6 == 2) = false := by rw [beq_eq_false_iff_ne]; omega
  have t3 : ((K : Int) % 6 == 3) = true := by rw [beq_iff_eq]; omega
  have HN : Hid (∀ W : World, Calls Tryz.prog 11 #[.agg #[.int .u8 (K : Int), .int .u8 (Wh : Int), .int .u8 (S : Int), .int .u8 (G : Int), .int .u8 (F : Int), a], .int .i64 ((Wh : Int) % 10), .int .i64 ((S : Int) % 6)] W fun e w' => e = .returned (.tuple #[.string R, .agg V]) ∧ Below W.heap.size W w') := fun W => by
    have := number_c K Wh S G F (Wh % 10) (S % 6) a W hF hG (Nat.mod_lt _ (by omega)) (Nat.mod_lt _ (by omega))
    rw [← hR, ← hV] at this
    exact this
  rw [hpost]
  clear hpost hR hV h3
  subst hV2
  unfold prtA
  go_enter Tryz.func4, Tryz.ntmps4
  go_wp2_with fail
  refine (HN.out _).mono ?_
  rintro e w2 ⟨rfl, hb2⟩
  obtain ⟨W, hW⟩ : ∃ W, W = ((w.alloc (.cells #[.int .u8 (K : Int), .int .u8 (Wh : Int), .int .u8 (S : Int), .int .u8 (G : Int), .int .u8 (F : Int), a] 24)).alloc (.cells #[.int .u8 0, .int .u8 0, .string ⟨#[]⟩, .int .i64 0, .int .i64 0, .bool false, .bool false, .bool false, .bool false, .bool false, .int .i64 0] 28)) := ⟨_, rfl⟩
  have HB : Hid (Below w.heap.size w W) := by unfold Hid; rw [hW]; exact (below1 w _).alloc (below1 w _).size _
  have HZ : Hid (ShpB W (w.heap.size + 1) (shpC 0 ⟨#[]⟩ 0 0 false 0)) := by unfold Hid; rw [hW]; exact res_new w _ _
  rw [← hW] at hb2
  have HZ2 := hide (HZ.out.below hb2)
  have HB2 := hide (HB.out.trans (hb2.mono HB.out.size))
  clear hb2 HZ HB hW
  go_wp2_with (refine wpList_store_row rfl 28 _ _ rfl (w.heap.size + 1) (shpC 4 R d sc sg n) rfl rfl 28 _ HZ2.out (shp_info _ _ _ _ _ _) rfl (shp_one _ _ _ _ _ _) ?_)
  obtain ⟨WF, hWF⟩ : ∃ WF, WF = w2.setRow (w.heap.size + 1) (shpC 4 R d sc sg n) := ⟨_, rfl⟩
  have hsh : ShpB WF (w.heap.size + 1) (shpC 4 R d sc sg n) := by rw [hWF]; exact HZ2.out.set _
  have hbf : Below w.heap.size w WF := by rw [hWF]; exact below_setRow HB2.out (by omega) _
  obtain ⟨d0, d1, d2, d3, d4, d5, d6, d7, d8, d9, d10⟩ := hsh.cells
  with_reducible rw [← hWF]
  clear hWF
  refine bodyPost_ret (v := .tuple #[.string R, .agg (shpC 4 R d sc sg n)]) (by simp [results, Tryz.results4, go_sem, d0, d1, d2, d3, d4, d5, d6, d7, d8, d9, d10, shpC]) rfl ⟨rfl, hbf⟩
set_option maxRecDepth 100000 in
set_option maxHeartbeats 4000000 in
theorem Of_4 (HED : ∀ (K Wh S G F n m : Nat) (A : Option Addr) (cap : Nat) (bs : List UInt8) (w : World) (_ : Sl w w.heap.size A bs) (_ : bs.length ≤ cap) (_ : cap ≤ maxLen) (_ : F < 256) (_ : G < 256) (_ : n < 10) (_ : m < 6), Calls Tryz.prog 12 #[.agg (prtA K Wh S G F (.slice A bs.length cap)), .int .i64 (n : Int), .int .i64 (m : Int)] w fun e w' => e = .returned (.tuple #[.string (mk (Pic.edP n m (G % 8) (F % 8) (F / 8 % 2) (F / 16 % 2) bs)), .agg (shpV (Pic.edS n m (G % 8) (F % 8) (F / 16 % 2) (Pic.edP n m (G % 8) (F % 8) (F / 8 % 2) (F / 16 % 2) bs).length) (mk (Pic.edP n m (G % 8) (F % 8) (F / 8 % 2) (F / 16 % 2) bs)))]) ∧ Below w.heap.size w w')
    (K Wh S G F : Nat) (A : Option Addr) (cap : Nat) (bs : List UInt8) (w : World) (hsl : Sl w w.heap.size A bs) (hbl : bs.length ≤ cap) (hcap : cap ≤ maxLen) (hG : G < 256) (hF : F < 256) (h3 : 3 < K % 6) :
    Calls Tryz.prog 4 #[.agg (prtA K Wh S G F (.slice A bs.length cap))] w (OfPost K Wh S G F bs w) := by
  obtain ⟨R, hR⟩ : ∃ R, R = mk (Pic.edP (Wh % 10) (S % 6) (G % 8) (F % 8) (F / 8 % 2) (F / 16 % 2) bs) := ⟨_, rfl⟩
  obtain ⟨V, hV⟩ : ∃ V, V = shpV (Pic.edS (Wh % 10) (S % 6) (G % 8) (F % 8) (F / 16 % 2) (Pic.edP (Wh % 10) (S % 6) (G % 8) (F % 8) (F / 8 % 2) (F / 16 % 2) bs).length) R := ⟨_, rfl⟩
  obtain ⟨d, sc, sg, n, hV2⟩ : ∃ d sc sg n, V = shpC 5 R d sc sg n := ⟨_, _, _, _, hV⟩
  have hpost : OfPost K Wh S G F bs w = fun e w' => e = .returned (.tuple #[.string R, .agg V]) ∧ Below w.heap.size w w' := by
    funext e w'
    unfold OfPost Pic.ofP Pic.shP
    rw [if_neg (by omega), if_neg (by omega), if_neg (by omega), if_neg (by omega), if_neg (by omega), if_neg (by omega), ← hR, ← hV]
  have t0 : ((K : Int) % 6 == 0) = false := by rw [beq_eq_false_iff_ne]; omega
  have t1 : ((K : Int) % 6 == 1) = false := by rw [beq_eq_false_iff_ne]; omega
  have t2 : ((K : Int) % 6 == 2) = false := by rw [beq_eq_false_iff_ne]; omega
  have t3 : ((K : Int) % 6 == 3) = false := by rw [beq_eq_false_iff_ne]; omega
  have HN : Hid (∀ W : World, Below w.heap.size w W → Calls Tryz.prog 12 #[.agg #[.int .u8 (K : Int), .int .u8 (Wh : Int), .int .u8 (S : Int), .int .u8 (G : Int), .int .u8 (F : Int), .slice A bs.length cap], .int .i64 ((Wh : Int) % 10), .int .i64 ((S : Int) % 6)] W fun e w' => e = .returned (.tuple #[.string R, .agg V]) ∧ Below W.heap.size W w') := fun W hb => by
    have := HED K Wh S G F (Wh % 10) (S % 6) A cap bs W (hsl.keep hb (Nat.le_refl _) _ hb.size) hbl hcap hF hG (Nat.mod_lt _ (by omega)) (Nat.mod_lt _ (by omega))
    rw [← hR, ← hV] at this
    exact this
  rw [hpost]
  clear hpost hR hV h3 HED hsl
  subst hV2
  unfold prtA
  have HB0 : Hid (∀ o o', Below w.heap.size w ((w.alloc o).alloc o')) := fun o o' => (below1 w _).alloc (below1 w _).size _
  go_enter Tryz.func4, Tryz.ntmps4
  go_wp2_with fail
  refine (HN.out _ (HB0.out _ _)).mono ?_
  rintro e w2 ⟨rfl, hb2⟩
  obtain ⟨W, hW⟩ : ∃ W, W = ((w.alloc (.cells #[.int .u8 (K : Int), .int .u8 (Wh : Int), .int .u8 (S : Int), .int .u8 (G : Int), .int .u8 (F : Int), .slice A bs.length cap] 24)).alloc (.cells #[.int .u8 0, .int .u8 0, .string ⟨#[]⟩, .int .i64 0, .int .i64 0, .bool false, .bool false, .bool false, .bool false, .bool false, .int .i64 0] 28)) := ⟨_, rfl⟩
  have HB : Hid (Below w.heap.size w W) := by unfold Hid; rw [hW]; exact (below1 w _).alloc (below1 w _).size _
  have HZ : Hid (ShpB W (w.heap.size + 1) (shpC 0 ⟨#[]⟩ 0 0 false 0)) := by unfold Hid; rw [hW]; exact res_new w _ _
  rw [← hW] at hb2
  have HZ2 := hide (HZ.out.below hb2)
  have HB2 := hide (HB.out.trans (hb2.mono HB.out.size))
  clear hb2 HZ HB hW
  go_wp2_with (refine wpList_store_row rfl 28 _ _ rfl (w.heap.size + 1) (shpC 5 R d sc sg n) rfl rfl 28 _ HZ2.out (shp_info _ _ _ _ _ _) rfl (shp_one _ _ _ _ _ _) ?_)
  obtain ⟨WF, hWF⟩ : ∃ WF, WF = w2.setRow (w.heap.size + 1) (shpC 5 R d sc sg n) := ⟨_, rfl⟩
  have hsh : ShpB WF (w.heap.size + 1) (shpC 5 R d sc sg n) := by rw [hWF]; exact HZ2.out.set _
  have hbf : Below w.heap.size w WF := by rw [hWF]; exact below_setRow HB2.out (by omega) _
  obtain ⟨d0, d1, d2, d3, d4, d5, d6, d7, d8, d9, d10⟩ := hsh.cells
  with_reducible rw [← hWF]
  clear hWF
  refine bodyPost_ret (v := .tuple #[.string R, .agg (shpC 5 R d sc sg n)]) (by simp [results, Tryz.results4, go_sem, d0, d1, d2, d3, d4, d5, d6, d7, d8, d9, d10, shpC]) rfl ⟨rfl, hbf⟩
end Go.Proofs.YteceealibfemjaaGreatDoor
