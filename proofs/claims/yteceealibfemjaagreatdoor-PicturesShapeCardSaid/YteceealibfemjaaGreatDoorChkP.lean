/-
  CONTRACTS of Check and what it calls (layer 6, pictures), for a shape that Parse has described.
-/
import Derived.Test.YteceealibfemjaaGreatDoorSizP
import Derived.Test.YteceealibfemjaaGreatDoorParP
import Derived.Test.YteceealibfemjaaGreatDoorShaE
namespace Go.Proofs.YteceealibfemjaaGreatDoor
open Go.RowKit Go.Shelf

set_option maxRecDepth 100000 in
theorem same_c (c : Int) (pic : ByteArray) (d sc : Int) (sg : Bool) (n : Int) (w : World) :
    Calls Tryz.prog 23 #[.agg (shpC c pic d sc sg n), .agg (shpC c pic d sc sg n)] w fun e w' => e = .returned (.bool true) ∧ Below w.heap.size w w' := by
  unfold shpC
  go_enter Tryz.func23, Tryz.ntmps23
  go_wp2_with fail
  go_ret
  exact ⟨rfl, (below1 w _).alloc (below1 w _).size _⟩
set_option maxRecDepth 100000 in
theorem suits_c (c : Int) (pic : ByteArray) (d sc : Int) (sg : Bool) (n : Int) (w : World) :
    Calls Tryz.prog 24 #[.agg (shpC c pic d sc sg n)] w fun e w' => e = .returned (.bool true) ∧ Below w.heap.size w w' := by
  unfold shpC
  go_enter Tryz.func24, Tryz.ntmps24
  go_wp2_with fail
  go_ret
  exact ⟨rfl, below1 w _⟩
theorem sizQ_ok (p : List UInt8) (x : Pic.ShR) (h : Pic.PicOk p x) : sizQ x.c 0 p x.d false x.n = ((x.n : Int), 0) := by
  have h1 := h.cat
  have hf := h.few
  unfold sizQ
  rw [if_neg (by omega)]
  by_cases h4 : x.c = 4
  · obtain ⟨hd, hn⟩ := h.num h4
    rw [if_pos (by omega)]
    unfold numQ numZ
    rw [if_neg (by omega), if_neg (by decide), if_neg (by decide), if_neg (by decide), hn]
  · have hn := h.txt h4
    have hc := cnt_le 86 p
    rw [if_neg (by omega), if_pos (by omega), hn]
    congr 1
    omega
set_option maxRecDepth 100000 in
set_option maxHeartbeats 4000000 in
theorem Check_c (p : List UInt8) (x : Pic.ShR) (w : World) (h : Pic.PicOk p x) (he : EnvP w) :
    Calls Tryz.prog 9 #[.agg (shpV x (mk p))] w fun e w' => e = .returned (.int .i64 0) ∧ Below w.heap.size w w' := by
  obtain ⟨P, hP⟩ : ∃ P, P = mk p := ⟨_, rfl⟩
  obtain ⟨c, hc⟩ : ∃ c : Int, c = (x.c : Int) := ⟨_, rfl⟩
  obtain ⟨d, hd⟩ : ∃ d : Int, d = (x.d : Int) := ⟨_, rfl⟩
  obtain ⟨sc, hsc⟩ : ∃ sc, sc = x.sc := ⟨_, rfl⟩
  obtain ⟨sg, hsg⟩ : ∃ sg, sg = x.sg := ⟨_, rfl⟩
  obtain ⟨n, hn⟩ : ∃ n : Int, n = (x.n : Int) := ⟨_, rfl⟩
  have hlen := h.len
  have hV : shpV x (mk p) = shpC c P d sc sg n := by rw [hc, hP, hd, hsc, hsg, hn]; rfl
  have hPs : P.size ≤ 60 := by rw [hP, mk_sz]; exact hlen
  have hcat := h.cat
  have HSZ : Hid (∀ W : World, Calls Tryz.prog 22 #[.agg #[.int .u8 c, .int .u8 0, .string P, .int .i64 d, .int .i64 sc, .bool sg, .bool false, .bool false, .bool false, .bool false, .int .i64 n]] W fun e w' => e = .returned (.tuple #[.int .i64 n, .int .i64 0]) ∧ Below W.heap.size W w') := fun W => by
    have := Size_c c 0 P d sc sg false false false false n W (by omega) (by omega) (by decide) (by decide) (by omega)
    rw [hc, hP, hd, hn, show (mk p).data.toList = p from rfl, sizQ_ok p x h] at this
    rw [hc, hP, hd, hn]
    exact this
  have HPR : Hid (∀ W : World, Below w.heap.size w W → Calls Tryz.prog 5 #[.string P] W fun e w' => e = .returned (.tuple #[.agg (shpC c P d sc sg n), .int .i64 0]) ∧ Below W.heap.size W w') := fun W hb => by
    have := Parse_c P W (by omega) (he.below hb)
    unfold ParPost at this
    rw [hP, show (mk p).data.toList = p from rfl, h.par p h.exp] at this
    simp only [] at this
    rw [hV, hP] at this
    rw [hP]
    exact this
  have hc0 : (c == 0) = false := by rw [beq_eq_false_iff_ne]; omega
  have HSM := hide (fun W : World => same_c c P d sc sg n W)
  have HSU := hide (fun W : World => suits_c c P d sc sg n W)
  rw [hV]
  obtain ⟨W0, hW0⟩ : ∃ W0, W0 = w.alloc (.cells (shpC c P d sc sg n) 28) := ⟨_, rfl⟩
  have HB0 : Hid (Below w.heap.size w W0) := by unfold Hid; rw [hW0]; exact below1 w _
  have HK0 : Hid (ShpB W0 w.heap.size (shpC c P d sc sg n)) := by unfold Hid; rw [hW0]; exact heap_alloc_new w _
  clear hP hc hd hsc hsg hn hV hcat hlen h he
  unfold shpC at hW0
  have HW0 := hide hW0
  clear hW0
  unfold shpC
  go_enter Tryz.func9, Tryz.ntmps9
  go_upto_region 1 with fail
  with_reducible rw [← HW0.out]
  clear HW0
  have hlt0 := HK0.out.lt
  go_wp2_with (refine wpList_load_row rfl 28 _ rfl w.heap.size rfl 28 _ (0, 0) _ HK0.out Tryz.underlying28 rfl (shp_info _ _ _ _ _ _) ?_)
  unfold shpC
  refine (HSZ.out _).mono ?_
  rintro e w3 ⟨rfl, hb3⟩
  have HB3 := hide (HB0.out.trans (hb3.mono HB0.out.size))
  have HK3 := hide (HK0.out.below hb3)
  obtain ⟨c0, c1, c2, c3, c4, c5, c6, c7, c8, c9, c10⟩ := HK3.out.cells
  clear hb3 HB0 HK0 hlt0
  have hlt3 := HK3.out.lt
  go_upto_region 8 with fail
  clear c0 c1 c3 c4 c5 c6 c7 c8 c9 c10
  go_wp2_with fail
  refine (HPR.out _ HB3.out).mono ?_
  rintro e w4 ⟨rfl, hb4⟩
  clear c2 hlt3
  obtain ⟨B1, hB1⟩ : ∃ B1, B1 = w4.heap.size := ⟨_, rfl⟩
  have HZ4 : Hid (ShpB (w4.alloc (.cells #[.int .u8 0, .int .u8 0, .string ⟨#[]⟩, .int .i64 0, .int .i64 0, .bool false, .bool false, .bool false, .bool false, .bool false, .int .i64 0] 28)) w4.heap.size (shpC 0 ⟨#[]⟩ 0 0 false 0)) := heap_alloc_new w4 _
  obtain ⟨W5, hW5⟩ : ∃ W5, W5 = (w4.alloc (.cells #[.int .u8 0, .int .u8 0, .string ⟨#[]⟩, .int .i64 0, .int .i64 0, .bool false, .bool false, .bool false, .bool false, .bool false, .int .i64 0] 28)).setRow w4.heap.size (shpC c P d sc sg n) := ⟨_, rfl⟩
  have hb5 : Below w4.heap.size w4 W5 := by rw [hW5]; exact below_setRow (below1 w4 _) (Nat.le_refl _) _
  have hb35 : Below w3.heap.size w3 W5 := hb4.trans (hb5.mono hb4.size)
  have HB5 : Hid (Below w.heap.size w W5) := HB3.out.trans (hb35.mono HB3.out.size)
  have HS5 : Hid (ShpB W5 B1 (shpC c P d sc sg n)) := by unfold Hid; rw [hW5, hB1]; exact HZ4.out.set _
  have HK5 : Hid (ShpB W5 w.heap.size (shpC c P d sc sg n)) := HK3.out.below hb35
  clear hb4 hb5 hb35 HK3 HB3
  go_upto_region 9 with (refine wpList_store_row rfl 28 _ _ rfl w4.heap.size (shpC c P d sc sg n) rfl rfl 28 _ HZ4.out (shp_info _ _ _ _ _ _) rfl (shp_one _ _ _ _ _ _) ?_)
  with_reducible rw [← hW5]
  rw [← hB1]
  clear hW5 hB1 HZ4
  have c2 := (HK5.out.cells).2.2.1
  have d2 := (HS5.out.cells).2.2.1
  have hl1 := HS5.out.lt
  have hl2 := HK5.out.lt
  go_upto_region 13 with fail
  go_wp2_with (first | (refine wpList_load_row rfl 28 _ rfl w.heap.size rfl 28 _ (0, 0) _ HK5.out Tryz.underlying28 rfl (shp_info _ _ _ _ _ _) ?_) | (refine wpList_load_row rfl 28 _ rfl B1 rfl 28 _ (0, 0) _ HS5.out Tryz.underlying28 rfl (shp_info _ _ _ _ _ _) ?_))
  refine (HSM.out _).mono ?_
  rintro e w6 ⟨rfl, hb6⟩
  have HB6 := hide (HB5.out.trans (hb6.mono HB5.out.size))
  have HK6 := hide (HK5.out.below hb6)
  clear hb6 c2 d2 hl1 hl2 HK5 HS5 HB5 HSM
  have hl2 := HK6.out.lt
  go_wp2_with (refine wpList_load_row rfl 28 _ rfl w.heap.size rfl 28 _ (0, 0) _ HK6.out Tryz.underlying28 rfl (shp_info _ _ _ _ _ _) ?_)
  refine (HSU.out _).mono ?_
  rintro e w7 ⟨rfl, hb7⟩
  have HB7 := hide (HB6.out.trans (hb7.mono HB6.out.size))
  have HK7 := hide (HK6.out.below hb7)
  clear hb7 hl2 HK6 HB6 HSU
  have c10 := (HK7.out.cells).2.2.2.2.2.2.2.2.2.2
  have hl2 := HK7.out.lt
  go_wp2_with fail
  go_ret
  exact ⟨rfl, HB7.out⟩
end Go.Proofs.YteceealibfemjaaGreatDoor
