/-
  CONTRACT of Parse (layer 6, pictures).
-/
import Derived.Test.YteceealibfemjaaGreatDoorEdtP
import Derived.Test.YteceealibfemjaaGreatDoorTexP
import Derived.Test.YteceealibfemjaaGreatDoorNumQ
namespace Go.Proofs.YteceealibfemjaaGreatDoor
open Go.RowKit Go.Shelf

theorem expL_small (l : List UInt8) (h : (Pic.expL l).2 = 0) : (Pic.expL l).1.length ≤ 256 := by
  unfold Pic.expL at h ⊢
  split at h
  · cases h
  · rename_i hn
    rw [if_neg hn]
    unfold Pic.expR at h ⊢
    cases hg : Pic.expG l.length [] l with
    | none => simp
    | some p =>
      rw [hg] at h
      simp only [] at h ⊢
      split at h
      · cases h
      · rename_i h2; rw [if_neg h2]; simp only []; omega
theorem expL_err (l : List UInt8) (h : (Pic.expL l).2 ≠ 0) : (Pic.expL l).1 = [] ∧ ((Pic.expL l).2 = 3 ∨ (Pic.expL l).2 = 4) := by
  unfold Pic.expL at h ⊢
  split
  · exact ⟨rfl, .inr rfl⟩
  · rename_i hn
    rw [if_neg hn] at h
    unfold Pic.expR at h ⊢
    cases hg : Pic.expG l.length [] l with
    | none => exact ⟨rfl, .inr rfl⟩
    | some p =>
      rw [hg] at h
      simp only [] at h ⊢
      split
      · exact ⟨rfl, .inl rfl⟩
      · rename_i h2; rw [if_neg h2] at h; exact absurd rfl h
theorem reaL_d (r : List UInt8) : (Pic.reaL r).2.d ≤ 10 * r.length := by
  unfold Pic.reaL
  simp only []
  have h1 := takL_sz [43, 45] 1 1 r
  generalize Pic.takL [43, 45] 1 1 r = t at h1 ⊢
  have h2 := takL_sz [36] 1 1 t.2.2
  generalize Pic.takL [36] 1 1 t.2.2 = u at h2 ⊢
  have h3 := whoL_sz ⟨u.2.2, t.2.1, 0, 0⟩
  simp only [] at h3
  generalize Pic.whoL ⟨u.2.2, t.2.1, 0, 0⟩ = k at h3 ⊢
  have h4 := fraL_sz k.1 k.2
  generalize Pic.fraL k.1 k.2 = f at h4 ⊢
  have h5 : (Pic.taiL f.2).d = f.2.d := by
    unfold Pic.taiL
    simp only []
    split
    · split <;> rfl
    · rfl
  split
  · show (Pic.taiL f.2).d ≤ _; omega
  · show f.2.d ≤ _; omega
/-- the digits of a shape are few -/
theorem forL_d (p : List UInt8) (hp : p.length ≤ 256) (x : Pic.ShR) (h : Pic.forL p = some x) : x.d ≤ 100000 := by
  unfold Pic.forL at h
  cases ht : Pic.texL p with
  | some y =>
    rw [ht] at h
    simp only [Option.orElse_some, Option.some.injEq] at h
    unfold Pic.texL at ht
    split at ht
    · cases ht
    · injection ht with ht; rw [← h, ← ht]; show 0 ≤ _; omega
  | none =>
    rw [ht] at h
    simp only [Option.orElse_none] at h
    cases hn : Pic.numL p with
    | some y =>
      rw [hn] at h
      simp only [Option.orElse_some, Option.some.injEq] at h
      unfold Pic.numL at hn
      split at hn
      · injection hn with hn; rw [← h, ← hn]; show Pic.cnt 57 p ≤ _; have := cnt_le 57 p; omega
      · cases hn
    | none =>
      rw [hn] at h
      simp only [Option.orElse_none] at h
      unfold Pic.ediL at h
      split at h
      · injection h with h
        rw [← h]
        show (Pic.reaL (Pic.barL p)).2.d ≤ _
        have hb := bar_len p
        exact Nat.le_trans (reaL_d _) (by omega)
      · cases h
def ParPost (l : List UInt8) (w : World) (e : Ending) (w' : World) : Prop :=
  e = .returned (.tuple #[.agg (shpV (Pic.parL l).2.1 (mk (Pic.parL l).2.2)), .int .i64 (Pic.parL l).1]) ∧ Below w.heap.size w w'
set_option maxRecDepth 100000 in
set_option maxHeartbeats 4000000 in
/-- Parse behind the three forms: the digits, the picture -/
theorem Parse_c (s : ByteArray) (w : World) (hs : s.size ≤ 1000000) (he : EnvP w) :
    Calls Tryz.prog 5 #[.string s] w (ParPost s.data.toList w) := by
  obtain ⟨l, hl⟩ : ∃ l, l = s.data.toList := ⟨_, rfl⟩
  obtain ⟨X, hX⟩ : ∃ X, X = Pic.parL l := ⟨_, rfl⟩
  have hpost : ParPost s.data.toList w = fun e w' => e = .returned (.tuple #[.agg (shpV X.2.1 (mk X.2.2)), .int .i64 X.1]) ∧ Below w.heap.size w w' := by
    funext e w'; unfold ParPost; rw [hX, hl]
  rw [hpost]
  clear hpost
  obtain ⟨W0, hW0⟩ : ∃ W0, W0 = w.alloc (.cells (shpC 0 ⟨#[]⟩ 0 0 false 0) 28) := ⟨_, rfl⟩
  have HB0 : Hid (Below w.heap.size w W0) := by unfold Hid; rw [hW0]; exact below1 w _
  have HK0 : Hid (ShpB W0 w.heap.size (shpC 0 ⟨#[]⟩ 0 0 false 0)) := by unfold Hid; rw [hW0]; exact heap_alloc_new w _
  have HE : Hid (∀ W, Below w.heap.size w W → EnvP W) := fun W hb => he.below hb
  have HEX := hide (Expand_c s W0 hs (he.below HB0.out))
  rw [← hl] at HEX
  obtain ⟨x, hx⟩ : ∃ x, x = Pic.expL l := ⟨_, rfl⟩
  have hsm := expL_small l
  have her := expL_err l
  have hfd := fun h => forL_d (Pic.expL l).1 h
  have hXX : X = if x.2 ≠ 0 then (x.2, Pic.shZ, []) else match Pic.forL x.1 with
      | none => (4, Pic.shZ, [])
      | some y => if 18 < y.d + Pic.cnt 80 x.1 then (3, Pic.shZ, []) else (0, y, x.1) := by rw [hX, hx]; rfl
  rw [← hx] at HEX hsm her hfd
  unfold shpC at hW0
  have HW0 := hide hW0
  have HXX := hide hXX
  obtain ⟨pic, err⟩ := x
  simp only [] at hsm her hfd
  clear hX hx hW0 he hl hXX
  go_enter Tryz.func5, Tryz.ntmps5
  go_wp2_with fail
  with_reducible rw [← HW0.out]
  refine HEX.out.mono ?_
  rintro e w1 ⟨rfl, hb1⟩
  have HB1 := hide (HB0.out.trans (hb1.mono HB0.out.size))
  have HK1 := hide (HK0.out.below hb1)
  clear hb1 HB0 HK0 HW0 HEX
  by_cases herr : err = 0
  · subst herr
    have hpl := hsm rfl
    have hfd2 := hfd (by omega)
    obtain ⟨P, hP⟩ : ∃ P, P = mk pic := ⟨_, rfl⟩
    have hPs : P.size = pic.length := by rw [hP, mk_sz]
    have hPd : P.data.toList = pic := by rw [hP]; rfl
    have hP6 : P.size ≤ 256 := by omega
    obtain ⟨n, hn⟩ : ∃ n, n = Pic.cnt 80 pic := ⟨_, rfl⟩
    have hn6 : n ≤ 256 := by have := cnt_le 80 pic; omega
    have HCn : Hid (∀ W : World, Calls Tryz.prog 17 #[.string P, .string ⟨#[80]⟩] W fun e w' => e = .returned (.int .i64 (n : Int)) ∧ w' = W) := fun W => by
      refine (Tryz.strings_Count_one P 80 W).mono fun e w' h => ⟨?_, h.2⟩
      rw [h.1, hn, ← hPd]; rfl
    have HTX : Hid (∀ W, Below w.heap.size w W → Calls Tryz.prog 14 #[.string P] W (FrmPost (Pic.texL pic) W)) := fun W hb => by
      have := text_c P W (by omega) (HE.out W hb); rw [hPd] at this; exact this
    have HNM : Hid (∀ W, Below w.heap.size w W → Calls Tryz.prog 15 #[.string P] W (FrmPost (Pic.numL pic) W)) := fun W hb => by
      have := numeric_c P W (by omega) (HE.out W hb); rw [hPd] at this; exact this
    have HED : Hid (∀ W, Below w.heap.size w W → Calls Tryz.prog 16 #[.string P] W (FrmPost (Pic.ediL pic) W)) := fun W hb => by
      have := edited_c P W (by omega) (HE.out W hb); rw [hPd] at this; exact this
    have HX1 : Hid (X = match Pic.forL pic with
      | none => (4, Pic.shZ, [])
      | some y => if 18 < y.d + n then (3, Pic.shZ, []) else (0, y, pic)) := by unfold Hid; rw [HXX.out, hn]; exact if_neg (by simp)
    have HPM := hide hP
    try rw [← hP]
    have HPs := hide hPs
    clear HXX hP hPd hPs hn hsm her hfd hpl
    obtain ⟨T, hT⟩ : ∃ T, T = Pic.texL pic := ⟨_, rfl⟩
    obtain ⟨N, hN⟩ : ∃ N, N = Pic.numL pic := ⟨_, rfl⟩
    obtain ⟨E, hE⟩ : ∃ E, E = Pic.ediL pic := ⟨_, rfl⟩
    have hfor : Pic.forL pic = T.orElse fun _ => N.orElse fun _ => E := by rw [hT, hN, hE]; rfl
    rw [hfor] at HX1 hfd2
    rw [← hT] at HTX
    rw [← hN] at HNM
    rw [← hE] at HED
    clear hT hN hE hfor
    go_wp2_with fail
    refine (HTX.out w1 HB1.out).mono ?_
    unfold FrmPost
    rintro e w2 ⟨rfl, hb2⟩
    obtain ⟨B1, hB1⟩ : ∃ B1, B1 = w2.heap.size := ⟨_, rfl⟩
    have HZ3 : Hid (ShpB (w2.alloc (.cells #[.int .u8 0, .int .u8 0, .string ⟨#[]⟩, .int .i64 0, .int .i64 0, .bool false, .bool false, .bool false, .bool false, .bool false, .int .i64 0] 28)) w2.heap.size (shpC 0 ⟨#[]⟩ 0 0 false 0)) := heap_alloc_new w2 _
    obtain ⟨W3, hW3⟩ : ∃ W3, W3 = (w2.alloc (.cells #[.int .u8 0, .int .u8 0, .string ⟨#[]⟩, .int .i64 0, .int .i64 0, .bool false, .bool false, .bool false, .bool false, .bool false, .int .i64 0] 28)).setRow w2.heap.size (shpO T) := ⟨_, rfl⟩
    have hb3 : Below w2.heap.size w2 W3 := by rw [hW3]; exact below_setRow (below1 w2 _) (Nat.le_refl _) _
    have HB3 : Hid (Below w.heap.size w W3) := (HB1.out.trans (hb2.mono HB1.out.size)).trans (hb3.mono (by have := HB1.out.size; have := hb2.size; omega))
    have HK3 : Hid (ShpB W3 w.heap.size (shpC 0 ⟨#[]⟩ 0 0 false 0)) := (HK1.out.below hb2).below hb3
    have HS3 : Hid (ShpB W3 B1 (shpO T)) := by unfold Hid; rw [hW3, hB1]; exact HZ3.out.set _
    have HNE : Hid (w.heap.size < B1) := by unfold Hid; rw [hB1]; exact Nat.lt_of_lt_of_le HK1.out.lt hb2.size
    clear hb2 hb3 HTX HB1 HK1
    go_upto_region 5 with (refine wpList_store_row rfl 28 _ _ rfl w2.heap.size (shpO T) rfl rfl 28 _ HZ3.out (shp_info _ _ _ _ _ _) rfl (shp_one _ _ _ _ _ _) ?_)
    with_reducible rw [← hW3]
    with_reducible rw [← hB1]
    clear hB1 hW3 HZ3
    cases T with
    | some y =>
      have HY3 : Hid (ShpB W3 B1 (shpC y.c ⟨#[]⟩ y.d y.sc y.sg y.n)) := HS3.out
      clear HS3 HNM HED
      have HD := hide (hfd2 _ rfl)
      have HX2 : Hid (X = if 18 < y.d + n then (3, Pic.shZ, []) else (0, y, pic)) := HX1.out
      have hd5 : y.d ≤ 100000 := HD.out
      have c3 := (HY3.out.cells).2.2.2.1
      have hsw : IntKind.i64.wrap ((y.d : Int) + (n : Int)) = (y.d : Int) + n := IntWalk.i64_in _ (by omega)
      clear HX1 hfd2
      by_cases h18 : 18 < y.d + n
      · have hdd : decide ((18 : Int) < (y.d : Int) + (n : Int)) = true := decide_eq_true (by omega)
        have HXF : Hid (X = (3, Pic.shZ, [])) := by unfold Hid; rw [HX2.out, if_pos h18]
        clear HX2 h18
        go_wp2_with fail
        go_quiet ((go_at_call 17; exact Calls.quiet_of_same (HCn.out _)))
        obtain ⟨W4, hW4⟩ : ∃ W4, W4 = W3.drewN nq := ⟨_, rfl⟩
        have HB4 : Hid (Below w.heap.size w W4) := by unfold Hid; rw [hW4]; exact below_drewN' HB3.out _
        have HK4 : Hid (ShpB W4 w.heap.size (shpC 0 ⟨#[]⟩ 0 0 false 0)) := by unfold Hid; rw [hW4]; exact HK3.out
        with_reducible rw [← hW4]
        clear hW4 c3 hsw
        go_wp2_with (refine wpList_store_row rfl 28 _ _ rfl w.heap.size (shpC 0 ⟨#[]⟩ 0 0 false 0) rfl rfl 28 _ HK4.out (shp_info _ _ _ _ _ _) rfl (shp_one _ _ _ _ _ _) ?_)
        obtain ⟨WF, hWF⟩ : ∃ WF, WF = W4.setRow w.heap.size (shpC 0 ⟨#[]⟩ 0 0 false 0) := ⟨_, rfl⟩
        have hsh : ShpB WF w.heap.size (shpC 0 ⟨#[]⟩ 0 0 false 0) := by rw [hWF]; exact HK4.out.set _
        obtain ⟨d0, d1, d2, d3, d4, d5, d6, d7, d8, d9, d10⟩ := hsh.cells
        have HBF : Hid (Below w.heap.size w WF) := by unfold Hid; rw [hWF]; exact below_setRow HB4.out (Nat.le_refl _) _
        with_reducible rw [← hWF]
        clear hWF
        refine bodyPost_ret (v := .tuple #[.agg (shpC 0 ⟨#[]⟩ 0 0 false 0), .int .i64 3]) (by simp [results, Tryz.results5, go_sem, d0, d1, d2, d3, d4, d5, d6, d7, d8, d9, d10, shpC]) rfl ⟨?_, HBF.out⟩
        rw [HXF.out]; rfl
      · have hdd : decide ((18 : Int) < (y.d : Int) + (n : Int)) = false := decide_eq_false (by omega)
        have HXF : Hid (X = (0, y, pic)) := by unfold Hid; rw [HX2.out, if_neg h18]
        clear HX2 h18
        go_wp2_with fail
        go_quiet ((go_at_call 17; exact Calls.quiet_of_same (HCn.out _)))
        obtain ⟨W4, hW4⟩ : ∃ W4, W4 = W3.drewN nq := ⟨_, rfl⟩
        have HB4 : Hid (Below w.heap.size w W4) := by unfold Hid; rw [hW4]; exact below_drewN' HB3.out _
        have HK4 : Hid (ShpB W4 w.heap.size (shpC 0 ⟨#[]⟩ 0 0 false 0)) := by unfold Hid; rw [hW4]; exact HK3.out
        have hS4 : ShpB W4 B1 (shpC y.c ⟨#[]⟩ y.d y.sc y.sg y.n) := by rw [hW4]; exact HY3.out
        with_reducible rw [← hW4]
        have c2 := (hS4.cells).2.2.1
        have f2 : W4.frozen? ⟨B1, 2, none⟩ = false := frozen_of_row W4 B1 2 _ _ hS4
        have hlt4 := hS4.lt
        have HS4 := hide hS4
        clear hW4 c3 hsw hS4
        go_upto_region 14 with fail
        obtain ⟨W5, hW5⟩ : ∃ W5, W5 = W4.setCell ⟨B1, 2, none⟩ (.string P) := ⟨_, rfl⟩
        have HB5 : Hid (Below w.heap.size w W5) := by unfold Hid; rw [hW5]; exact HB4.out.setCell (p := ⟨B1, 2, none⟩) (Nat.le_of_lt HNE.out) _
        have HK5 : Hid (ShpB W5 w.heap.size (shpC 0 ⟨#[]⟩ 0 0 false 0)) := by unfold Hid; rw [hW5]; exact (Below.heap_setCell W4 ⟨B1, 2, none⟩ _ _ (by have := HNE.out; show w.heap.size ≠ B1; omega)).trans HK4.out
        have HS5 : Hid (ShpB W5 B1 (shpC y.c P y.d y.sc y.sg y.n)) := by unfold Hid ShpB; rw [hW5, heap_setCell_same W4 B1 2 _ _ _ HS4.out]; rfl
        with_reducible rw [← hW5]
        clear hW5 c2 f2 hlt4
        go_wp2_with (first | (refine wpList_load_row rfl 28 _ rfl B1 rfl 28 (shpC y.c P y.d y.sc y.sg y.n) (0, 0) _ HS5.out Tryz.underlying28 rfl (shp_info _ _ _ _ _ _) ?_) | (refine wpList_store_row rfl 28 _ _ rfl w.heap.size (shpC y.c P y.d y.sc y.sg y.n) rfl rfl 28 _ HK5.out (shp_info _ _ _ _ _ _) rfl (shp_one _ _ _ _ _ _) ?_))
        obtain ⟨WF, hWF⟩ : ∃ WF, WF = W5.setRow w.heap.size (shpC y.c P y.d y.sc y.sg y.n) := ⟨_, rfl⟩
        have hsh : ShpB WF w.heap.size (shpC y.c P y.d y.sc y.sg y.n) := by rw [hWF]; exact HK5.out.set _
        obtain ⟨d0, d1, d2, d3, d4, d5, d6, d7, d8, d9, d10⟩ := hsh.cells
        have HBF : Hid (Below w.heap.size w WF) := by unfold Hid; rw [hWF]; exact below_setRow HB5.out (Nat.le_refl _) _
        with_reducible rw [← hWF]
        clear hWF
        refine bodyPost_ret (v := .tuple #[.agg (shpC y.c P y.d y.sc y.sg y.n), .int .i64 0]) (by simp [results, Tryz.results5, go_sem, d0, d1, d2, d3, d4, d5, d6, d7, d8, d9, d10, shpC]) rfl ⟨?_, HBF.out⟩
        rw [HXF.out, HPM.out]; rfl
    | none =>
      have HY3 : Hid (ShpB W3 B1 (shpC 0 ⟨#[]⟩ 0 0 false 0)) := HS3.out
      clear HS3
      go_wp2_with fail
      refine (HNM.out W3 HB3.out).mono ?_
      unfold FrmPost
      rintro e w4 ⟨rfl, hb4⟩
      have HB4x := hide (HB3.out.trans (hb4.mono HB3.out.size))
      have HK4x := hide (HK3.out.below hb4)
      have HY4x := hide (HY3.out.below hb4)
      clear hb4 HNM HB3 HK3 HY3
      cases N with
      | some y =>
        obtain ⟨W6, hW6⟩ : ∃ W6, W6 = w4.setRow B1 (shpC y.c ⟨#[]⟩ y.d y.sc y.sg y.n) := ⟨_, rfl⟩
        have HB6 : Hid (Below w.heap.size w W6) := by unfold Hid; rw [hW6]; exact below_setRow HB4x.out (Nat.le_of_lt HNE.out) _
        have HK6 : Hid (ShpB W6 w.heap.size (shpC 0 ⟨#[]⟩ 0 0 false 0)) := by unfold Hid ShpB; rw [hW6]; exact (setRow_other w4 B1 w.heap.size _ (by have := HNE.out; omega)).trans HK4x.out
        have HY6 : Hid (ShpB W6 B1 (shpC y.c ⟨#[]⟩ y.d y.sc y.sg y.n)) := by unfold Hid; rw [hW6]; exact HY4x.out.set _
        go_upto_region 7 with (refine wpList_store_row rfl 28 _ _ rfl B1 (shpC y.c ⟨#[]⟩ y.d y.sc y.sg y.n) rfl rfl 28 _ HY4x.out (shp_info _ _ _ _ _ _) rfl (shp_one _ _ _ _ _ _) ?_)
        with_reducible rw [← hW6]
        clear hW6 HED
        have HD := hide (hfd2 _ rfl)
        have HX2 : Hid (X = if 18 < y.d + n then (3, Pic.shZ, []) else (0, y, pic)) := HX1.out
        have hd5 : y.d ≤ 100000 := HD.out
        have c3 := (HY6.out.cells).2.2.2.1
        have hsw : IntKind.i64.wrap ((y.d : Int) + (n : Int)) = (y.d : Int) + n := IntWalk.i64_in _ (by omega)
        clear HX1 hfd2
        by_cases h18 : 18 < y.d + n
        · have hdd : decide ((18 : Int) < (y.d : Int) + (n : Int)) = true := decide_eq_true (by omega)
          have HXF : Hid (X = (3, Pic.shZ, [])) := by unfold Hid; rw [HX2.out, if_pos h18]
          clear HX2 h18
          go_wp2_with fail
          go_quiet ((go_at_call 17; exact Calls.quiet_of_same (HCn.out _)))
          obtain ⟨W4, hW4⟩ : ∃ W4, W4 = W6.drewN nq := ⟨_, rfl⟩
          have HB4 : Hid (Below w.heap.size w W4) := by unfold Hid; rw [hW4]; exact below_drewN' HB6.out _
          have HK4 : Hid (ShpB W4 w.heap.size (shpC 0 ⟨#[]⟩ 0 0 false 0)) := by unfold Hid; rw [hW4]; exact HK6.out
          with_reducible rw [← hW4]
          clear hW4 c3 hsw
          go_wp2_with (refine wpList_store_row rfl 28 _ _ rfl w.heap.size (shpC 0 ⟨#[]⟩ 0 0 false 0) rfl rfl 28 _ HK4.out (shp_info _ _ _ _ _ _) rfl (shp_one _ _ _ _ _ _) ?_)
          obtain ⟨WF, hWF⟩ : ∃ WF, WF = W4.setRow w.heap.size (shpC 0 ⟨#[]⟩ 0 0 false 0) := ⟨_, rfl⟩
          have hsh : ShpB WF w.heap.size (shpC 0 ⟨#[]⟩ 0 0 false 0) := by rw [hWF]; exact HK4.out.set _
          obtain ⟨d0, d1, d2, d3, d4, d5, d6, d7, d8, d9, d10⟩ := hsh.cells
          have HBF : Hid (Below w.heap.size w WF) := by unfold Hid; rw [hWF]; exact below_setRow HB4.out (Nat.le_refl _) _
          with_reducible rw [← hWF]
          clear hWF
          refine bodyPost_ret (v := .tuple #[.agg (shpC 0 ⟨#[]⟩ 0 0 false 0), .int .i64 3]) (by simp [results, Tryz.results5, go_sem, d0, d1, d2, d3, d4, d5, d6, d7, d8, d9, d10, shpC]) rfl ⟨?_, HBF.out⟩
          rw [HXF.out]; rfl
        · have hdd : decide ((18 : Int) < (y.d : Int) + (n : Int)) = false := decide_eq_false (by omega)
          have HXF : Hid (X = (0, y, pic)) := by unfold Hid; rw [HX2.out, if_neg h18]
          clear HX2 h18
          go_wp2_with fail
          go_quiet ((go_at_call 17; exact Calls.quiet_of_same (HCn.out _)))
          obtain ⟨W4, hW4⟩ : ∃ W4, W4 = W6.drewN nq := ⟨_, rfl⟩
          have HB4 : Hid (Below w.heap.size w W4) := by unfold Hid; rw [hW4]; exact below_drewN' HB6.out _
          have HK4 : Hid (ShpB W4 w.heap.size (shpC 0 ⟨#[]⟩ 0 0 false 0)) := by unfold Hid; rw [hW4]; exact HK6.out
          have hS4 : ShpB W4 B1 (shpC y.c ⟨#[]⟩ y.d y.sc y.sg y.n) := by rw [hW4]; exact HY6.out
          with_reducible rw [← hW4]
          have c2 := (hS4.cells).2.2.1
          have f2 : W4.frozen? ⟨B1, 2, none⟩ = false := frozen_of_row W4 B1 2 _ _ hS4
          have hlt4 := hS4.lt
          have HS4 := hide hS4
          clear hW4 c3 hsw hS4
          go_upto_region 14 with fail
          obtain ⟨W5, hW5⟩ : ∃ W5, W5 = W4.setCell ⟨B1, 2, none⟩ (.string P) := ⟨_, rfl⟩
          have HB5 : Hid (Below w.heap.size w W5) := by unfold Hid; rw [hW5]; exact HB4.out.setCell (p := ⟨B1, 2, none⟩) (Nat.le_of_lt HNE.out) _
          have HK5 : Hid (ShpB W5 w.heap.size (shpC 0 ⟨#[]⟩ 0 0 false 0)) := by unfold Hid; rw [hW5]; exact (Below.heap_setCell W4 ⟨B1, 2, none⟩ _ _ (by have := HNE.out; show w.heap.size ≠ B1; omega)).trans HK4.out
          have HS5 : Hid (ShpB W5 B1 (shpC y.c P y.d y.sc y.sg y.n)) := by unfold Hid ShpB; rw [hW5, heap_setCell_same W4 B1 2 _ _ _ HS4.out]; rfl
          with_reducible rw [← hW5]
          clear hW5 c2 f2 hlt4
          go_wp2_with (first | (refine wpList_load_row rfl 28 _ rfl B1 rfl 28 (shpC y.c P y.d y.sc y.sg y.n) (0, 0) _ HS5.out Tryz.underlying28 rfl (shp_info _ _ _ _ _ _) ?_) | (refine wpList_store_row rfl 28 _ _ rfl w.heap.size (shpC y.c P y.d y.sc y.sg y.n) rfl rfl 28 _ HK5.out (shp_info _ _ _ _ _ _) rfl (shp_one _ _ _ _ _ _) ?_))
          obtain ⟨WF, hWF⟩ : ∃ WF, WF = W5.setRow w.heap.size (shpC y.c P y.d y.sc y.sg y.n) := ⟨_, rfl⟩
          have hsh : ShpB WF w.heap.size (shpC y.c P y.d y.sc y.sg y.n) := by rw [hWF]; exact HK5.out.set _
          obtain ⟨d0, d1, d2, d3, d4, d5, d6, d7, d8, d9, d10⟩ := hsh.cells
          have HBF : Hid (Below w.heap.size w WF) := by unfold Hid; rw [hWF]; exact below_setRow HB5.out (Nat.le_refl _) _
          with_reducible rw [← hWF]
          clear hWF
          refine bodyPost_ret (v := .tuple #[.agg (shpC y.c P y.d y.sc y.sg y.n), .int .i64 0]) (by simp [results, Tryz.results5, go_sem, d0, d1, d2, d3, d4, d5, d6, d7, d8, d9, d10, shpC]) rfl ⟨?_, HBF.out⟩
          rw [HXF.out, HPM.out]; rfl
      | none =>
        obtain ⟨W6, hW6⟩ : ∃ W6, W6 = w4.setRow B1 (shpC 0 ⟨#[]⟩ 0 0 false 0) := ⟨_, rfl⟩
        have HB6 : Hid (Below w.heap.size w W6) := by unfold Hid; rw [hW6]; exact below_setRow HB4x.out (Nat.le_of_lt HNE.out) _
        have HK6 : Hid (ShpB W6 w.heap.size (shpC 0 ⟨#[]⟩ 0 0 false 0)) := by unfold Hid ShpB; rw [hW6]; exact (setRow_other w4 B1 w.heap.size _ (by have := HNE.out; omega)).trans HK4x.out
        have HY6 : Hid (ShpB W6 B1 (shpC 0 ⟨#[]⟩ 0 0 false 0)) := by unfold Hid; rw [hW6]; exact HY4x.out.set _
        go_upto_region 7 with (refine wpList_store_row rfl 28 _ _ rfl B1 (shpC 0 ⟨#[]⟩ 0 0 false 0) rfl rfl 28 _ HY4x.out (shp_info _ _ _ _ _ _) rfl (shp_one _ _ _ _ _ _) ?_)
        with_reducible rw [← hW6]
        clear hW6
        go_wp2_with fail
        refine (HED.out W6 HB6.out).mono ?_
        unfold FrmPost
        rintro e w7 ⟨rfl, hb7⟩
        have HB7x := hide (HB6.out.trans (hb7.mono HB6.out.size))
        have HK7x := hide (HK6.out.below hb7)
        have HY7x := hide (HY6.out.below hb7)
        clear hb7 HED HB6 HK6 HY6 HB4x HK4x HY4x
        cases E with
        | some y =>
          obtain ⟨W8, hW8⟩ : ∃ W8, W8 = w7.setRow B1 (shpC y.c ⟨#[]⟩ y.d y.sc y.sg y.n) := ⟨_, rfl⟩
          have HB8 : Hid (Below w.heap.size w W8) := by unfold Hid; rw [hW8]; exact below_setRow HB7x.out (Nat.le_of_lt HNE.out) _
          have HK8 : Hid (ShpB W8 w.heap.size (shpC 0 ⟨#[]⟩ 0 0 false 0)) := by unfold Hid ShpB; rw [hW8]; exact (setRow_other w7 B1 w.heap.size _ (by have := HNE.out; omega)).trans HK7x.out
          have HY8 : Hid (ShpB W8 B1 (shpC y.c ⟨#[]⟩ y.d y.sc y.sg y.n)) := by unfold Hid; rw [hW8]; exact HY7x.out.set _
          go_upto_region 9 with (refine wpList_store_row rfl 28 _ _ rfl B1 (shpC y.c ⟨#[]⟩ y.d y.sc y.sg y.n) rfl rfl 28 _ HY7x.out (shp_info _ _ _ _ _ _) rfl (shp_one _ _ _ _ _ _) ?_)
          with_reducible rw [← hW8]
          clear hW8
          have HD := hide (hfd2 _ rfl)
          have HX2 : Hid (X = if 18 < y.d + n then (3, Pic.shZ, []) else (0, y, pic)) := HX1.out
          have hd5 : y.d ≤ 100000 := HD.out
          have c3 := (HY8.out.cells).2.2.2.1
          have hsw : IntKind.i64.wrap ((y.d : Int) + (n : Int)) = (y.d : Int) + n := IntWalk.i64_in _ (by omega)
          clear HX1 hfd2
          by_cases h18 : 18 < y.d + n
          · have hdd : decide ((18 : Int) < (y.d : Int) + (n : Int)) = true := decide_eq_true (by omega)
            have HXF : Hid (X = (3, Pic.shZ, [])) := by unfold Hid; rw [HX2.out, if_pos h18]
            clear HX2 h18
            go_wp2_with fail
            go_quiet ((go_at_call 17; exact Calls.quiet_of_same (HCn.out _)))
            obtain ⟨W4, hW4⟩ : ∃ W4, W4 = W8.drewN nq := ⟨_, rfl⟩
            have HB4 : Hid (Below w.heap.size w W4) := by unfold Hid; rw [hW4]; exact below_drewN' HB8.out _
            have HK4 : Hid (ShpB W4 w.heap.size (shpC 0 ⟨#[]⟩ 0 0 false 0)) := by unfold Hid; rw [hW4]; exact HK8.out
            with_reducible rw [← hW4]
            clear hW4 c3 hsw
            go_wp2_with (refine wpList_store_row rfl 28 _ _ rfl w.heap.size (shpC 0 ⟨#[]⟩ 0 0 false 0) rfl rfl 28 _ HK4.out (shp_info _ _ _ _ _ _) rfl (shp_one _ _ _ _ _ _) ?_)
            obtain ⟨WF, hWF⟩ : ∃ WF, WF = W4.setRow w.heap.size (shpC 0 ⟨#[]⟩ 0 0 false 0) := ⟨_, rfl⟩
            have hsh : ShpB WF w.heap.size (shpC 0 ⟨#[]⟩ 0 0 false 0) := by rw [hWF]; exact HK4.out.set _
            obtain ⟨d0, d1, d2, d3, d4, d5, d6, d7, d8, d9, d10⟩ := hsh.cells
            have HBF : Hid (Below w.heap.size w WF) := by unfold Hid; rw [hWF]; exact below_setRow HB4.out (Nat.le_refl _) _
            with_reducible rw [← hWF]
            clear hWF
            refine bodyPost_ret (v := .tuple #[.agg (shpC 0 ⟨#[]⟩ 0 0 false 0), .int .i64 3]) (by simp [results, Tryz.results5, go_sem, d0, d1, d2, d3, d4, d5, d6, d7, d8, d9, d10, shpC]) rfl ⟨?_, HBF.out⟩
            rw [HXF.out]; rfl
          · have hdd : decide ((18 : Int) < (y.d : Int) + (n : Int)) = false := decide_eq_false (by omega)
            have HXF : Hid (X = (0, y, pic)) := by unfold Hid; rw [HX2.out, if_neg h18]
            clear HX2 h18
            go_wp2_with fail
            go_quiet ((go_at_call 17; exact Calls.quiet_of_same (HCn.out _)))
            obtain ⟨W4, hW4⟩ : ∃ W4, W4 = W8.drewN nq := ⟨_, rfl⟩
            have HB4 : Hid (Below w.heap.size w W4) := by unfold Hid; rw [hW4]; exact below_drewN' HB8.out _
            have HK4 : Hid (ShpB W4 w.heap.size (shpC 0 ⟨#[]⟩ 0 0 false 0)) := by unfold Hid; rw [hW4]; exact HK8.out
            have hS4 : ShpB W4 B1 (shpC y.c ⟨#[]⟩ y.d y.sc y.sg y.n) := by rw [hW4]; exact HY8.out
            with_reducible rw [← hW4]
            have c2 := (hS4.cells).2.2.1
            have f2 : W4.frozen? ⟨B1, 2, none⟩ = false := frozen_of_row W4 B1 2 _ _ hS4
            have hlt4 := hS4.lt
            have HS4 := hide hS4
            clear hW4 c3 hsw hS4
            go_upto_region 14 with fail
            obtain ⟨W5, hW5⟩ : ∃ W5, W5 = W4.setCell ⟨B1, 2, none⟩ (.string P) := ⟨_, rfl⟩
            have HB5 : Hid (Below w.heap.size w W5) := by unfold Hid; rw [hW5]; exact HB4.out.setCell (p := ⟨B1, 2, none⟩) (Nat.le_of_lt HNE.out) _
            have HK5 : Hid (ShpB W5 w.heap.size (shpC 0 ⟨#[]⟩ 0 0 false 0)) := by unfold Hid; rw [hW5]; exact (Below.heap_setCell W4 ⟨B1, 2, none⟩ _ _ (by have := HNE.out; show w.heap.size ≠ B1; omega)).trans HK4.out
            have HS5 : Hid (ShpB W5 B1 (shpC y.c P y.d y.sc y.sg y.n)) := by unfold Hid ShpB; rw [hW5, heap_setCell_same W4 B1 2 _ _ _ HS4.out]; rfl
            with_reducible rw [← hW5]
            clear hW5 c2 f2 hlt4
            go_wp2_with (first | (refine wpList_load_row rfl 28 _ rfl B1 rfl 28 (shpC y.c P y.d y.sc y.sg y.n) (0, 0) _ HS5.out Tryz.underlying28 rfl (shp_info _ _ _ _ _ _) ?_) | (refine wpList_store_row rfl 28 _ _ rfl w.heap.size (shpC y.c P y.d y.sc y.sg y.n) rfl rfl 28 _ HK5.out (shp_info _ _ _ _ _ _) rfl (shp_one _ _ _ _ _ _) ?_))
            obtain ⟨WF, hWF⟩ : ∃ WF, WF = W5.setRow w.heap.size (shpC y.c P y.d y.sc y.sg y.n) := ⟨_, rfl⟩
            have hsh : ShpB WF w.heap.size (shpC y.c P y.d y.sc y.sg y.n) := by rw [hWF]; exact HK5.out.set _
            obtain ⟨d0, d1, d2, d3, d4, d5, d6, d7, d8, d9, d10⟩ := hsh.cells
            have HBF : Hid (Below w.heap.size w WF) := by unfold Hid; rw [hWF]; exact below_setRow HB5.out (Nat.le_refl _) _
            with_reducible rw [← hWF]
            clear hWF
            refine bodyPost_ret (v := .tuple #[.agg (shpC y.c P y.d y.sc y.sg y.n), .int .i64 0]) (by simp [results, Tryz.results5, go_sem, d0, d1, d2, d3, d4, d5, d6, d7, d8, d9, d10, shpC]) rfl ⟨?_, HBF.out⟩
            rw [HXF.out, HPM.out]; rfl
        | none =>
          have HXF : Hid (X = (4, Pic.shZ, [])) := HX1.out
          obtain ⟨W8, hW8⟩ : ∃ W8, W8 = w7.setRow B1 (shpC 0 ⟨#[]⟩ 0 0 false 0) := ⟨_, rfl⟩
          have HB8 : Hid (Below w.heap.size w W8) := by unfold Hid; rw [hW8]; exact below_setRow HB7x.out (Nat.le_of_lt HNE.out) _
          have HK8 : Hid (ShpB W8 w.heap.size (shpC 0 ⟨#[]⟩ 0 0 false 0)) := by unfold Hid ShpB; rw [hW8]; exact (setRow_other w7 B1 w.heap.size _ (by have := HNE.out; omega)).trans HK7x.out
          go_upto_region 9 with (refine wpList_store_row rfl 28 _ _ rfl B1 (shpC 0 ⟨#[]⟩ 0 0 false 0) rfl rfl 28 _ HY7x.out (shp_info _ _ _ _ _ _) rfl (shp_one _ _ _ _ _ _) ?_)
          with_reducible rw [← hW8]
          clear hW8
          go_wp2_with (refine wpList_store_row rfl 28 _ _ rfl w.heap.size (shpC 0 ⟨#[]⟩ 0 0 false 0) rfl rfl 28 _ HK8.out (shp_info _ _ _ _ _ _) rfl (shp_one _ _ _ _ _ _) ?_)
          obtain ⟨WF, hWF⟩ : ∃ WF, WF = W8.setRow w.heap.size (shpC 0 ⟨#[]⟩ 0 0 false 0) := ⟨_, rfl⟩
          have hsh : ShpB WF w.heap.size (shpC 0 ⟨#[]⟩ 0 0 false 0) := by rw [hWF]; exact HK8.out.set _
          obtain ⟨d0, d1, d2, d3, d4, d5, d6, d7, d8, d9, d10⟩ := hsh.cells
          have HBF : Hid (Below w.heap.size w WF) := by unfold Hid; rw [hWF]; exact below_setRow HB8.out (Nat.le_refl _) _
          with_reducible rw [← hWF]
          clear hWF
          refine bodyPost_ret (v := .tuple #[.agg (shpC 0 ⟨#[]⟩ 0 0 false 0), .int .i64 4]) (by simp [results, Tryz.results5, go_sem, d0, d1, d2, d3, d4, d5, d6, d7, d8, d9, d10, shpC]) rfl ⟨?_, HBF.out⟩
          rw [HXF.out]; rfl
  · obtain ⟨hpn, h34⟩ := her herr
    subst hpn
    have HXF0 : Hid (X = (err, Pic.shZ, [])) := by unfold Hid; rw [HXX.out]; exact if_pos herr
    clear HXX herr hsm hfd her
    rcases h34 with rfl | rfl
    · have HXF := HXF0
      clear HXF0
      go_wp2_with (refine wpList_store_row rfl 28 _ _ rfl w.heap.size (shpC 0 ⟨#[]⟩ 0 0 false 0) rfl rfl 28 _ HK1.out (shp_info _ _ _ _ _ _) rfl (shp_one _ _ _ _ _ _) ?_)
      obtain ⟨WF, hWF⟩ : ∃ WF, WF = w1.setRow w.heap.size (shpC 0 ⟨#[]⟩ 0 0 false 0) := ⟨_, rfl⟩
      have hsh : ShpB WF w.heap.size (shpC 0 ⟨#[]⟩ 0 0 false 0) := by rw [hWF]; exact HK1.out.set _
      obtain ⟨d0, d1, d2, d3, d4, d5, d6, d7, d8, d9, d10⟩ := hsh.cells
      have HBF : Hid (Below w.heap.size w WF) := by unfold Hid; rw [hWF]; exact below_setRow HB1.out (Nat.le_refl _) _
      with_reducible rw [← hWF]
      clear hWF
      refine bodyPost_ret (v := .tuple #[.agg (shpC 0 ⟨#[]⟩ 0 0 false 0), .int .i64 3]) (by simp [results, Tryz.results5, go_sem, d0, d1, d2, d3, d4, d5, d6, d7, d8, d9, d10, shpC]) rfl ⟨?_, HBF.out⟩
      rw [HXF.out]; rfl
    · have HXF := HXF0
      clear HXF0
      go_wp2_with (refine wpList_store_row rfl 28 _ _ rfl w.heap.size (shpC 0 ⟨#[]⟩ 0 0 false 0) rfl rfl 28 _ HK1.out (shp_info _ _ _ _ _ _) rfl (shp_one _ _ _ _ _ _) ?_)
      obtain ⟨WF, hWF⟩ : ∃ WF, WF = w1.setRow w.heap.size (shpC 0 ⟨#[]⟩ 0 0 false 0) := ⟨_, rfl⟩
      have hsh : ShpB WF w.heap.size (shpC 0 ⟨#[]⟩ 0 0 false 0) := by rw [hWF]; exact HK1.out.set _
      obtain ⟨d0, d1, d2, d3, d4, d5, d6, d7, d8, d9, d10⟩ := hsh.cells
      have HBF : Hid (Below w.heap.size w WF) := by unfold Hid; rw [hWF]; exact below_setRow HB1.out (Nat.le_refl _) _
      with_reducible rw [← hWF]
      clear hWF
      refine bodyPost_ret (v := .tuple #[.agg (shpC 0 ⟨#[]⟩ 0 0 false 0), .int .i64 4]) (by simp [results, Tryz.results5, go_sem, d0, d1, d2, d3, d4, d5, d6, d7, d8, d9, d10, shpC]) rfl ⟨?_, HBF.out⟩
      rw [HXF.out]; rfl
end Go.Proofs.YteceealibfemjaaGreatDoor
