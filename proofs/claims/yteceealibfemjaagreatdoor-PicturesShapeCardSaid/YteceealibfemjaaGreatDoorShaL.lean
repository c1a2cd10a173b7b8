/-
  THE LAW PicturesShape (layer 6, pictures).
-/
import Derived.Test.YteceealibfemjaaGreatDoorOfsP
import Derived.Test.YteceealibfemjaaGreatDoorEdsP
import Derived.Test.YteceealibfemjaaGreatDoorChkP
import Derived.Test.YteceealibfemjaaGreatDoorLvP
namespace Go.Proofs.YteceealibfemjaaGreatDoor
open Go.RowKit Go.Shelf

theorem Of_c (K Wh S G F : Nat) (A : Option Addr) (cap : Nat) (bs : List UInt8) (w : World) (hsl : Sl w w.heap.size A bs) (hbl : bs.length ≤ cap) (hcap : cap ≤ maxLen) (hG : G < 256) (hF : F < 256) :
    Calls Tryz.prog 4 #[.agg (prtA K Wh S G F (.slice A bs.length cap))] w (OfPost K Wh S G F bs w) := by
  by_cases h0 : K % 6 = 0
  · exact Of_0 K Wh S G F _ bs w h0
  · by_cases h1 : K % 6 = 1 ∨ K % 6 = 2
    · exact Of_12 K Wh S G F A cap bs w hsl hbl hcap h1
    · by_cases h3 : K % 6 = 3
      · exact Of_3 K Wh S G F _ bs w hG hF h3
      · exact Of_4 lawEd_c K Wh S G F A cap bs w hsl hbl hcap hG hF (by omega)
theorem shP_scl (K W S G F : Nat) (bs : List UInt8) (h : (Pic.shP K W S G F bs).c = 4) : (Pic.shP K W S G F bs).sc ≤ 18 := by
  have h10 : W % 10 < 10 := Nat.mod_lt _ (by omega)
  have h6 : S % 6 < 6 := Nat.mod_lt _ (by omega)
  unfold Pic.shP at h ⊢
  by_cases h0 : K % 6 = 0
  · rw [if_pos h0] at h; cases h
  · rw [if_neg h0] at h ⊢
    by_cases h1 : K % 6 = 1 ∨ K % 6 = 2
    · rw [if_pos h1]; show (0 : Int) ≤ 18; decide
    · rw [if_neg h1] at h ⊢
      by_cases h3 : K % 6 = 3
      · rw [if_pos h3]
        show Pic.numC (W % 10) (S % 6) (F % 6) ≤ 18
        unfold Pic.numC
        split
        · omega
        · split
          · omega
          · split <;> omega
      · rw [if_neg h3] at h; cases h
theorem nmb_snoc (l : List UInt8) (c : UInt8) : Pic.nmb (l ++ [c]) = Pic.nmb l ++ [c, 40, 49, 41] := by unfold Pic.nmb; rw [List.flatMap_append]; simp
set_option maxRecDepth 100000 in
set_option maxHeartbeats 8000000 in
theorem ShaLaw (K Wh S G F : Nat) (A : Option Addr) (cap : Nat) (bs : List UInt8) (w : World) (hsl : Sl w w.heap.size A bs) (hbl : bs.length ≤ cap) (hcap : cap ≤ maxLen) (hG : G < 256) (hF : F < 256) (he : EnvP w) :
    Calls Tryz.prog 3 #[.agg (prtA K Wh S G F (.slice A bs.length cap))] w fun e w' => e = .returned (.bool true) ∧ Below w.heap.size w w' := by
  have HLv : Hid (∀ W, Below w.heap.size w W → Calls Tryz.prog 8 #[] W fun e w' => e = .returned (.bool true) ∧ Below W.heap.size W w') := fun W hb => livesP_c W (he.below hb)
  have hok := Pic.ofP_ok K Wh S G F bs
  have HOF0 : Hid (∀ W, Below w.heap.size w W → Calls Tryz.prog 4 #[.agg (prtA K Wh S G F (.slice A bs.length cap))] W (OfPost K Wh S G F bs W)) := fun W hb => Of_c K Wh S G F A cap bs W (hsl.keep hb (Nat.le_refl _) _ hb.size) hbl hcap hG hF
  unfold OfPost at HOF0
  obtain ⟨p, hp⟩ : ∃ p, p = Pic.ofP K Wh S G F bs := ⟨_, rfl⟩
  obtain ⟨x, hx⟩ : ∃ x, x = Pic.shP K Wh S G F bs := ⟨_, rfl⟩
  rw [← hp, ← hx] at hok HOF0
  obtain ⟨P, hP⟩ : ∃ P, P = mk p := ⟨_, rfl⟩
  obtain ⟨c, hc⟩ : ∃ c : Int, c = (x.c : Int) := ⟨_, rfl⟩
  obtain ⟨d, hd⟩ : ∃ d : Int, d = (x.d : Int) := ⟨_, rfl⟩
  obtain ⟨sc, hsc⟩ : ∃ sc, sc = x.sc := ⟨_, rfl⟩
  obtain ⟨sg, hsg⟩ : ∃ sg, sg = x.sg := ⟨_, rfl⟩
  obtain ⟨n, hn⟩ : ∃ n : Int, n = (x.n : Int) := ⟨_, rfl⟩
  have hV : shpV x (mk p) = shpC c P d sc sg n := by rw [hc, hP, hd, hsc, hsg, hn]; rfl
  rw [hV, ← hP] at HOF0
  have hPs : P.size = p.length := by rw [hP, mk_size]
  have hpl := hok.len
  obtain ⟨SH, hSH⟩ : ∃ SH, SH = mk (Pic.shoL p) := ⟨_, rfl⟩
  have hPar : ∀ (l : List UInt8) (W : World), Below w.heap.size w W → l.length ≤ 1000 → Pic.expL l = (p, 0) → Calls Tryz.prog 5 #[.string (mk l)] W fun e w' => e = .returned (.tuple #[.agg (shpC c P d sc sg n), .int .i64 0]) ∧ Below W.heap.size W w' := fun l W hb hl hx' => by
    have := Parse_c (mk l) W (by rw [mk_size]; omega) (he.below hb)
    unfold ParPost at this
    rw [show (mk l).data.toList = l from rfl, hok.par l hx'] at this
    simp only [] at this
    rw [hV] at this
    exact this
  have HP1 : Hid (∀ W : World, Below w.heap.size w W → Calls Tryz.prog 5 #[.string P] W fun e w' => e = .returned (.tuple #[.agg (shpC c P d sc sg n), .int .i64 0]) ∧ Below W.heap.size W w') := fun W hb => by
    rw [hP]; have := hPar p W hb (by omega) hok.exp; rw [hP] at this; exact this
  have HP2 : Hid (∀ W : World, Below w.heap.size w W → Calls Tryz.prog 5 #[.string SH] W fun e w' => e = .returned (.tuple #[.agg (shpC c P d sc sg n), .int .i64 0]) ∧ Below W.heap.size W w') := fun W hb => by
    rw [hSH]; exact hPar (Pic.shoL p) W hb (by have := sho_6 _ p (Nat.le_refl _) (by omega); omega) (exp_sho p p hok.exp)
  have HP3 : Hid (∀ (W : World) (NB : ByteArray), NB = mk (Pic.nmb p) → Below w.heap.size w W → Calls Tryz.prog 5 #[.string NB] W fun e w' => e = .returned (.tuple #[.agg (shpC c P d sc sg n), .int .i64 0]) ∧ Below W.heap.size W w') := fun W NB hNB hb => by
    rw [hNB]; exact hPar (Pic.nmb p) W hb (by rw [Pic.nmb_len]; omega) (Pic.exp_nmb p hok.exp)
  have HSHO : Hid (∀ W : World, Below w.heap.size w W → Calls Tryz.prog 6 #[.string P] W fun e w' => e = .returned (.tuple #[.string SH, .int .i64 0]) ∧ Below W.heap.size W w') := fun W hb => by
    have := Short_c (mk p) W (by rw [mk_size]; omega) (he.below hb)
    rw [show (mk p).data.toList = p from rfl, hok.exp] at this
    rw [hP, hSH]; exact this
  have HIT : Hid (∀ W : World, Below w.heap.size w W → Calls Tryz.prog 7 #[.int .i64 1] W fun e w' => e = .returned (.string ⟨#[49]⟩) ∧ Below W.heap.size W w') := fun W hb => by
    have := Itoa_c 1 W (by omega) (he.below hb)
    rw [show mk (Lib.decDigits 1) = ⟨#[49]⟩ by rw [Lib.decDigits]; rfl] at this
    exact this
  have HCK : Hid (∀ W : World, Below w.heap.size w W → Calls Tryz.prog 9 #[.agg (shpC c P d sc sg n)] W fun e w' => e = .returned (.int .i64 0) ∧ Below W.heap.size W w') := fun W hb => by
    have := Check_c p x W hok (he.below hb)
    rw [hV] at this
    exact this
  have hd18 : d ≤ 18 := by have := hok.few; omega
  have hsc18 : (c == 4) = true → sc ≤ 18 := fun h => by
    rw [hsc, hx]
    exact shP_scl K Wh S G F bs (by rw [← hx]; have := eq_of_beq h; omega)
  have HPM := hide hP
  have HSC := hide hsc18
  clear hP hc hd hsc hsg hn hV hok hp hx hPar hSH hsl hbl hcap hG hF he hsc18
  obtain ⟨W0, hW0⟩ : ∃ W0, W0 = w.alloc (.cells (prtA K Wh S G F (.slice A bs.length cap)) 24) := ⟨_, rfl⟩
  have HBW0 : Hid (Below w.heap.size w W0) := by unfold Hid; rw [hW0]; exact below1 w _
  have HX0 : Hid (PrB W0 w.heap.size K Wh S G F (.slice A bs.length cap)) := by unfold Hid; rw [hW0]; exact heap_alloc_new w _
  unfold prtA at hW0
  have HW0 := hide hW0
  clear hW0
  unfold prtA
  go_enter Tryz.func3, Tryz.ntmps3
  go_upto_region 1 with fail
  with_reducible rw [← HW0.out]
  clear HW0
  have hl0 : w.heap.size < W0.heap.size := (Array.getElem?_eq_some_iff.1 HX0.out).1
  go_wp2_with (refine wpList_load_row rfl 24 _ rfl w.heap.size rfl 24 _ (0, 0) _ HX0.out Tryz.underlying24 rfl (prt_info _ _ _ _ _ _) ?_)
  refine (HOF0.out _ HBW0.out).mono ?_
  rintro e w1 ⟨rfl, hb1⟩
  clear hl0 HX0 HOF0
  have HZ1 : Hid (ShpB (w1.alloc (.cells #[.int .u8 0, .int .u8 0, .string ⟨#[]⟩, .int .i64 0, .int .i64 0, .bool false, .bool false, .bool false, .bool false, .bool false, .int .i64 0] 28)) w1.heap.size (shpC 0 ⟨#[]⟩ 0 0 false 0)) := heap_alloc_new w1 _
  obtain ⟨B4, hB4⟩ : ∃ B4, B4 = w1.heap.size := ⟨_, rfl⟩
  obtain ⟨W1, hW1⟩ : ∃ W1, W1 = (w1.alloc (.cells #[.int .u8 0, .int .u8 0, .string ⟨#[]⟩, .int .i64 0, .int .i64 0, .bool false, .bool false, .bool false, .bool false, .bool false, .int .i64 0] 28)).setRow w1.heap.size (shpC c P d sc sg n) := ⟨_, rfl⟩
  have hbs : Below w1.heap.size w1 W1 := by rw [hW1]; exact below_setRow (below1 w1 _) (Nat.le_refl _) _
  have hbt : Below W0.heap.size W0 W1 := hb1.trans (hbs.mono hb1.size)
  have HB1 : Hid (Below w.heap.size w W1) := HBW0.out.trans (hbt.mono HBW0.out.size)
  have HS1 : Hid (ShpB W1 B4 (shpC c P d sc sg n)) := by unfold Hid; rw [hW1, hB4]; exact HZ1.out.set _
  clear hb1 hbs hbt
  go_upto_region 2 with (refine wpList_store_row rfl 28 _ _ rfl w1.heap.size (shpC c P d sc sg n) rfl rfl 28 _ HZ1.out (shp_info _ _ _ _ _ _) rfl (shp_one _ _ _ _ _ _) ?_)
  with_reducible rw [← hW1]
  rw [← hB4]
  clear hW1 hB4 HZ1
  go_wp2_with fail
  refine (HP1.out _ HB1.out).mono ?_
  rintro e w2 ⟨rfl, hb2⟩
  have HZ2 : Hid (ShpB (w2.alloc (.cells #[.int .u8 0, .int .u8 0, .string ⟨#[]⟩, .int .i64 0, .int .i64 0, .bool false, .bool false, .bool false, .bool false, .bool false, .int .i64 0] 28)) w2.heap.size (shpC 0 ⟨#[]⟩ 0 0 false 0)) := heap_alloc_new w2 _
  obtain ⟨B5, hB5⟩ : ∃ B5, B5 = w2.heap.size := ⟨_, rfl⟩
  obtain ⟨W2, hW2⟩ : ∃ W2, W2 = (w2.alloc (.cells #[.int .u8 0, .int .u8 0, .string ⟨#[]⟩, .int .i64 0, .int .i64 0, .bool false, .bool false, .bool false, .bool false, .bool false, .int .i64 0] 28)).setRow w2.heap.size (shpC c P d sc sg n) := ⟨_, rfl⟩
  have hbs : Below w2.heap.size w2 W2 := by rw [hW2]; exact below_setRow (below1 w2 _) (Nat.le_refl _) _
  have hbt : Below W1.heap.size W1 W2 := hb2.trans (hbs.mono hb2.size)
  have HB2 : Hid (Below w.heap.size w W2) := HB1.out.trans (hbt.mono HB1.out.size)
  have HS2 : Hid (ShpB W2 B5 (shpC c P d sc sg n)) := by unfold Hid; rw [hW2, hB5]; exact HZ2.out.set _
  have HA2 := hide (HS1.out.below hbt)
  clear hb2 hbs hbt
  go_upto_region 3 with (refine wpList_store_row rfl 28 _ _ rfl w2.heap.size (shpC c P d sc sg n) rfl rfl 28 _ HZ2.out (shp_info _ _ _ _ _ _) rfl (shp_one _ _ _ _ _ _) ?_)
  with_reducible rw [← hW2]
  rw [← hB5]
  clear hW2 hB5 HZ2
  go_wp2_with fail
  refine (HSHO.out _ HB2.out).mono ?_
  rintro e w3 ⟨rfl, hb3⟩
  have HBw3 := hide (HB2.out.trans (hb3.mono HB2.out.size))
  have HA3 := hide (HA2.out.below hb3)
  have HG3 := hide (HS2.out.below hb3)
  clear hb3 HA2 HS2
  go_wp2_with fail
  refine (HP2.out _ HBw3.out).mono ?_
  rintro e w4 ⟨rfl, hb4⟩
  have HZ4 : Hid (ShpB (w4.alloc (.cells #[.int .u8 0, .int .u8 0, .string ⟨#[]⟩, .int .i64 0, .int .i64 0, .bool false, .bool false, .bool false, .bool false, .bool false, .int .i64 0] 28)) w4.heap.size (shpC 0 ⟨#[]⟩ 0 0 false 0)) := heap_alloc_new w4 _
  obtain ⟨B9, hB9⟩ : ∃ B9, B9 = w4.heap.size := ⟨_, rfl⟩
  obtain ⟨W4, hW4⟩ : ∃ W4, W4 = (w4.alloc (.cells #[.int .u8 0, .int .u8 0, .string ⟨#[]⟩, .int .i64 0, .int .i64 0, .bool false, .bool false, .bool false, .bool false, .bool false, .int .i64 0] 28)).setRow w4.heap.size (shpC c P d sc sg n) := ⟨_, rfl⟩
  have hbs : Below w4.heap.size w4 W4 := by rw [hW4]; exact below_setRow (below1 w4 _) (Nat.le_refl _) _
  have hbt : Below w3.heap.size w3 W4 := hb4.trans (hbs.mono hb4.size)
  have HB4 : Hid (Below w.heap.size w W4) := HBw3.out.trans (hbt.mono HBw3.out.size)
  have HS4 : Hid (ShpB W4 B9 (shpC c P d sc sg n)) := by unfold Hid; rw [hW4, hB9]; exact HZ4.out.set _
  have HA4 := hide (HA3.out.below hbt)
  have HG4 := hide (HG3.out.below hbt)
  clear hb4 hbs hbt
  go_upto_region 5 with (refine wpList_store_row rfl 28 _ _ rfl w4.heap.size (shpC c P d sc sg n) rfl rfl 28 _ HZ4.out (shp_info _ _ _ _ _ _) rfl (shp_one _ _ _ _ _ _) ?_)
  with_reducible rw [← hW4]
  rw [← hB9]
  clear hW4 hB9 HZ4
  go_wp2_with fail
  clear HP1 HSHO HP2 HA3 HG3 HBw3
  go_loopw [11, 12] (fun nv iv wr => ∃ i : Nat, nv = .string (mk (Pic.nmb (p.take i))) ∧ iv = .int .i64 (i : Int) ∧ i ≤ p.length ∧ Hid (Below W4.heap.size W4 wr)) (fun _ iv _ => 100 - (intOf iv).toNat)
  case atStart => exact ⟨0, rfl, rfl, by omega, Below.refl _ _⟩
  case round =>
    obtain ⟨i, rfl, rfl, hi, hb⟩ := hrel
    obtain ⟨W, rfl⟩ : ∃ W, W = wr := ⟨_, rfl⟩
    have HBW : Hid (Below w.heap.size w W) := HB4.out.trans (hb.out.mono HB4.out.size)
    obtain ⟨N, hN⟩ : ∃ N, N = mk (Pic.nmb (p.take i)) := ⟨_, rfl⟩
    have hNs : N.size ≤ 240 := by rw [hN, mk_size, Pic.nmb_len, List.length_take]; omega
    rw [← hN]
    by_cases hlt : i < p.length
    · have hlt2 : i < P.size := by rw [hPs]; exact hlt
      obtain ⟨q, hq⟩ : ∃ q, p[i]? = some q := ⟨p[i], List.getElem?_eq_getElem hlt⟩
      have HEXT : Hid (P.extract i (i + 1) = mk [q]) := by
        unfold Hid
        rw [HPM.out, extract_mk, show (mk p).data.toList = p from rfl, show i + 1 - i = 1 by omega, List.drop_eq_getElem_cons hlt]
        congr 1
        rw [List.take_succ_cons, List.take_zero]
        congr 1
        exact (List.getElem?_eq_some_iff.1 hq).2
      have hsn : p.take (i + 1) = p.take i ++ [q] := by
        rw [List.take_succ_eq_append_getElem hlt]
        congr 2
        exact (List.getElem?_eq_some_iff.1 hq).2
      have hXs : (P.extract i (i + 1)).size = 1 := by rw [HEXT.out]; rfl
      have HQ : Hid (N ++ P.extract i (i + 1) ++ ⟨#[40]⟩ ++ ⟨#[49]⟩ ++ ⟨#[41]⟩ = mk (Pic.nmb (p.take (i + 1)))) := by
        unfold Hid
        rw [hN, HEXT.out, hsn, nmb_snoc, show (⟨#[40]⟩ : ByteArray) = mk [40] from rfl, show (⟨#[49]⟩ : ByteArray) = mk [49] from rfl, show (⟨#[41]⟩ : ByteArray) = mk [41] from rfl, mk_app, mk_app, mk_app, mk_app]
        simp
      have n1 := fun wx : World => run_string_add_sum (P := Tryz.prog) wx N (P.extract i (i + 1)) (by omega)
      have n2 := fun wx : World => run_string_add_sum (P := Tryz.prog) wx (N ++ P.extract i (i + 1)) ⟨#[40]⟩ (by rw [ByteArray.size_append]; show N.size + (P.extract i (i + 1)).size + 1 ≤ _; omega)
      have n3 := fun wx : World => run_string_add_sum (P := Tryz.prog) wx (N ++ P.extract i (i + 1) ++ ⟨#[40]⟩) ⟨#[49]⟩ (by rw [ByteArray.size_append, ByteArray.size_append]; show N.size + (P.extract i (i + 1)).size + 1 + 1 ≤ _; omega)
      have n4 := fun wx : World => run_string_add_sum (P := Tryz.prog) wx (N ++ P.extract i (i + 1) ++ ⟨#[40]⟩ ++ ⟨#[49]⟩) ⟨#[41]⟩ (by rw [ByteArray.size_append, ByteArray.size_append, ByteArray.size_append]; show N.size + (P.extract i (i + 1)).size + 1 + 1 + 1 ≤ _; omega)
      have HITW := hide (HIT.out W.drew HBW.out.drew)
      have hwr : IntKind.i64.wrap ((i : Int) + 1) = (i : Int) + 1 := IntWalk.i64_in _ (by omega)
      have htn : ((i : Int) + 1).toNat = i + 1 := by omega
      have hI1 : (i : Int) + 1 ≤ (p.length : Int) := by omega
      have hI2 : (i : Int) ≤ (i : Int) + 1 := by omega
      have hI3 : (0 : Int) ≤ (i : Int) + 1 := by omega
      clear hN hq hsn
      go_upto_region 9 with fail
      go_region_with (go_at_call 7; refine HITW.out.mono ?_; rintro e w9 ⟨rfl, hb9⟩)
      have hb9' : Hid (Below W4.heap.size W4 w9) := hb.out.drew.trans (hb9.mono hb.out.drew.size)
      go_wp2_with fail
      exact ⟨⟨i + 1, by rw [HQ.out], by first | rfl | go_num | trivial, by omega, hb9'.out⟩, by simp [intOf]; omega⟩
    · obtain rfl : i = p.length := by omega
      have HNB : Hid (N = mk (Pic.nmb p)) := by unfold Hid; rw [hN, List.take_length]
      have hnl : ¬ p.length < P.size := by omega
      have HA5 := hide (HA4.out.below hb.out)
      have HG5 := hide (HG4.out.below hb.out)
      have HS5 := hide (HS4.out.below hb.out)
      clear hN hb hlt hi
      go_wp2_with fail
      refine (HP3.out _ N HNB.out HBW.out).mono ?_
      rintro e w6 ⟨rfl, hb6⟩
      have HZ7 : Hid (ShpB (w6.alloc (.cells #[.int .u8 0, .int .u8 0, .string ⟨#[]⟩, .int .i64 0, .int .i64 0, .bool false, .bool false, .bool false, .bool false, .bool false, .int .i64 0] 28)) w6.heap.size (shpC 0 ⟨#[]⟩ 0 0 false 0)) := heap_alloc_new w6 _
      obtain ⟨BD, hBD⟩ : ∃ BD, BD = w6.heap.size := ⟨_, rfl⟩
      obtain ⟨W7, hW7⟩ : ∃ W7, W7 = (w6.alloc (.cells #[.int .u8 0, .int .u8 0, .string ⟨#[]⟩, .int .i64 0, .int .i64 0, .bool false, .bool false, .bool false, .bool false, .bool false, .int .i64 0] 28)).setRow w6.heap.size (shpC c P d sc sg n) := ⟨_, rfl⟩
      have hbs : Below w6.heap.size w6 W7 := by rw [hW7]; exact below_setRow (below1 w6 _) (Nat.le_refl _) _
      have hbt : Below W.heap.size W W7 := hb6.trans (hbs.mono hb6.size)
      have HB7 : Hid (Below w.heap.size w W7) := HBW.out.trans (hbt.mono HBW.out.size)
      have HS7 : Hid (ShpB W7 BD (shpC c P d sc sg n)) := by unfold Hid; rw [hW7, hBD]; exact HZ7.out.set _
      have HA6 := hide (HA5.out.below hbt)
      have HG6 := hide (HG5.out.below hbt)
      have HS6 := hide (HS5.out.below hbt)
      clear hb6 hbs hbt
      go_upto_region 11 with (refine wpList_store_row rfl 28 _ _ rfl w6.heap.size (shpC c P d sc sg n) rfl rfl 28 _ HZ7.out (shp_info _ _ _ _ _ _) rfl (shp_one _ _ _ _ _ _) ?_)
      with_reducible rw [← hW7]
      rw [← hBD]
      clear hW7 hBD HZ7
      have c3 := (HA6.out.cells).2.2.2.1
      have c0 := (HA6.out.cells).1
      have c4 := (HA6.out.cells).2.2.2.2.1
      have hlA := HA6.out.lt
      have dd18 : decide ((18 : Int) < d) = false := decide_eq_false (by omega)
      clear HP3 HIT
      go_cut [69] (fun s69 wx => s69 = .bool false ∧ W7 = wx)
      case first =>
        cases h4 : (c == 4) with
        | false =>
          go_wp2_with fail
          go_meet
          exact ⟨rfl, rfl⟩
        | true =>
          have hs18 := HSC.out h4
          have ds18 : decide ((18 : Int) < sc) = false := decide_eq_false (by omega)
          go_wp2_with fail
          go_meet
          exact ⟨rfl, rfl⟩
      case rest =>
        obtain ⟨rfl, rfl⟩ := hcut
        clear c3 c0 c4 dd18 hlA
        have l4 := HA6.out.lt
        have l5 := HG6.out.lt
        have l9 := HS6.out.lt
        have ld := HS7.out.lt
        clear HBW0 HB1 HS1 HB2 HB4 HS4 HA4 HG4 HBW HA5 HG5 HS5 hNs HNB hnl HSC
        obtain ⟨x0, x1, x2, x3, x4, x5, x6, x7, x8, x9, x10⟩ := HA6.out.cells
        obtain ⟨y0, y1, y2, y3, y4, y5, y6, y7, y8, y9, y10⟩ := HG6.out.cells
        obtain ⟨z0, z1, z2, z3, z4, z5, z6, z7, z8, z9, z10⟩ := HS6.out.cells
        obtain ⟨v0, v1, v2, v3, v4, v5, v6, v7, v8, v9, v10⟩ := HS7.out.cells
        go_wp2_with fail
        clear x0 x1 x2 x3 x4 x5 x6 x7 x8 x9 x10 y0 y1 y2 y3 y4 y5 y6 y7 y8 y9 y10 z0 z1 z2 z3 z4 z5 z6 z7 z8 z9 z10 v0 v1 v2 v3 v4 v5 v6 v7 v8 v9 v10
        refine (HCK.out _ HB7.out).mono ?_
        rintro e w8 ⟨rfl, hb8⟩
        have HB8 := hide (HB7.out.trans (hb8.mono HB7.out.size))
        clear hb8 HCK
        go_wp2_with fail
        refine (HLv.out _ HB8.out).mono ?_
        rintro e w9 ⟨rfl, hb9⟩
        go_wp2_with fail
        go_ret
        exact ⟨rfl, HB8.out.trans (hb9.mono HB8.out.size)⟩
end Go.Proofs.YteceealibfemjaaGreatDoor
