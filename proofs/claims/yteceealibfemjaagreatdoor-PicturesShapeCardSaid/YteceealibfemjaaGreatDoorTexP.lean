/-
  CONTRACT of text (layer 6, pictures).
-/
import Derived.Test.YteceealibfemjaaGreatDoorShpP
namespace Go.Proofs.YteceealibfemjaaGreatDoor
open Go.RowKit Go.Shelf

theorem cat_small (c : UInt8) : catOf c ≤ 3 := by
  unfold catOf
  cases h : symF c with
  | none => simp
  | some x =>
    have hm := List.mem_of_find?_eq_some h
    have : ∀ y ∈ symT, y.2.1 ≤ 3 := by decide
    exact this x hm
theorem maxCat_snoc (l : List UInt8) (c : UInt8) : Pic.maxCat (l ++ [c]) = max (Pic.maxCat l) (catOf c) := by unfold Pic.maxCat; rw [List.foldl_append]; rfl
theorem maxCat_small (l : List UInt8) : Pic.maxCat l ≤ 3 := by
  suffices H : ∀ r : List UInt8, Pic.maxCat r.reverse ≤ 3 by
    have := H l.reverse
    rwa [List.reverse_reverse] at this
  intro r
  induction r with
  | nil => decide
  | cons c r ih =>
    rw [List.reverse_cons, maxCat_snoc]
    have := cat_small c
    omega
theorem cat_ascii (c : UInt8) (h : catOf c ≠ 0) : c.toNat < 128 := by
  unfold catOf at h
  cases hF : symF c with
  | none => rw [hF] at h; exact absurd rfl h
  | some x =>
    have hm := List.mem_of_find?_eq_some hF
    have he := List.find?_some hF
    simp only [beq_iff_eq] at he
    have : ∀ y ∈ symT, y.1.toNat < 128 := by decide
    rw [← he]; exact this x hm
/-- the category so far -/
def CatAt (b : Nat) (pre : List UInt8) (w : World) : Prop := SymW w ∧ w.heap[b]? = some (.cells #[.int .u8 (Pic.maxCat pre : Int)] 25 (0, 0))
theorem leadN_all (p : UInt8 → Bool) (l : List UInt8) (h : l.length ≤ Pic.leadN p l) (j : Nat) (hj : j < l.length) : p l[j] = true := by
  induction l generalizing j with
  | nil => simp at hj
  | cons c r ih =>
    unfold Pic.leadN at h
    cases hc : p c with
    | false => rw [if_neg (by rw [hc]; simp)] at h; simp at h
    | true =>
      rw [if_pos hc] at h
      simp only [List.length_cons] at h
      cases j with
      | zero => exact hc
      | succ j => simpa using ih (by omega) j (by simpa using hj)
set_option maxRecDepth 100000 in
set_option maxHeartbeats 1000000 in
theorem text1_c (b : Nat) (hbg : b ≠ 0) : PredR 27 #[.pointer (some ⟨b, 0, none⟩)] (fun c => catOf c != 0) (fun j => j = b) (CatAt b) := by
  refine ⟨enters_of Tryz.func27 (by kernel_rfl) rfl, ?_⟩
  intro pre c W ⟨hs, hb⟩
  obtain ⟨m, hm⟩ : ∃ m, m = Pic.maxCat pre := ⟨_, rfl⟩
  obtain ⟨k, hk⟩ : ∃ k, k = catOf c := ⟨_, rfl⟩
  obtain ⟨M, hM⟩ : ∃ M, M = Pic.maxCat (pre ++ [c]) := ⟨_, rfl⟩
  have hMx : max (m : Int) (k : Int) = (M : Int) := by rw [hM, maxCat_snoc, hm, hk]; omega
  have hm3 : m ≤ 3 := by rw [hm]; exact maxCat_small _
  have hk3 : k ≤ 3 := by rw [hk]; exact cat_small _
  obtain ⟨a, i, hV⟩ : ∃ a i, symV c = .agg #[.int .u8 a, .int .u8 (k : Int), .bool i] := ⟨_, _, by rw [hk]; rfl⟩
  have HF := hide (find_c c W hs)
  rw [hV] at HF
  have hfd : ∀ W, (Instr.field 59 (.agg #[.int .u8 a, .int .u8 (k : Int), .bool i]) 1).run Tryz.prog W = .ok (.int .u8 (k : Int)) W := fun _ => by kernel_rfl
  rw [← hm] at hb
  have HB := hide hb
  have HS := hide hs
  have HMX := hide hMx
  have HM := hide hM
  have hkb : ((k : Int) != 0) = (k != 0) := by
    cases h : (k != 0) with
    | true => rw [bne_iff_ne] at h ⊢; omega
    | false =>
      rw [bne_eq_false_iff_eq] at h
      rw [h]; rfl
  have HKB := hide hkb
  have HK := hide hk
  have HG := hide hbg
  clear hs hb hm hk hM hV hMx hkb hbg
  show Calls Tryz.prog 27 #[.int .u8 (c.toNat : Int), .pointer (some ⟨b, 0, none⟩)] W _
  go_enter Tryz.func27, Tryz.ntmps27
  go_wp2_with fail
  refine HF.out.mono ?_
  rintro e w1 ⟨rfl, hb1⟩
  have hlt : b < W.heap.size := (Array.getElem?_eq_some_iff.1 HB.out).1
  have hblk : w1.heap[b]? = some (.cells #[.int .u8 (m : Int)] 25 (0, 0)) := (hb1.block b hlt).trans HB.out
  have c0 := cell_of_row w1 b 0 _ _ _ hblk
  have f0 := frozen_of_row w1 b 0 _ _ hblk
  have HBK := hide hblk
  have HB1 := hide hb1
  have hlt1 : b < w1.heap.size := Nat.lt_of_lt_of_le hlt hb1.size
  clear hb1 hblk
  go_wp2_with fail
  go_ret
  refine ⟨ret_bool ?_, ⟨?_, ?_⟩, ?_⟩
  · show ((k : Int) != 0) = (catOf c != 0)
    rw [HKB.out, HK.out]
  · refine SymW.mods (M := fun j => j = b) (HS.out.below HB1.out) ((Mods.refl _ w1).set b 0 _ (fun _ => rfl)) (fun e => HG.out e.symm)
  · rw [heap_setCell_same w1 b 0 _ _ _ HBK.out, ← HM.out, ← HMX.out]; rfl
  · exact ((Mods.of_below HB1.out).weak (M' := fun j => j = b) (fun _ _ h => h.elim)).set b 0 _ (fun _ => rfl)
set_option maxRecDepth 100000 in
set_option maxHeartbeats 4000000 in
theorem text_c (s : ByteArray) (w : World) (hs : s.size ≤ 1000) (he : EnvP w) :
    Calls Tryz.prog 14 #[.string s] w (FrmPost (Pic.texL s.data.toList) w) := by
  obtain ⟨l, hl⟩ : ∃ l, l = s.data.toList := ⟨_, rfl⟩
  rw [← hl]
  have hls : l.length = s.size := by rw [hl, len_data]
  have hgl : 0 < w.heap.size := by obtain ⟨t, fr, h⟩ := he.sym; exact (Array.getElem?_eq_some_iff.1 h).1
  obtain ⟨W0, hW0⟩ : ∃ W0, W0 = w.alloc (.cells (shpC 0 ⟨#[]⟩ 0 0 false 0) 28) := ⟨_, rfl⟩
  have hb0 : Below w.heap.size w W0 := by rw [hW0]; exact below1 w _
  have hz0 : W0.heap.size = w.heap.size + 1 := by rw [hW0]; simp
  have hk0 : ShpB W0 w.heap.size (shpC 0 ⟨#[]⟩ 0 0 false 0) := by rw [hW0]; exact heap_alloc_new w _
  obtain ⟨W1, hW1⟩ : ∃ W1, W1 = W0.alloc (.cells #[.int .u8 0] 25) := ⟨_, rfl⟩
  have hb1 : Below W0.heap.size W0 W1 := by rw [hW1]; exact below1 W0 _
  have hz1 : W1.heap.size = W0.heap.size + 1 := by rw [hW1]; simp
  have hc1 : W1.heap[W0.heap.size]? = some (.cells #[.int .u8 0] 25 (0, 0)) := by rw [hW1]; exact heap_alloc_new W0 _
  obtain ⟨cap, C, hcap, hconv, hrow⟩ := row_of_string W1 s
  obtain ⟨W2, hW2⟩ : ∃ W2, W2 = W1.drew.alloc (.cells C 5 (C.size, C.size + 1)) := ⟨_, rfl⟩
  have hb2 : Below W1.heap.size W1 W2 := by rw [hW2]; exact (Below.refl _ W1).drew.alloc (Nat.le_refl _) _
  have hr2 : RowAt W2 W1.heap.size 0 l := by rw [hW2, hl]; exact hrow.at'
  rw [← hW2] at hconv
  have hk2 : ShpB W2 w.heap.size (shpC 0 ⟨#[]⟩ 0 0 false 0) := (hk0.below hb1).below hb2
  have hc2 : W2.heap[W0.heap.size]? = some (.cells #[.int .u8 0] 25 (0, 0)) := (hb2.block _ (by omega)).trans hc1
  have hbb2 : Below w.heap.size w W2 := (hb0.trans (hb1.mono hb0.size)).trans (hb2.mono (by omega))
  have hsy2 : SymW W2 := he.sym.below hbb2
  have hlt2 : W1.heap.size < W2.heap.size := hr2.1
  have hlead := leading_c _ _ _ _ _ (text1_c W0.heap.size (by omega)) (some ⟨W1.heap.size, 0, none⟩) cap W2.heap.size l W2 (by omega) hr2.sl (Nat.le_refl _) (fun a ha => by injection ha with ha; subst ha; show ¬ (W1.heap.size = W0.heap.size); omega) (by show ¬ (W2.heap.size = W0.heap.size); omega)
    (fun o => ⟨hsy2.below (below1 W2 o), (heap_alloc_old W2 o (by omega)).trans hc2⟩)
  obtain ⟨n, hn⟩ : ∃ n, n = Pic.leadN (fun c => catOf c != 0) l := ⟨_, rfl⟩
  have hnl : n ≤ l.length := by rw [hn]; exact Pic.leadN_le _ _
  rw [← hn, hls] at hlead
  have hX : Pic.texL l = if (decide (n < s.size) || !Lib.containsAny l [65, 88]) = true then none else some ⟨Pic.maxCat l, 0, 0, false, s.size⟩ := by
    unfold Pic.texL Pic.texB; rw [hn, hls]
  have hasc : n = l.length → ∀ (j : Nat) (b : UInt8), l[j]? = some b → b.toNat < 128 := fun hnn j b hj => by
    obtain ⟨hjl, hje⟩ := List.getElem?_eq_some_iff.1 hj
    apply cat_ascii
    intro h0
    have := leadN_all (fun c => catOf c != 0) l (by omega) j hjl
    rw [hje, h0] at this; cases this
  have HX := hide hX
  have HL := hide hlead
  have HCO := hide hconv
  have HB2 := hide hbb2
  have HK2 := hide hk2
  have HAS := hide hasc
  have HLS := hide hls
  have HLD := hide hl
  have HE := hide he
  obtain ⟨t, ht⟩ : ∃ t, t = Lib.containsAny l [65, 88] := ⟨_, rfl⟩
  have HCN : Hid (n = l.length → ∀ W, Calls Tryz.prog 28 #[.string s, .string ⟨#[65, 88]⟩] W fun e w' => e = .returned (.bool t) ∧ Below W.heap.size W w') := fun hnn W => by
    have := Tryz.strings_ContainsAny_laid s ⟨#[65, 88]⟩ W (by omega) (by show 2 < 4294967281; omega) (by rw [← hl]; exact hasc hnn) (fun j b hj => by
      have hm := List.mem_of_getElem? hj
      have : ∀ x ∈ (⟨#[65, 88]⟩ : ByteArray).data.toList, x.toNat < 128 := by decide
      exact this b hm)
    rw [← hl, show (⟨#[65, 88]⟩ : ByteArray).data.toList = [65, 88] from rfl, ← ht] at this
    exact this
  rw [← ht] at hX
  have HX := hide hX
  have hz0' : w.heap.size + 1 = W0.heap.size := hz0.symm
  have HZ0 : Hid (w.heap.size < W0.heap.size) := by unfold Hid; omega
  unfold shpC at hW0
  have HZ := hide hz0'
  have HZ1 := hide hz1
  have HW0 := hide hW0
  have HW1 := hide hW1
  clear HX hz0' hz1 hW0 hW1
  have HX := hide hX
  clear hX hlead hbb2 hk2 hasc hl hls he hr2 hc2 hk0 hc1 hrow hcap hsy2 hlt2 hgl ht hz0 hn HAS HLD
  go_enter Tryz.func14, Tryz.ntmps14
  go_upto_region 3 with fail
  with_reducible rw [← HW0.out]
  with_reducible rw [← HW1.out]
  with_reducible rw [HZ.out]
  clear HW0 HW1 hW2 hb0 hb1 hb2 HZ
  go_wp2_with fail
  refine HL.out.mono ?_
  rintro e W3 ⟨rfl, ⟨pre, hpre, hR3⟩, hm3⟩
  have hgt : w.heap.size ≠ W0.heap.size := by have := HZ0.out; omega
  have HK3 : Hid (ShpB W3 w.heap.size (shpC 0 ⟨#[]⟩ 0 0 false 0)) := (hm3.block _ HK2.out.lt hgt).trans HK2.out
  have HB3 : Hid (Below w.heap.size w W3) := HB2.out.trans (hm3.toBelow HB2.out.size (fun j hj e => by have := HZ0.out; omega))
  clear HL HK2 HB2 hm3 HCO hconv
  by_cases hnl2 : n = l.length
  · have hcat : W3.heap[W0.heap.size]? = some (.cells #[.int .u8 (Pic.maxCat l : Int)] 25 (0, 0)) := by
      have := hR3.2
      rw [hpre, hnl2, List.take_of_length_le (by omega)] at this
      exact this
    have HCA := hide hcat
    have hns : ((n : Int) < (s.size : Int)) = False := by rw [hnl2]; have := HLS.out; simp; omega
    have hnd : decide ((n : Int) < (s.size : Int)) = false := by rw [decide_eq_false_iff_not, hns]; exact fun h => h
    have hx2 : decide (n < s.size) = false := decide_eq_false (by have := HLS.out; omega)
    have HX2 : Hid (Pic.texL l = if (!t) = true then none else some ⟨Pic.maxCat l, 0, 0, false, s.size⟩) := by unfold Hid; rw [HX.out, hx2]; rfl
    have HCN2 := hide (HCN.out hnl2)
    clear hR3 hpre hcat hns hnd HX HCN hnl2
    go_wp2_with fail
    refine (HCN2.out _).mono ?_
    rintro e W4 ⟨rfl, hb4⟩
    have HK4 := hide (HK3.out.below hb4)
    have HB4 := hide (HB3.out.trans (hb4.mono HB3.out.size))
    have hcb : W4.heap[W0.heap.size]? = some (.cells #[.int .u8 (Pic.maxCat l : Int)] 25 (0, 0)) := (hb4.block _ (Array.getElem?_eq_some_iff.1 HCA.out).1).trans HCA.out
    have c0 := cell_of_row W4 W0.heap.size 0 _ _ _ hcb
    clear hb4 hcb
    cases t with
    | false =>
      have HX3 : Hid (Pic.texL l = none) := by unfold Hid; rw [HX2.out]; rfl
      clear HX2
      go_wp2_with (refine wpList_store_row rfl 28 _ _ rfl w.heap.size (shpC 0 ⟨#[]⟩ 0 0 false 0) rfl rfl 28 _ HK4.out (shp_info _ _ _ _ _ _) rfl (shp_one _ _ _ _ _ _) ?_)
      obtain ⟨W5, hW5⟩ : ∃ W5, W5 = W4.setRow w.heap.size (shpC 0 ⟨#[]⟩ 0 0 false 0) := ⟨_, rfl⟩
      have hsh : ShpB W5 w.heap.size (shpC 0 ⟨#[]⟩ 0 0 false 0) := by rw [hW5]; exact HK4.out.set _
      obtain ⟨d0, d1, d2, d3, d4, d5, d6, d7, d8, d9, d10⟩ := hsh.cells
      have HB5 : Hid (Below w.heap.size w W5) := by unfold Hid; rw [hW5]; exact below_setRow HB4.out (Nat.le_refl _) _
      with_reducible rw [← hW5]
      clear hW5
      refine bodyPost_ret (v := .tuple #[.agg (shpC 0 ⟨#[]⟩ 0 0 false 0), .bool false]) (by simp [results, Tryz.results14, go_sem, d0, d1, d2, d3, d4, d5, d6, d7, d8, d9, d10, shpC]) rfl ⟨?_, HB5.out⟩
      rw [HX3.out]; rfl
    | true =>
      have HX3 : Hid (Pic.texL l = some ⟨Pic.maxCat l, 0, 0, false, s.size⟩) := by unfold Hid; rw [HX2.out]; rfl
      clear HX2
      go_wp2_with (refine wpList_store_row rfl 28 _ _ rfl w.heap.size (shpC (Pic.maxCat l : Int) ⟨#[]⟩ 0 0 false (s.size : Int)) rfl rfl 28 _ HK4.out (shp_info _ _ _ _ _ _) rfl (shp_one _ _ _ _ _ _) ?_)
      obtain ⟨W5, hW5⟩ : ∃ W5, W5 = W4.setRow w.heap.size (shpC (Pic.maxCat l : Int) ⟨#[]⟩ 0 0 false (s.size : Int)) := ⟨_, rfl⟩
      have hsh : ShpB W5 w.heap.size (shpC (Pic.maxCat l : Int) ⟨#[]⟩ 0 0 false (s.size : Int)) := by rw [hW5]; exact HK4.out.set _
      obtain ⟨d0, d1, d2, d3, d4, d5, d6, d7, d8, d9, d10⟩ := hsh.cells
      have HB5 : Hid (Below w.heap.size w W5) := by unfold Hid; rw [hW5]; exact below_setRow HB4.out (Nat.le_refl _) _
      with_reducible rw [← hW5]
      clear hW5
      refine bodyPost_ret (v := .tuple #[.agg (shpC (Pic.maxCat l : Int) ⟨#[]⟩ 0 0 false (s.size : Int)), .bool true]) (by simp [results, Tryz.results14, go_sem, d0, d1, d2, d3, d4, d5, d6, d7, d8, d9, d10, shpC]) rfl ⟨?_, HB5.out⟩
      rw [HX3.out]; rfl
  · have hnd : decide ((n : Int) < (s.size : Int)) = true := decide_eq_true (by have := HLS.out; omega)
    have hx2 : decide (n < s.size) = true := decide_eq_true (by have := HLS.out; omega)
    have HX3 : Hid (Pic.texL l = none) := by unfold Hid; rw [HX.out, hx2]; rfl
    clear hR3 hpre hnd HX HCN hnl2
    go_wp2_with (refine wpList_store_row rfl 28 _ _ rfl w.heap.size (shpC 0 ⟨#[]⟩ 0 0 false 0) rfl rfl 28 _ HK3.out (shp_info _ _ _ _ _ _) rfl (shp_one _ _ _ _ _ _) ?_)
    obtain ⟨W5, hW5⟩ : ∃ W5, W5 = W3.setRow w.heap.size (shpC 0 ⟨#[]⟩ 0 0 false 0) := ⟨_, rfl⟩
    have hsh : ShpB W5 w.heap.size (shpC 0 ⟨#[]⟩ 0 0 false 0) := by rw [hW5]; exact HK3.out.set _
    obtain ⟨d0, d1, d2, d3, d4, d5, d6, d7, d8, d9, d10⟩ := hsh.cells
    have HB5 : Hid (Below w.heap.size w W5) := by unfold Hid; rw [hW5]; exact below_setRow HB3.out (Nat.le_refl _) _
    with_reducible rw [← hW5]
    clear hW5
    refine bodyPost_ret (v := .tuple #[.agg (shpC 0 ⟨#[]⟩ 0 0 false 0), .bool false]) (by simp [results, Tryz.results14, go_sem, d0, d1, d2, d3, d4, d5, d6, d7, d8, d9, d10, shpC]) rfl ⟨?_, HB5.out⟩
    rw [HX3.out]; rfl
end Go.Proofs.YteceealibfemjaaGreatDoor
