/-
  CONTRACTS of shows and lives of law 05 (layer 5, words): the chapter's examples.
-/
import Derived.Test.YthdggnkpncoikaaDoorLitW
import Derived.Test.YthdggnkpncoikaaDoorWdR
namespace Go.Proofs.YthdggnkpncoikaaDoor
open Go.RowKit Go.Shelf

theorem ResPost.ok {r : Except Int FieldR} {f : FieldR} {w w' : World} {e : Ending} (h : ResPost r w e w') (hr : r = .ok f) : ∃ g, e = .returned (.tuple #[fieldV f.c (mk f.pic) f.d f.sc f.sg f.bytes.length (.slice (some ⟨g, 0, none⟩) f.bytes.length f.bytes.length), .int .i64 0]) ∧ w.heap.size ≤ g ∧ Row w' g f.bytes ∧ Below w.heap.size w w' := by
  subst hr
  obtain ⟨c, pic, d, sc, sg, n, A, k, cp, E, rfl, h1, rfl, rfl, rfl, rfl, rfl, rfl, rfl, g, rfl, rfl, rfl, h2, h3⟩ := h
  exact ⟨g, rfl, h2, h3, h1⟩
theorem ResPost.err {r : Except Int FieldR} {E : Int} {w w' : World} {e : Ending} (h : ResPost r w e w') (hr : r = .error E) : e = .returned (.tuple #[fieldZ, .int .i64 E]) ∧ Below w.heap.size w w' := by
  subst hr
  obtain ⟨c, pic, d, sc, sg, n, A, k, cp, E, rfl, h1, rfl, rfl, rfl, rfl, rfl, rfl, rfl, rfl, rfl, rfl⟩ := h
  exact ⟨rfl, h1⟩
theorem mk_sz (l : List UInt8) : (mk l).size = l.length := by show l.toArray.size = _; rw [List.size_toArray]

set_option maxRecDepth 100000 in
set_option maxHeartbeats 2000000 in
theorem shows_t (kd : Int) (s pic b : ByteArray) (f : FieldR) (w : World) (hr : litR kd s.data.toList = .ok f) (hp : mk f.pic = pic) (hb : mk f.bytes = b) (hs : s.size ≤ 1000000) (hl : f.bytes.length ≤ 1000) (hmx : MaxW w) :
    Calls Tryd.prog 44 #[.int .u8 kd, .string s, .string pic, .string b] w fun e w' => e = .returned (.bool true) ∧ Below w.heap.size w w' := by
  have hL := hide ((Literal_r kd s 0 0 false w hs hmx).mono fun e w' h => h.ok hr)
  have hbs : f.bytes.length = b.size := by rw [← hb, mk_sz]
  have HBB : Hid (⟨f.bytes.toArray⟩ = b) := hb
  rw [hbs] at hl
  obtain ⟨l, hl0⟩ : ∃ l, l = f.bytes := ⟨_, rfl⟩
  rw [hp, ← hl0] at hL
  rw [← hl0] at hbs HBB
  rw [hbs] at hL
  have HBS := hide hbs
  clear hr hp hb hbs hl0 hmx
  go_enter Tryd.func44, Tryd.ntmps44
  go_wp2_with fail
  refine hL.out.mono ?_
  rintro e W1 ⟨g, rfl, hg, hrow, hb1⟩
  have hrow2 := hrow.alloc (.cells (shapeV f.c pic f.d f.sc f.sg b.size ++ [Value.slice (some ⟨g, 0, none⟩) b.size b.size]).toArray 49)
  have hconv := hrow2.text b.size b.size HBS.out.symm
  rw [HBB.out] at hconv
  have HB1 := hide (hb1.alloc hb1.size (.cells (shapeV f.c pic f.d f.sc f.sg b.size ++ [Value.slice (some ⟨g, 0, none⟩) b.size b.size]).toArray 49))
  unfold shapeV at hconv
  simp only [List.cons_append, List.nil_append] at hconv
  clear hrow hrow2 hb1 hL
  unfold fieldV shapeV
  go_wp2_with fail
  go_ret
  exact ⟨rfl, HB1.out⟩
theorem lit_0 : litR 2 [45, 49, 46, 53, 48] = .ok ⟨4, [83, 57, 86, 57, 57], 3, 2, true, [49, 53, 125]⟩ := by rfl
theorem lit_1 : litR 1 [65] = .error 11 := by rfl
theorem lit_2 : litR 6 [46] = .error 12 := by rfl
theorem lit_3 : litR 2 [53, 46] = .error 4 := by rfl
theorem sho_0 : litR 2 [48, 48, 55] = .ok ⟨4, [57, 57, 57], 3, 0, false, [48, 48, 55]⟩ := by rfl
theorem sho_1 : litR 2 [43, 46, 53] = .ok ⟨4, [83, 86, 57], 1, 1, true, [69]⟩ := by rfl
theorem sho_2 : litR 3 [65, 66] = .ok ⟨2, [88, 88], 0, 0, false, [65, 66]⟩ := by rfl
theorem sho_3 : litR 1 [90, 69, 82, 79] = .ok ⟨4, [57], 1, 0, false, [48]⟩ := by rfl
theorem sho_4 : litR 1 [72, 73, 71, 72, 45, 86, 65, 76, 85, 69] = .ok ⟨2, [88], 0, 0, false, [255]⟩ := by rfl
theorem cls_0 : classL [77, 79, 86, 69] = 2 := by decide +kernel
theorem cls_1 : classL [84, 79] = 1 := by decide +kernel
theorem cls_2 : classL [83, 80, 65, 67, 69, 83] = 3 := by decide +kernel
theorem cls_3 : classL [84, 79, 84, 65, 76] = 0 := by decide +kernel
theorem cls_4 : classL [109, 111, 118, 101] = 0 := by decide +kernel
theorem Of_t (s : ByteArray) (l : List UInt8) (c : Int) (w : World) (hl : s.data.toList = l) (hc : classL l = c) (hs : s.size ≤ 1000) (hasc : AscS w) :
    Calls Tryd.prog 16 #[.string s] w fun e w' => e = .returned (.int .u8 c) ∧ Below w.heap.size w w' := by
  have := Of_c s w (by unfold maxLen; omega) hasc
  rw [hl, hc] at this
  exact this
theorem Byte_t (s : ByteArray) (l : List UInt8) (n : Int) (b : Bool) (w : World) (hl : s.data.toList = l) (hn : byteN l = n) (hb : byteB l = b) :
    Calls Tryd.prog 43 #[.string s] w fun e w' => e = .returned (.tuple #[.int .u8 n, .bool b]) ∧ w = w' := by
  have := Byte_c s w
  rw [hl, hn, hb] at this
  exact this
set_option maxRecDepth 100000 in
set_option maxHeartbeats 4000000 in
theorem livesW_c (w : World) (hasc : AscS w) (hmx : MaxW w) :
    Calls Tryd.prog 18 #[] w fun e w' => e = .returned (.bool true) ∧ Below w.heap.size w w' := by
  have HB1 := hide (fun W => Byte_t ⟨#[81, 85, 79, 84, 69]⟩ [81, 85, 79, 84, 69] 34 true W rfl rfl rfl)
  have HB2 := hide (fun W => Byte_t ⟨#[65, 76, 76]⟩ [65, 76, 76] 0 false W rfl rfl rfl)
  have HL0 : Hid (∀ W, Below w.heap.size w W → Calls Tryd.prog 19 #[.agg #[.int .u8 2, .string ⟨#[45, 49, 46, 53, 48]⟩, .int .i64 0, .int .i64 0, .bool false]] W fun e w' => ∃ g, e = .returned (.tuple #[fieldV 4 ⟨#[83, 57, 86, 57, 57]⟩ 3 2 true 3 (.slice (some ⟨g, 0, none⟩) 3 3), .int .i64 0]) ∧ W.heap.size ≤ g ∧ Row w' g [49, 53, 125] ∧ Below W.heap.size W w') := fun W hb =>
    (Literal_r 2 ⟨#[45, 49, 46, 53, 48]⟩ 0 0 false W (by decide) (hmx.below hb)).mono fun e w' h => h.ok lit_0
  have HL1 : Hid (∀ W, Below w.heap.size w W → Calls Tryd.prog 19 #[.agg #[.int .u8 1, .string ⟨#[65]⟩, .int .i64 0, .int .i64 0, .bool false]] W fun e w' => e = .returned (.tuple #[fieldZ, .int .i64 11]) ∧ Below W.heap.size W w') := fun W hb =>
    (Literal_r 1 ⟨#[65]⟩ 0 0 false W (by decide) (hmx.below hb)).mono fun e w' h => h.err lit_1
  have HL2 : Hid (∀ W, Below w.heap.size w W → Calls Tryd.prog 19 #[.agg #[.int .u8 6, .string ⟨#[46]⟩, .int .i64 0, .int .i64 0, .bool false]] W fun e w' => e = .returned (.tuple #[fieldZ, .int .i64 12]) ∧ Below W.heap.size W w') := fun W hb =>
    (Literal_r 6 ⟨#[46]⟩ 0 0 false W (by decide) (hmx.below hb)).mono fun e w' h => h.err lit_2
  have HL3 : Hid (∀ W, Below w.heap.size w W → Calls Tryd.prog 19 #[.agg #[.int .u8 2, .string ⟨#[53, 46]⟩, .int .i64 0, .int .i64 0, .bool false]] W fun e w' => e = .returned (.tuple #[fieldZ, .int .i64 4]) ∧ Below W.heap.size W w') := fun W hb =>
    (Literal_r 2 ⟨#[53, 46]⟩ 0 0 false W (by decide) (hmx.below hb)).mono fun e w' h => h.err lit_3
  have HO0 : Hid (∀ W, Below w.heap.size w W → Calls Tryd.prog 16 #[.string ⟨#[77, 79, 86, 69]⟩] W fun e w' => e = .returned (.int .u8 2) ∧ Below W.heap.size W w') := fun W hb => Of_t ⟨#[77, 79, 86, 69]⟩ [77, 79, 86, 69] 2 W rfl cls_0 (by decide) (hasc.below (.inl (Nat.le_refl _)) hb)
  have HO1 : Hid (∀ W, Below w.heap.size w W → Calls Tryd.prog 16 #[.string ⟨#[84, 79]⟩] W fun e w' => e = .returned (.int .u8 1) ∧ Below W.heap.size W w') := fun W hb => Of_t ⟨#[84, 79]⟩ [84, 79] 1 W rfl cls_1 (by decide) (hasc.below (.inl (Nat.le_refl _)) hb)
  have HO2 : Hid (∀ W, Below w.heap.size w W → Calls Tryd.prog 16 #[.string ⟨#[83, 80, 65, 67, 69, 83]⟩] W fun e w' => e = .returned (.int .u8 3) ∧ Below W.heap.size W w') := fun W hb => Of_t ⟨#[83, 80, 65, 67, 69, 83]⟩ [83, 80, 65, 67, 69, 83] 3 W rfl cls_2 (by decide) (hasc.below (.inl (Nat.le_refl _)) hb)
  have HO3 : Hid (∀ W, Below w.heap.size w W → Calls Tryd.prog 16 #[.string ⟨#[84, 79, 84, 65, 76]⟩] W fun e w' => e = .returned (.int .u8 0) ∧ Below W.heap.size W w') := fun W hb => Of_t ⟨#[84, 79, 84, 65, 76]⟩ [84, 79, 84, 65, 76] 0 W rfl cls_3 (by decide) (hasc.below (.inl (Nat.le_refl _)) hb)
  have HO4 : Hid (∀ W, Below w.heap.size w W → Calls Tryd.prog 16 #[.string ⟨#[109, 111, 118, 101]⟩] W fun e w' => e = .returned (.int .u8 0) ∧ Below W.heap.size W w') := fun W hb => Of_t ⟨#[109, 111, 118, 101]⟩ [109, 111, 118, 101] 0 W rfl cls_4 (by decide) (hasc.below (.inl (Nat.le_refl _)) hb)
  have HS0 : Hid (∀ W, Below w.heap.size w W → Calls Tryd.prog 44 #[.int .u8 2, .string ⟨#[48, 48, 55]⟩, .string ⟨#[57, 57, 57]⟩, .string ⟨#[48, 48, 55]⟩] W fun e w' => e = .returned (.bool true) ∧ Below W.heap.size W w') := fun W hb => shows_t 2 ⟨#[48, 48, 55]⟩ ⟨#[57, 57, 57]⟩ ⟨#[48, 48, 55]⟩ _ W sho_0 rfl rfl (by decide) (by decide) (hmx.below hb)
  have HS1 : Hid (∀ W, Below w.heap.size w W → Calls Tryd.prog 44 #[.int .u8 2, .string ⟨#[43, 46, 53]⟩, .string ⟨#[83, 86, 57]⟩, .string ⟨#[69]⟩] W fun e w' => e = .returned (.bool true) ∧ Below W.heap.size W w') := fun W hb => shows_t 2 ⟨#[43, 46, 53]⟩ ⟨#[83, 86, 57]⟩ ⟨#[69]⟩ _ W sho_1 rfl rfl (by decide) (by decide) (hmx.below hb)
  have HS2 : Hid (∀ W, Below w.heap.size w W → Calls Tryd.prog 44 #[.int .u8 3, .string ⟨#[65, 66]⟩, .string ⟨#[88, 88]⟩, .string ⟨#[65, 66]⟩] W fun e w' => e = .returned (.bool true) ∧ Below W.heap.size W w') := fun W hb => shows_t 3 ⟨#[65, 66]⟩ ⟨#[88, 88]⟩ ⟨#[65, 66]⟩ _ W sho_2 rfl rfl (by decide) (by decide) (hmx.below hb)
  have HS3 : Hid (∀ W, Below w.heap.size w W → Calls Tryd.prog 44 #[.int .u8 1, .string ⟨#[90, 69, 82, 79]⟩, .string ⟨#[57]⟩, .string ⟨#[48]⟩] W fun e w' => e = .returned (.bool true) ∧ Below W.heap.size W w') := fun W hb => shows_t 1 ⟨#[90, 69, 82, 79]⟩ ⟨#[57]⟩ ⟨#[48]⟩ _ W sho_3 rfl rfl (by decide) (by decide) (hmx.below hb)
  have HS4 : Hid (∀ W, Below w.heap.size w W → Calls Tryd.prog 44 #[.int .u8 1, .string ⟨#[72, 73, 71, 72, 45, 86, 65, 76, 85, 69]⟩, .string ⟨#[88]⟩, .string ⟨#[255]⟩] W fun e w' => e = .returned (.bool true) ∧ Below W.heap.size W w') := fun W hb => shows_t 1 ⟨#[72, 73, 71, 72, 45, 86, 65, 76, 85, 69]⟩ ⟨#[88]⟩ ⟨#[255]⟩ _ W sho_4 rfl rfl (by decide) (by decide) (hmx.below hb)
  clear hasc hmx
  go_enter Tryd.func18, Tryd.ntmps18
  go_wp2_with fail
  refine (HB1.out _).mono ?_
  rintro e w' ⟨rfl, rfl⟩
  go_wp2_with fail
  refine (HB2.out _).mono ?_
  rintro e w' ⟨rfl, rfl⟩
  go_wp2_with fail
  refine (HL0.out _ (Below.refl _ _)).mono ?_
  rintro e W1 ⟨g, rfl, hg, hrow, hb1⟩
  unfold fieldV shapeV
  have hlt1 := hb1.size
  have hz1 : w.heap.size ≤ W1.heap.size := hb1.size
  obtain ⟨V1, hV1⟩ : ∃ V1, V1 = W1.alloc (.cells (shapeV 4 ⟨#[83, 57, 86, 57, 57]⟩ 3 2 true 3 ++ [Value.slice (some ⟨g, 0, none⟩) 3 3]).toArray 49) := ⟨_, rfl⟩
  have hrow2 : Row V1 g [49, 53, 125] := by rw [hV1]; exact hrow.alloc _
  have HBV : Hid (Below w.heap.size w V1) := by unfold Hid; rw [hV1]; exact hb1.alloc hz1 _
  have HF1 : Hid (FldAt V1 W1.heap.size 4 ⟨#[83, 57, 86, 57, 57]⟩ 3 2 true 3 (.slice (some ⟨g, 0, none⟩) 3 3)) := by unfold Hid; rw [hV1]; exact heap_alloc_new W1 _
  have HR1 := hide hrow2
  have hV1' := hV1
  unfold shapeV at hV1'
  simp only [List.cons_append, List.nil_append] at hV1'
  clear hV1 hrow hrow2 hb1
  go_wp2_with fail
  rw [← hV1']
  have HT : Hid (Below V1.heap.size V1 V1) := Below.refl _ _
  refine (HL1.out _ (HBV.out.trans (HT.out.mono HBV.out.size))).mono ?_
  rintro e W2 ⟨rfl, hb2⟩
  unfold fieldZ fieldV shapeV
  simp only [List.cons_append, List.nil_append]
  have HT' := hide ((HT.out.trans (hb2.mono HT.out.size)).alloc (by have := hb2.size; have := HT.out.size; omega) (.cells #[.int .u8 0, .int .u8 0, .string ⟨#[]⟩, .int .i64 0, .int .i64 0, .bool false, .bool false, .bool false, .bool false, .bool false, .int .i64 0, .slice none 0 0] 49))
  clear HT hb2
  have HT := HT'
  clear HT'
  go_wp2_with fail
  refine (HL2.out _ (HBV.out.trans (HT.out.mono HBV.out.size))).mono ?_
  rintro e W3 ⟨rfl, hb3⟩
  unfold fieldZ fieldV shapeV
  simp only [List.cons_append, List.nil_append]
  have HT' := hide ((HT.out.trans (hb3.mono HT.out.size)).alloc (by have := hb3.size; have := HT.out.size; omega) (.cells #[.int .u8 0, .int .u8 0, .string ⟨#[]⟩, .int .i64 0, .int .i64 0, .bool false, .bool false, .bool false, .bool false, .bool false, .int .i64 0, .slice none 0 0] 49))
  clear HT hb3
  have HT := HT'
  clear HT'
  go_wp2_with fail
  refine (HL3.out _ (HBV.out.trans (HT.out.mono HBV.out.size))).mono ?_
  rintro e W4 ⟨rfl, hb4⟩
  unfold fieldZ fieldV shapeV
  simp only [List.cons_append, List.nil_append]
  have HT' := hide ((HT.out.trans (hb4.mono HT.out.size)).alloc (by have := hb4.size; have := HT.out.size; omega) (.cells #[.int .u8 0, .int .u8 0, .string ⟨#[]⟩, .int .i64 0, .int .i64 0, .bool false, .bool false, .bool false, .bool false, .bool false, .int .i64 0, .slice none 0 0] 49))
  clear HT hb4
  have HT := HT'
  clear HT'
  go_wp2_with fail
  refine (HO0.out _ (HBV.out.trans (HT.out.mono HBV.out.size))).mono ?_
  rintro e X0 ⟨rfl, hb⟩
  have HT' := hide (HT.out.trans (hb.mono HT.out.size))
  clear HT hb
  have HT := HT'
  clear HT'
  go_wp2_with fail
  refine (HO1.out _ (HBV.out.trans (HT.out.mono HBV.out.size))).mono ?_
  rintro e X1 ⟨rfl, hb⟩
  have HT' := hide (HT.out.trans (hb.mono HT.out.size))
  clear HT hb
  have HT := HT'
  clear HT'
  go_wp2_with fail
  refine (HO2.out _ (HBV.out.trans (HT.out.mono HBV.out.size))).mono ?_
  rintro e X2 ⟨rfl, hb⟩
  have HT' := hide (HT.out.trans (hb.mono HT.out.size))
  clear HT hb
  have HT := HT'
  clear HT'
  go_wp2_with fail
  refine (HO3.out _ (HBV.out.trans (HT.out.mono HBV.out.size))).mono ?_
  rintro e X3 ⟨rfl, hb⟩
  have HT' := hide (HT.out.trans (hb.mono HT.out.size))
  clear HT hb
  have HT := HT'
  clear HT'
  go_wp2_with fail
  refine (HO4.out _ (HBV.out.trans (HT.out.mono HBV.out.size))).mono ?_
  rintro e X4 ⟨rfl, hb⟩
  have HT' := hide (HT.out.trans (hb.mono HT.out.size))
  clear HT hb
  have HT := HT'
  clear HT'
  have hfx : FldAt X4 W1.heap.size 4 ⟨#[83, 57, 86, 57, 57]⟩ 3 2 true 3 (.slice (some ⟨g, 0, none⟩) 3 3) := (HT.out.block _ (Array.getElem?_eq_some_iff.1 HF1.out).1).trans HF1.out
  obtain ⟨c0, c1, c2, c3, c4, c5, c6, c7, c8, c9, c10, c11⟩ := hfx.cells
  have hrx : Row X4 g [49, 53, 125] := HR1.out.block (Nat.lt_of_lt_of_le HR1.out.1 HT.out.size) (HT.out.block _ HR1.out.1)
  have hconv := hrx.text 3 3 rfl
  clear hfx hrx
  go_wp2_with fail
  refine (HS0.out _ (HBV.out.trans (HT.out.mono HBV.out.size))).mono ?_
  rintro e Y0 ⟨rfl, hb⟩
  have HT' := hide (HT.out.trans (hb.mono HT.out.size))
  clear HT hb
  have HT := HT'
  clear HT'
  go_wp2_with fail
  refine (HS1.out _ (HBV.out.trans (HT.out.mono HBV.out.size))).mono ?_
  rintro e Y1 ⟨rfl, hb⟩
  have HT' := hide (HT.out.trans (hb.mono HT.out.size))
  clear HT hb
  have HT := HT'
  clear HT'
  go_wp2_with fail
  refine (HS2.out _ (HBV.out.trans (HT.out.mono HBV.out.size))).mono ?_
  rintro e Y2 ⟨rfl, hb⟩
  have HT' := hide (HT.out.trans (hb.mono HT.out.size))
  clear HT hb
  have HT := HT'
  clear HT'
  go_wp2_with fail
  refine (HS3.out _ (HBV.out.trans (HT.out.mono HBV.out.size))).mono ?_
  rintro e Y3 ⟨rfl, hb⟩
  have HT' := hide (HT.out.trans (hb.mono HT.out.size))
  clear HT hb
  have HT := HT'
  clear HT'
  go_wp2_with fail
  refine (HS4.out _ (HBV.out.trans (HT.out.mono HBV.out.size))).mono ?_
  rintro e Y4 ⟨rfl, hb⟩
  have HT' := hide (HT.out.trans (hb.mono HT.out.size))
  clear HT hb
  have HT := HT'
  clear HT'
  go_wp2_with fail
  go_ret
  exact ⟨rfl, HBV.out.trans (HT.out.mono HBV.out.size)⟩
end Go.Proofs.YthdggnkpncoikaaDoor
