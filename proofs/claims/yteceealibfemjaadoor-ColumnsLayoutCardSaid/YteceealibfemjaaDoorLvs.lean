/-
  THE CONTRACT of the law's lives (layer 2, columns).
-/
import Derived.Test.YteceealibfemjaaDoorLiv
namespace Go.Proofs.YteceealibfemjaaDoor
open Go.RowKit Go.Shelf

theorem sp_cat (n : Nat) (l : List UInt8) : (mk (List.replicate n 32) ++ ⟨l.toArray⟩ : ByteArray).data.toList = List.replicate n 32 ++ l := by
  rw [ByteArray.data_append, Array.toList_append]; rfl
theorem ex_len (left : Bool) : (outL 0 (piecesL (frontL left) [83, 84, 79, 80, 32, 82, 85, 78, 46] false)).length ≤ 1048576 := by
  cases left
  · rw [ex_W]; decide
  · rw [ex_V]; decide
theorem sp_size (n : Nat) : (mk (List.replicate n 32)).size = n := by
  show (List.replicate n (32 : UInt8)).toArray.size = n
  rw [List.size_toArray, List.length_replicate]

set_option maxHeartbeats 4000000 in
set_option maxRecDepth 100000 in
theorem lives_c (w : World) (htab : Lib.TabIs Tryd.prog w "internal/strconv.uint64pow10" .u64 Lib.pow10Tab) :
    Calls Tryd.prog 5 #[] w fun e w' => e = .returned (.bool true) ∧ Below w.heap.size w w' := by
  obtain ⟨S13, h13⟩ : ∃ S, S = mk (List.replicate 13 32) := ⟨_, rfl⟩
  obtain ⟨S7, h7⟩ : ∃ S, S = mk (List.replicate 7 32) := ⟨_, rfl⟩
  obtain ⟨S6, h6⟩ : ∃ S, S = mk (List.replicate 6 32) := ⟨_, rfl⟩
  obtain ⟨S11, h11⟩ : ∃ S, S = mk (List.replicate 11 32) := ⟨_, rfl⟩
  obtain ⟨S57, h57⟩ : ∃ S, S = mk (List.replicate 57 32) := ⟨_, rfl⟩
  have hS13 : Hid (∀ w1, Calls Tryd.prog 7 #[.int .i64 13] w1 fun e w' => e = .returned (.string S13) ∧ Below w1.heap.size w1 w') := fun w1 => by rw [h13]; exact spaces_c 13 w1 (by omega)
  have hS7 : Hid (∀ w1, Calls Tryd.prog 7 #[.int .i64 7] w1 fun e w' => e = .returned (.string S7) ∧ Below w1.heap.size w1 w') := fun w1 => by rw [h7]; exact spaces_c 7 w1 (by omega)
  have hS6 : Hid (∀ w1, Calls Tryd.prog 7 #[.int .i64 6] w1 fun e w' => e = .returned (.string S6) ∧ Below w1.heap.size w1 w') := fun w1 => by rw [h6]; exact spaces_c 6 w1 (by omega)
  have hS11 : Hid (∀ w1, Calls Tryd.prog 7 #[.int .i64 11] w1 fun e w' => e = .returned (.string S11) ∧ Below w1.heap.size w1 w') := fun w1 => by rw [h11]; exact spaces_c 11 w1 (by omega)
  have hS57 : Hid (∀ w1, Calls Tryd.prog 7 #[.int .i64 57] w1 fun e w' => e = .returned (.string S57) ∧ Below w1.heap.size w1 w') := fun w1 => by rw [h57]; exact spaces_c 57 w1 (by omega)
  have hW1 : Hid (∀ (left : Bool) (w1 : World) (b off c : Nat), w1.cell? ⟨b, off, none⟩ = some (.bool left) → w1.cell? ⟨b, off + 1, none⟩ = some (.string ⟨#[83, 84, 79, 80, 32, 82, 85, 78, 46]⟩) → b < w1.heap.size → Lib.TabIs Tryd.prog w1 "internal/strconv.uint64pow10" .u64 Lib.pow10Tab → Calls Tryd.prog 6 #[.slice (some ⟨b, off, none⟩) 1 c] w1 fun e w' => e = .returned (.tuple #[.string (mk (outL 0 (piecesL (frontL left) [83, 84, 79, 80, 32, 82, 85, 78, 46] false))), .int .i64 0]) ∧ Below w1.heap.size w1 w') :=
    fun left w1 b off c h0 h1 hb ht => Write_one left ⟨#[83, 84, 79, 80, 32, 82, 85, 78, 46]⟩ b off c w1 (by decide) h0 h1 hb ex_R ht (ex_len left)
  have hWf : Hid (∀ (w1 : World) (b off c : Nat), w1.cell? ⟨b, off, none⟩ = some (.bool false) → w1.cell? ⟨b, off + 1, none⟩ = some (.string ⟨#[83, 84, 79, 80, 32, 82, 85, 78, 46]⟩) → b < w1.heap.size → Lib.TabIs Tryd.prog w1 "internal/strconv.uint64pow10" .u64 Lib.pow10Tab → Calls Tryd.prog 6 #[.slice (some ⟨b, off, none⟩) 1 c] w1 fun e w' => e = .returned (.tuple #[.string ⟨#[48, 48, 48, 48, 48, 49, 32, 32, 32, 32, 32, 83, 84, 79, 80, 32, 82, 85, 78, 46, 10]⟩, .int .i64 0]) ∧ Below w1.heap.size w1 w') := fun w1 b off c h0 h1 hb ht => by
    have h := hW1.out false w1 b off c h0 h1 hb ht
    rw [ex_W] at h
    exact h
  have hWt : Hid (∀ (w1 : World) (b off c : Nat), w1.cell? ⟨b, off, none⟩ = some (.bool true) → w1.cell? ⟨b, off + 1, none⟩ = some (.string ⟨#[83, 84, 79, 80, 32, 82, 85, 78, 46]⟩) → b < w1.heap.size → Lib.TabIs Tryd.prog w1 "internal/strconv.uint64pow10" .u64 Lib.pow10Tab → Calls Tryd.prog 6 #[.slice (some ⟨b, off, none⟩) 1 c] w1 fun e w' => e = .returned (.tuple #[.string ⟨#[48, 48, 48, 48, 48, 49, 32, 83, 84, 79, 80, 32, 82, 85, 78, 46, 10]⟩, .int .i64 0]) ∧ Below w1.heap.size w1 w') := fun w1 b off c h0 h1 hb ht => by
    have h := hW1.out true w1 b off c h0 h1 hb ht
    rw [ex_V] at h
    exact h
  have hA : Hid (∀ w1, Calls Tryd.prog 13 #[.string (S13 ++ ⟨#[65, 68, 68, 32, 49]⟩)] w1 fun e w' => e = .returned (.tuple #[.string ⟨#[65, 68, 68, 32, 49]⟩, .agg #[.int .i64 0, .int .i64 0, .int .i64 0]]) ∧ Below w1.heap.size w1 w') :=
    fun w1 => help_ex _ ex_A (by rw [h13]; exact sp_cat 13 _) w1
  have hBx : Hid (∀ w1, Calls Tryd.prog 13 #[.string (S7 ++ ⟨#[77, 65, 73, 78, 10]⟩ ++ S6 ++ ⟨#[42, 78, 79, 84, 69]⟩)] w1 fun e w' => e = .returned (.tuple #[.string ⟨#[77, 65, 73, 78, 60]⟩, .agg #[.int .i64 0, .int .i64 0, .int .i64 0]]) ∧ Below w1.heap.size w1 w') :=
    fun w1 => help_ex _ ex_B (by rw [h7, h6]; rfl) w1
  have hCx : Hid (∀ w1, Calls Tryd.prog 13 #[.string (S11 ++ ⟨#[65, 32, 34, 66, 10]⟩ ++ S6 ++ ⟨#[45, 32, 32, 32, 32, 34, 67, 34, 10]⟩)] w1 fun e w' => e = .returned (.tuple #[.string (⟨#[65, 32, 34, 66]⟩ ++ S57 ++ ⟨#[67, 34]⟩), .agg #[.int .i64 0, .int .i64 0, .int .i64 0]]) ∧ Below w1.heap.size w1 w') :=
    fun w1 => by rw [h57]; exact help_ex _ ex_C (by rw [h11, h6]; rfl) w1
  have hDx : Hid (∀ w1, Calls Tryd.prog 13 #[.string (S11 ++ ⟨#[80, 69, 82, 70, 10]⟩ ++ S6 ++ ⟨#[45, 32, 32, 32, 32, 79, 82, 77, 32, 80]⟩)] w1 fun e w' => e = .returned (.tuple #[.string ⟨#[80, 69, 82, 70, 79, 82, 77, 32, 80]⟩, .agg #[.int .i64 0, .int .i64 0, .int .i64 0]]) ∧ Below w1.heap.size w1 w') :=
    fun w1 => help_ex _ ex_D (by rw [h11, h6]; rfl) w1
  have hEx : Hid (∀ w1, Calls Tryd.prog 13 #[.string (S6 ++ ⟨#[45, 32, 32, 32, 32, 88]⟩)] w1 fun e w' => e = .returned (.tuple #[.string ⟨#[]⟩, .agg #[.int .i64 6, .int .i64 1, .int .i64 7]]) ∧ Below w1.heap.size w1 w') :=
    fun w1 => help_ex _ ex_E (by rw [h6]; rfl) w1
  have hFx : Hid (∀ w1, Calls Tryd.prog 13 #[.string (S11 ++ ⟨#[65, 32, 34, 66]⟩)] w1 fun e w' => e = .returned (.tuple #[.string ⟨#[]⟩, .agg #[.int .i64 4, .int .i64 1, .int .i64 12]]) ∧ Below w1.heap.size w1 w') :=
    fun w1 => help_ex _ ex_F (by rw [h11]; rfl) w1
  have z13 : S13.size = 13 := by rw [h13]; exact sp_size 13
  have z7 : S7.size = 7 := by rw [h7]; exact sp_size 7
  have z6 : S6.size = 6 := by rw [h6]; exact sp_size 6
  have z11 : S11.size = 11 := by rw [h11]; exact sp_size 11
  have z57 : S57.size = 57 := by rw [h57]; exact sp_size 57
  clear h13 h7 h6 h11 h57
  go_enter Tryd.func5, Tryd.ntmps5
  go_wp2_with fail
  have HB0 := hide (Below.refl w.heap.size w)
  refine (hS13.out _).mono ?_
  rintro e w1 ⟨rfl, hb1⟩
  have HB1 := hide (HB0.out.trans (hb1.mono HB0.out.size))
  clear hb1
  go_wp2_with fail
  refine (hA.out _).mono ?_
  rintro e w2 ⟨rfl, hb2⟩
  have HB2 := hide (HB1.out.trans (hb2.mono HB1.out.size))
  have F0c := hide (blk_new w2 #[.int .i64 0, .int .i64 0, .int .i64 0] 40)
  have HB2a := hide (HB2.out.alloc HB2.out.size (.cells #[.int .i64 0, .int .i64 0, .int .i64 0] 40))
  clear hb2
  go_wp2_with fail
  refine (hS7.out _).mono ?_
  rintro e w3 ⟨rfl, hb3⟩
  have HB3 := hide (HB2a.out.trans (hb3.mono HB2a.out.size))
  have F0_3 := hide (blk_kept hb3 F0c.out)
  clear F0c
  have F0c := F0_3
  clear F0_3
  clear hb3
  go_wp2_with fail
  refine (hS6.out _).mono ?_
  rintro e w4 ⟨rfl, hb4⟩
  have HB4 := hide (HB3.out.trans (hb4.mono HB3.out.size))
  have F0_4 := hide (blk_kept hb4 F0c.out)
  clear F0c
  have F0c := F0_4
  clear F0_4
  clear hb4
  go_wp2_with fail
  refine (hBx.out _).mono ?_
  rintro e w5 ⟨rfl, hb5⟩
  have HB5 := hide (HB4.out.trans (hb5.mono HB4.out.size))
  have F0_5 := hide (blk_kept hb5 F0c.out)
  clear F0c
  have F0c := F0_5
  clear F0_5
  have F0_a := hide ((F0c.out).alloc (.cells #[.int .i64 0, .int .i64 0, .int .i64 0] 40))
  clear F0c
  have F0c := F0_a
  clear F0_a
  have F1c := hide (blk_new w5 #[.int .i64 0, .int .i64 0, .int .i64 0] 40)
  have HB5a := hide (HB5.out.alloc HB5.out.size (.cells #[.int .i64 0, .int .i64 0, .int .i64 0] 40))
  clear hb5
  go_wp2_with fail
  refine (hS11.out _).mono ?_
  rintro e w6 ⟨rfl, hb6⟩
  have HB6 := hide (HB5a.out.trans (hb6.mono HB5a.out.size))
  have F0_6 := hide (blk_kept hb6 F0c.out)
  have F1_6 := hide (blk_kept hb6 F1c.out)
  clear F0c
  have F0c := F0_6
  clear F0_6
  clear F1c
  have F1c := F1_6
  clear F1_6
  clear hb6
  go_wp2_with fail
  refine (hS6.out _).mono ?_
  rintro e w7 ⟨rfl, hb7⟩
  have HB7 := hide (HB6.out.trans (hb7.mono HB6.out.size))
  have F0_7 := hide (blk_kept hb7 F0c.out)
  have F1_7 := hide (blk_kept hb7 F1c.out)
  clear F0c
  have F0c := F0_7
  clear F0_7
  clear F1c
  have F1c := F1_7
  clear F1_7
  clear hb7
  go_wp2_with fail
  refine (hCx.out _).mono ?_
  rintro e w8 ⟨rfl, hb8⟩
  have HB8 := hide (HB7.out.trans (hb8.mono HB7.out.size))
  have F0_8 := hide (blk_kept hb8 F0c.out)
  have F1_8 := hide (blk_kept hb8 F1c.out)
  clear F0c
  have F0c := F0_8
  clear F0_8
  clear F1c
  have F1c := F1_8
  clear F1_8
  have F0_a := hide ((F0c.out).alloc (.cells #[.int .i64 0, .int .i64 0, .int .i64 0] 40))
  clear F0c
  have F0c := F0_a
  clear F0_a
  have F1_a := hide ((F1c.out).alloc (.cells #[.int .i64 0, .int .i64 0, .int .i64 0] 40))
  clear F1c
  have F1c := F1_a
  clear F1_a
  have F2c := hide (blk_new w8 #[.int .i64 0, .int .i64 0, .int .i64 0] 40)
  have HB8a := hide (HB8.out.alloc HB8.out.size (.cells #[.int .i64 0, .int .i64 0, .int .i64 0] 40))
  clear hb8
  go_wp2_with fail
  refine (hS11.out _).mono ?_
  rintro e w9 ⟨rfl, hb9⟩
  have HB9 := hide (HB8a.out.trans (hb9.mono HB8a.out.size))
  have F0_9 := hide (blk_kept hb9 F0c.out)
  have F1_9 := hide (blk_kept hb9 F1c.out)
  have F2_9 := hide (blk_kept hb9 F2c.out)
  clear F0c
  have F0c := F0_9
  clear F0_9
  clear F1c
  have F1c := F1_9
  clear F1_9
  clear F2c
  have F2c := F2_9
  clear F2_9
  clear hb9
  go_wp2_with fail
  refine (hS6.out _).mono ?_
  rintro e w10 ⟨rfl, hb10⟩
  have HB10 := hide (HB9.out.trans (hb10.mono HB9.out.size))
  have F0_10 := hide (blk_kept hb10 F0c.out)
  have F1_10 := hide (blk_kept hb10 F1c.out)
  have F2_10 := hide (blk_kept hb10 F2c.out)
  clear F0c
  have F0c := F0_10
  clear F0_10
  clear F1c
  have F1c := F1_10
  clear F1_10
  clear F2c
  have F2c := F2_10
  clear F2_10
  clear hb10
  go_wp2_with fail
  refine (hDx.out _).mono ?_
  rintro e w11 ⟨rfl, hb11⟩
  have HB11 := hide (HB10.out.trans (hb11.mono HB10.out.size))
  have F0_11 := hide (blk_kept hb11 F0c.out)
  have F1_11 := hide (blk_kept hb11 F1c.out)
  have F2_11 := hide (blk_kept hb11 F2c.out)
  clear F0c
  have F0c := F0_11
  clear F0_11
  clear F1c
  have F1c := F1_11
  clear F1_11
  clear F2c
  have F2c := F2_11
  clear F2_11
  have F0_a := hide ((F0c.out).alloc (.cells #[.int .i64 0, .int .i64 0, .int .i64 0] 40))
  clear F0c
  have F0c := F0_a
  clear F0_a
  have F1_a := hide ((F1c.out).alloc (.cells #[.int .i64 0, .int .i64 0, .int .i64 0] 40))
  clear F1c
  have F1c := F1_a
  clear F1_a
  have F2_a := hide ((F2c.out).alloc (.cells #[.int .i64 0, .int .i64 0, .int .i64 0] 40))
  clear F2c
  have F2c := F2_a
  clear F2_a
  have F3c := hide (blk_new w11 #[.int .i64 0, .int .i64 0, .int .i64 0] 40)
  have HB11a := hide (HB11.out.alloc HB11.out.size (.cells #[.int .i64 0, .int .i64 0, .int .i64 0] 40))
  clear hb11
  go_wp2_with fail
  refine (hS6.out _).mono ?_
  rintro e w12 ⟨rfl, hb12⟩
  have HB12 := hide (HB11a.out.trans (hb12.mono HB11a.out.size))
  have F0_12 := hide (blk_kept hb12 F0c.out)
  have F1_12 := hide (blk_kept hb12 F1c.out)
  have F2_12 := hide (blk_kept hb12 F2c.out)
  have F3_12 := hide (blk_kept hb12 F3c.out)
  clear F0c
  have F0c := F0_12
  clear F0_12
  clear F1c
  have F1c := F1_12
  clear F1_12
  clear F2c
  have F2c := F2_12
  clear F2_12
  clear F3c
  have F3c := F3_12
  clear F3_12
  clear hb12
  go_wp2_with fail
  refine (hEx.out _).mono ?_
  rintro e w13 ⟨rfl, hb13⟩
  have HB13 := hide (HB12.out.trans (hb13.mono HB12.out.size))
  have F0_13 := hide (blk_kept hb13 F0c.out)
  have F1_13 := hide (blk_kept hb13 F1c.out)
  have F2_13 := hide (blk_kept hb13 F2c.out)
  have F3_13 := hide (blk_kept hb13 F3c.out)
  clear F0c
  have F0c := F0_13
  clear F0_13
  clear F1c
  have F1c := F1_13
  clear F1_13
  clear F2c
  have F2c := F2_13
  clear F2_13
  clear F3c
  have F3c := F3_13
  clear F3_13
  have F0_a := hide ((F0c.out).alloc (.cells #[.int .i64 6, .int .i64 1, .int .i64 7] 40))
  clear F0c
  have F0c := F0_a
  clear F0_a
  have F1_a := hide ((F1c.out).alloc (.cells #[.int .i64 6, .int .i64 1, .int .i64 7] 40))
  clear F1c
  have F1c := F1_a
  clear F1_a
  have F2_a := hide ((F2c.out).alloc (.cells #[.int .i64 6, .int .i64 1, .int .i64 7] 40))
  clear F2c
  have F2c := F2_a
  clear F2_a
  have F3_a := hide ((F3c.out).alloc (.cells #[.int .i64 6, .int .i64 1, .int .i64 7] 40))
  clear F3c
  have F3c := F3_a
  clear F3_a
  have F4c := hide (blk_new w13 #[.int .i64 6, .int .i64 1, .int .i64 7] 40)
  have HB13a := hide (HB13.out.alloc HB13.out.size (.cells #[.int .i64 6, .int .i64 1, .int .i64 7] 40))
  clear hb13
  go_wp2_with fail
  refine (hS11.out _).mono ?_
  rintro e w14 ⟨rfl, hb14⟩
  have HB14 := hide (HB13a.out.trans (hb14.mono HB13a.out.size))
  have F0_14 := hide (blk_kept hb14 F0c.out)
  have F1_14 := hide (blk_kept hb14 F1c.out)
  have F2_14 := hide (blk_kept hb14 F2c.out)
  have F3_14 := hide (blk_kept hb14 F3c.out)
  have F4_14 := hide (blk_kept hb14 F4c.out)
  clear F0c
  have F0c := F0_14
  clear F0_14
  clear F1c
  have F1c := F1_14
  clear F1_14
  clear F2c
  have F2c := F2_14
  clear F2_14
  clear F3c
  have F3c := F3_14
  clear F3_14
  clear F4c
  have F4c := F4_14
  clear F4_14
  clear hb14
  go_wp2_with fail
  refine (hFx.out _).mono ?_
  rintro e w15 ⟨rfl, hb15⟩
  have HB15 := hide (HB14.out.trans (hb15.mono HB14.out.size))
  have F0_15 := hide (blk_kept hb15 F0c.out)
  have F1_15 := hide (blk_kept hb15 F1c.out)
  have F2_15 := hide (blk_kept hb15 F2c.out)
  have F3_15 := hide (blk_kept hb15 F3c.out)
  have F4_15 := hide (blk_kept hb15 F4c.out)
  clear F0c
  have F0c := F0_15
  clear F0_15
  clear F1c
  have F1c := F1_15
  clear F1_15
  clear F2c
  have F2c := F2_15
  clear F2_15
  clear F3c
  have F3c := F3_15
  clear F3_15
  clear F4c
  have F4c := F4_15
  clear F4_15
  have F0_a := hide ((F0c.out).alloc (.cells #[.int .i64 4, .int .i64 1, .int .i64 12] 40))
  clear F0c
  have F0c := F0_a
  clear F0_a
  have F1_a := hide ((F1c.out).alloc (.cells #[.int .i64 4, .int .i64 1, .int .i64 12] 40))
  clear F1c
  have F1c := F1_a
  clear F1_a
  have F2_a := hide ((F2c.out).alloc (.cells #[.int .i64 4, .int .i64 1, .int .i64 12] 40))
  clear F2c
  have F2c := F2_a
  clear F2_a
  have F3_a := hide ((F3c.out).alloc (.cells #[.int .i64 4, .int .i64 1, .int .i64 12] 40))
  clear F3c
  have F3c := F3_a
  clear F3_a
  have F4_a := hide ((F4c.out).alloc (.cells #[.int .i64 4, .int .i64 1, .int .i64 12] 40))
  clear F4c
  have F4c := F4_a
  clear F4_a
  have F5c := hide (blk_new w15 #[.int .i64 4, .int .i64 1, .int .i64 12] 40)
  have HB15a := hide (HB15.out.alloc HB15.out.size (.cells #[.int .i64 4, .int .i64 1, .int .i64 12] 40))
  clear hb15
  have F0e := ((F0c.out).alloc (.cells #[.int .i64 0, .int .i64 0, .int .i64 0] 40))
  have F0k0 := F0e.cell 0
  have F0k1 := F0e.cell 1
  have F0k2 := F0e.cell 2
  clear F0e
  have F1e := ((F1c.out).alloc (.cells #[.int .i64 0, .int .i64 0, .int .i64 0] 40))
  have F1k0 := F1e.cell 0
  have F1k1 := F1e.cell 1
  have F1k2 := F1e.cell 2
  clear F1e
  have F2e := ((F2c.out).alloc (.cells #[.int .i64 0, .int .i64 0, .int .i64 0] 40))
  have F2k0 := F2e.cell 0
  have F2k1 := F2e.cell 1
  have F2k2 := F2e.cell 2
  clear F2e
  have F3e := ((F3c.out).alloc (.cells #[.int .i64 0, .int .i64 0, .int .i64 0] 40))
  have F3k0 := F3e.cell 0
  have F3k1 := F3e.cell 1
  have F3k2 := F3e.cell 2
  clear F3e
  have F4e := ((F4c.out).alloc (.cells #[.int .i64 0, .int .i64 0, .int .i64 0] 40))
  have F4k0 := F4e.cell 0
  have F4k1 := F4e.cell 1
  have F4k2 := F4e.cell 2
  have F4x := hide F4e
  clear F4e
  have F5e := ((F5c.out).alloc (.cells #[.int .i64 0, .int .i64 0, .int .i64 0] 40))
  have F5k0 := F5e.cell 0
  have F5k1 := F5e.cell 1
  have F5k2 := F5e.cell 2
  have F5x := hide F5e
  clear F5e
  have Ne := blk_new (w15.alloc (.cells #[.int .i64 4, .int .i64 1, .int .i64 12] 40)) #[.int .i64 0, .int .i64 0, .int .i64 0] 40
  rw [World.size_alloc] at Ne
  have Nk0 := Ne.cell 0
  have Nk1 := Ne.cell 1
  have Nk2 := Ne.cell 2
  clear Ne
  go_wp2_with fail
  have hBz := ((HB15a.out).alloc HB15a.out.size (.cells #[.int .i64 0, .int .i64 0, .int .i64 0] 40))
  refine (hS57.out _).mono ?_
  rintro e w16 ⟨rfl, hb16⟩
  have F4y := blk_kept hb16 F4x.out
  have F5y := blk_kept hb16 F5x.out
  have y40 := F4y.cell 0
  have y41 := F4y.cell 1
  have y42 := F4y.cell 2
  have y50 := F5y.cell 0
  have y51 := F5y.cell 1
  have y52 := F5y.cell 2
  have HB16 := hide (hBz.trans (hb16.mono hBz.size))
  clear F4y F5y hb16 hBz
  go_wp2_with fail
  have hl := blk_new w16 #[.bool false, .string ⟨#[83, 84, 79, 80, 32, 82, 85, 78, 46]⟩] 28
  have hBl := HB16.out.alloc HB16.out.size (.cells #[.bool false, .string ⟨#[83, 84, 79, 80, 32, 82, 85, 78, 46]⟩] 28)
  refine (hWf.out _ w16.heap.size 0 1 (hl.cell 0) (hl.cell 1) hl.lt (tab_below htab hBl)).mono ?_
  rintro e w17 ⟨rfl, hb17⟩
  have HB17 := hide (hBl.trans (hb17.mono hBl.size))
  clear hl hBl hb17
  go_wp2_with fail
  have hl := blk_new w17 #[.bool true, .string ⟨#[83, 84, 79, 80, 32, 82, 85, 78, 46]⟩] 28
  have hBl := HB17.out.alloc HB17.out.size (.cells #[.bool true, .string ⟨#[83, 84, 79, 80, 32, 82, 85, 78, 46]⟩] 28)
  refine (hWt.out _ w17.heap.size 0 1 (hl.cell 0) (hl.cell 1) hl.lt (tab_below htab hBl)).mono ?_
  rintro e w18 ⟨rfl, hb18⟩
  have HB18 := hide (hBl.trans (hb18.mono hBl.size))
  clear hl hBl hb18
  go_wp2_with fail
  go_ret
  exact ⟨rfl, HB18.out⟩
end Go.Proofs.YteceealibfemjaaDoor
