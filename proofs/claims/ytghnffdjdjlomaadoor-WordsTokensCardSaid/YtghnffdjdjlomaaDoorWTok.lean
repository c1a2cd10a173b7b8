/-
  THE LAW WordsTokens, walked (layer 5, words).
-/
import Derived.Test.YtghnffdjdjlomaaDoorLvX
import Derived.Lib.QuietBelow
import Derived.BigQuiet
namespace Go.Proofs.YtghnffdjdjlomaaDoor
open Go.RowKit Go.Shelf

/-- a variable of type api.Token -/
def TokB (w : World) (b : Nat) (k : Int) (s : ByteArray) (tl tc : Int) (lf : Bool) : Prop := w.heap[b]? = some (.cells #[.int .u8 k, .string s, .int .i64 tl, .int .i64 tc, .bool lf] 62 (0, 0))
theorem TokB.cells {w : World} {b : Nat} {k : Int} {s : ByteArray} {tl tc : Int} {lf : Bool} (h : TokB w b k s tl tc lf) : w.cell? ⟨b, 0, none⟩ = some (.int .u8 k) ∧ w.cell? ⟨b, 1, none⟩ = some (.string s) ∧ w.cell? ⟨b, 2, none⟩ = some (.int .i64 tl) ∧ w.cell? ⟨b, 3, none⟩ = some (.int .i64 tc) ∧ w.cell? ⟨b, 4, none⟩ = some (.bool lf) :=
  ⟨cell_of_row w b 0 _ _ _ h, cell_of_row w b 1 _ _ _ h, cell_of_row w b 2 _ _ _ h, cell_of_row w b 3 _ _ _ h, cell_of_row w b 4 _ _ _ h⟩
theorem TokLaw_far (kd : Int) (s : ByteArray) (tl tc : Int) (lf : Bool) (w : World) (hs : s.size ≤ maxLen) (h : 300 < s.size ∨ kd = 2) (hasc : AscS w) (hmx : MaxW w) :
    Calls Tryd.prog 8 #[.agg #[.int .u8 kd, .string s, .int .i64 tl, .int .i64 tc, .bool lf]] w fun e w' => e = .returned (.bool true) ∧ Below w.heap.size w w' := by
  unfold maxLen at hs
  have HL : Hid (∀ W, Below w.heap.size w W → Calls Tryd.prog 17 #[] W fun e w' => e = .returned (.bool true) ∧ Below W.heap.size W w') := fun W hb => livesW_c W (hasc.below (.inl (Nat.le_refl _)) hb) (hmx.below hb)
  have HB0 := hide ((Below.refl _ w).alloc (Nat.le_refl _) (.cells #[.int .u8 kd, .string s, .int .i64 tl, .int .i64 tc, .bool lf] 62))
  clear hasc hmx
  by_cases h1 : 300 < s.size
  · have h1' : (300 : Int) < (s.size : Int) := by omega
    clear h
    go_enter Tryd.func8, Tryd.ntmps8
    go_wp2_with fail
    refine (HL.out _ HB0.out).mono ?_
    rintro e w1 ⟨rfl, hb⟩
    have HB1 := hide (HB0.out.trans (hb.mono HB0.out.size))
    clear hb
    go_wp2_with fail
    go_ret
    exact ⟨rfl, HB1.out⟩
  · have h1' : ¬ (300 : Int) < (s.size : Int) := by omega
    obtain rfl : kd = 2 := by omega
    clear h
    go_enter Tryd.func8, Tryd.ntmps8
    go_wp2_with fail
    refine (HL.out _ HB0.out).mono ?_
    rintro e w1 ⟨rfl, hb⟩
    have HB1 := hide (HB0.out.trans (hb.mono HB0.out.size))
    clear hb
    go_wp2_with fail
    go_ret
    exact ⟨rfl, HB1.out⟩
set_option maxRecDepth 100000 in
set_option maxHeartbeats 4000000 in
theorem TokLaw_q0 (s : ByteArray) (tl tc : Int) (lf : Bool) (w : World) (hs : s.size ≤ 300) (hlen : s.size = 0) (hasc : AscS w) (hmx : MaxW w) :
    Calls Tryd.prog 8 #[.agg #[.int .u8 3, .string s, .int .i64 tl, .int .i64 tc, .bool lf]] w fun e w' => e = .returned (.bool true) ∧ Below w.heap.size w w' := by
  have HLv : Hid (∀ W, Below w.heap.size w W → Calls Tryd.prog 17 #[] W fun e w' => e = .returned (.bool true) ∧ Below W.heap.size W w') := fun W hb => livesW_c W (hasc.below (.inl (Nat.le_refl _)) hb) (hmx.below hb)
  have h3 : ¬ (300 : Int) < (s.size : Int) := by omega
  have hs6 : s.size ≤ 1000000 := by omega
  obtain ⟨b0, hb0⟩ : ∃ b0, b0 = byteN s.data.toList := ⟨_, rfl⟩
  obtain ⟨i0, hi0⟩ : ∃ i0, i0 = byteB s.data.toList := ⟨_, rfl⟩
  have hl2 : (s.size : Int) < 1 := by omega
  have hll : s.data.toList.length = 0 ∨ 256 < s.data.toList.length := by rw [len_data]; exact .inl hlen
  have HLi : Hid (∀ W, Below w.heap.size w W → Calls Tryd.prog 25 #[.agg #[.int .u8 3, .string s, .int .i64 tl, .int .i64 tc, .bool lf]] W fun e w' => e = .returned (.tuple #[fieldZ, .int .i64 5]) ∧ Below W.heap.size W w') := fun W hb =>
    (Literal_r _ s tl tc lf W hs6 (hmx.below hb)).mono fun e w' h => h.err (by show (if (3 : Int) = 2 then _ else _) = _; rw [if_neg (by decide), if_pos rfl]; unfold txtR; rw [if_pos hll])
  have HBy : Hid (∀ W, Calls Tryd.prog 20 #[.string s] W fun e w' => e = .returned (.tuple #[.int .u8 b0, .bool i0]) ∧ W = w') := fun W => by rw [hb0, hi0]; exact Byte_c s W
  have HB0 := hide ((Below.refl _ w).alloc (Nat.le_refl _) (.cells #[.int .u8 3, .string s, .int .i64 tl, .int .i64 tc, .bool lf] 62))
  have HT0 : Hid (TokB (w.alloc (.cells #[.int .u8 3, .string s, .int .i64 tl, .int .i64 tc, .bool lf] 62)) w.heap.size 3 s tl tc lf) := heap_alloc_new w _
  clear hasc hmx hb0 hi0 hll hlen
  go_enter Tryd.func8, Tryd.ntmps8
  go_wp2_with fail
  refine (HLi.out _ HB0.out).mono ?_
  rintro e W1 ⟨rfl, hb1⟩
  obtain ⟨V1, hV1⟩ : ∃ V1, V1 = W1.alloc (.cells #[.int .u8 0, .int .u8 0, .string ⟨#[]⟩, .int .i64 0, .int .i64 0, .bool false, .bool false, .bool false, .bool false, .bool false, .int .i64 0, .slice none 0 0] 55) := ⟨_, rfl⟩
  have hz := hb1.size
  have HB1 : Hid (Below w.heap.size w V1) := by unfold Hid; rw [hV1]; exact (HB0.out.trans (hb1.mono HB0.out.size)).alloc (by have := HB0.out.size; omega) _
  have hl : w.heap.size < (w.alloc (.cells #[.int .u8 3, .string s, .int .i64 tl, .int .i64 tc, .bool lf] 62)).heap.size := by simp
  have htw : TokB W1 w.heap.size 3 s tl tc lf := (hb1.block _ hl).trans HT0.out
  have hlw : w.heap.size < W1.heap.size := Nat.lt_of_lt_of_le hl hb1.size
  have HT1 : Hid (TokB V1 w.heap.size 3 s tl tc lf) := by
    unfold Hid; rw [hV1]
    exact (heap_alloc_old W1 _ hlw).trans htw
  obtain ⟨q0, q1, q2, q3, q4⟩ := htw.cells
  have hf1 : V1.heap[W1.heap.size]? = some (.cells #[.int .u8 0, .int .u8 0, .string ⟨#[]⟩, .int .i64 0, .int .i64 0, .bool false, .bool false, .bool false, .bool false, .bool false, .int .i64 0, .slice none 0 0] 55 (0, 0)) := by rw [hV1]; exact heap_alloc_new W1 _
  have c0 := cell_of_row V1 W1.heap.size 0 _ _ _ hf1
  have c1 := cell_of_row V1 W1.heap.size 1 _ _ _ hf1
  have c2 := cell_of_row V1 W1.heap.size 2 _ _ _ hf1
  have c3 := cell_of_row V1 W1.heap.size 3 _ _ _ hf1
  have c4 := cell_of_row V1 W1.heap.size 4 _ _ _ hf1
  have c5 := cell_of_row V1 W1.heap.size 5 _ _ _ hf1
  have c6 := cell_of_row V1 W1.heap.size 6 _ _ _ hf1
  have c7 := cell_of_row V1 W1.heap.size 7 _ _ _ hf1
  have c8 := cell_of_row V1 W1.heap.size 8 _ _ _ hf1
  have c9 := cell_of_row V1 W1.heap.size 9 _ _ _ hf1
  have c10 := cell_of_row V1 W1.heap.size 10 _ _ _ hf1
  have c11 := cell_of_row V1 W1.heap.size 11 _ _ _ hf1
  obtain ⟨t0, t1, t2, t3, t4⟩ := HT1.out.cells
  unfold fieldZ fieldV shapeV
  simp only [List.cons_append, List.nil_append]
  have HF1 := hide hf1
  clear hb1 hz hf1 htw hl
  go_wp2_with fail
  rw [← hV1]
  clear hV1
  refine (HBy.out _).mono ?_
  rintro e w' ⟨rfl, rfl⟩
  go_wp2_with fail
  refine (HLv.out _ HB1.out).mono ?_
  rintro e W2 ⟨rfl, hb2⟩
  have HB2 := hide (HB1.out.trans (hb2.mono HB1.out.size))
  clear hb2
  go_wp2_with fail
  go_ret
  exact ⟨rfl, HB2.out⟩
set_option maxRecDepth 100000 in
set_option maxHeartbeats 4000000 in
theorem TokLaw_q1 (s : ByteArray) (tl tc : Int) (lf : Bool) (w : World) (hs : s.size ≤ 300) (hlen : 256 < s.size) (hasc : AscS w) (hmx : MaxW w) :
    Calls Tryd.prog 8 #[.agg #[.int .u8 3, .string s, .int .i64 tl, .int .i64 tc, .bool lf]] w fun e w' => e = .returned (.bool true) ∧ Below w.heap.size w w' := by
  have HLv : Hid (∀ W, Below w.heap.size w W → Calls Tryd.prog 17 #[] W fun e w' => e = .returned (.bool true) ∧ Below W.heap.size W w') := fun W hb => livesW_c W (hasc.below (.inl (Nat.le_refl _)) hb) (hmx.below hb)
  have h3 : ¬ (300 : Int) < (s.size : Int) := by omega
  have hs6 : s.size ≤ 1000000 := by omega
  obtain ⟨b0, hb0⟩ : ∃ b0, b0 = byteN s.data.toList := ⟨_, rfl⟩
  obtain ⟨i0, hi0⟩ : ∃ i0, i0 = byteB s.data.toList := ⟨_, rfl⟩
  have hl1 : (256 : Int) < (s.size : Int) := by omega
  have hl2 : ¬ (s.size : Int) < 1 := by omega
  have hll : s.data.toList.length = 0 ∨ 256 < s.data.toList.length := by rw [len_data]; exact .inr hlen
  have HLi : Hid (∀ W, Below w.heap.size w W → Calls Tryd.prog 25 #[.agg #[.int .u8 3, .string s, .int .i64 tl, .int .i64 tc, .bool lf]] W fun e w' => e = .returned (.tuple #[fieldZ, .int .i64 5]) ∧ Below W.heap.size W w') := fun W hb =>
    (Literal_r _ s tl tc lf W hs6 (hmx.below hb)).mono fun e w' h => h.err (by show (if (3 : Int) = 2 then _ else _) = _; rw [if_neg (by decide), if_pos rfl]; unfold txtR; rw [if_pos hll])
  have HBy : Hid (∀ W, Calls Tryd.prog 20 #[.string s] W fun e w' => e = .returned (.tuple #[.int .u8 b0, .bool i0]) ∧ W = w') := fun W => by rw [hb0, hi0]; exact Byte_c s W
  have HB0 := hide ((Below.refl _ w).alloc (Nat.le_refl _) (.cells #[.int .u8 3, .string s, .int .i64 tl, .int .i64 tc, .bool lf] 62))
  have HT0 : Hid (TokB (w.alloc (.cells #[.int .u8 3, .string s, .int .i64 tl, .int .i64 tc, .bool lf] 62)) w.heap.size 3 s tl tc lf) := heap_alloc_new w _
  clear hasc hmx hb0 hi0 hll
  go_enter Tryd.func8, Tryd.ntmps8
  go_wp2_with fail
  refine (HLi.out _ HB0.out).mono ?_
  rintro e W1 ⟨rfl, hb1⟩
  obtain ⟨V1, hV1⟩ : ∃ V1, V1 = W1.alloc (.cells #[.int .u8 0, .int .u8 0, .string ⟨#[]⟩, .int .i64 0, .int .i64 0, .bool false, .bool false, .bool false, .bool false, .bool false, .int .i64 0, .slice none 0 0] 55) := ⟨_, rfl⟩
  have hz := hb1.size
  have HB1 : Hid (Below w.heap.size w V1) := by unfold Hid; rw [hV1]; exact (HB0.out.trans (hb1.mono HB0.out.size)).alloc (by have := HB0.out.size; omega) _
  have hl : w.heap.size < (w.alloc (.cells #[.int .u8 3, .string s, .int .i64 tl, .int .i64 tc, .bool lf] 62)).heap.size := by simp
  have htw : TokB W1 w.heap.size 3 s tl tc lf := (hb1.block _ hl).trans HT0.out
  have hlw : w.heap.size < W1.heap.size := Nat.lt_of_lt_of_le hl hb1.size
  have HT1 : Hid (TokB V1 w.heap.size 3 s tl tc lf) := by
    unfold Hid; rw [hV1]
    exact (heap_alloc_old W1 _ hlw).trans htw
  obtain ⟨q0, q1, q2, q3, q4⟩ := htw.cells
  have hf1 : V1.heap[W1.heap.size]? = some (.cells #[.int .u8 0, .int .u8 0, .string ⟨#[]⟩, .int .i64 0, .int .i64 0, .bool false, .bool false, .bool false, .bool false, .bool false, .int .i64 0, .slice none 0 0] 55 (0, 0)) := by rw [hV1]; exact heap_alloc_new W1 _
  have c0 := cell_of_row V1 W1.heap.size 0 _ _ _ hf1
  have c1 := cell_of_row V1 W1.heap.size 1 _ _ _ hf1
  have c2 := cell_of_row V1 W1.heap.size 2 _ _ _ hf1
  have c3 := cell_of_row V1 W1.heap.size 3 _ _ _ hf1
  have c4 := cell_of_row V1 W1.heap.size 4 _ _ _ hf1
  have c5 := cell_of_row V1 W1.heap.size 5 _ _ _ hf1
  have c6 := cell_of_row V1 W1.heap.size 6 _ _ _ hf1
  have c7 := cell_of_row V1 W1.heap.size 7 _ _ _ hf1
  have c8 := cell_of_row V1 W1.heap.size 8 _ _ _ hf1
  have c9 := cell_of_row V1 W1.heap.size 9 _ _ _ hf1
  have c10 := cell_of_row V1 W1.heap.size 10 _ _ _ hf1
  have c11 := cell_of_row V1 W1.heap.size 11 _ _ _ hf1
  obtain ⟨t0, t1, t2, t3, t4⟩ := HT1.out.cells
  unfold fieldZ fieldV shapeV
  simp only [List.cons_append, List.nil_append]
  have HF1 := hide hf1
  clear hb1 hz hf1 htw hl
  go_wp2_with fail
  rw [← hV1]
  clear hV1
  refine (HBy.out _).mono ?_
  rintro e w' ⟨rfl, rfl⟩
  go_wp2_with fail
  refine (HLv.out _ HB1.out).mono ?_
  rintro e W2 ⟨rfl, hb2⟩
  have HB2 := hide (HB1.out.trans (hb2.mono HB1.out.size))
  clear hb2
  go_wp2_with fail
  go_ret
  exact ⟨rfl, HB2.out⟩
set_option maxRecDepth 100000 in
set_option maxHeartbeats 4000000 in
theorem TokLaw_k (s : ByteArray) (tl tc : Int) (lf : Bool) (w : World) (hs : s.size ≤ 300) (kd : Int) (h1 : kd ≠ 1) (h2 : kd ≠ 2) (h3k : kd ≠ 3) (hasc : AscS w) (hmx : MaxW w) :
    Calls Tryd.prog 8 #[.agg #[.int .u8 kd, .string s, .int .i64 tl, .int .i64 tc, .bool lf]] w fun e w' => e = .returned (.bool true) ∧ Below w.heap.size w w' := by
  have HLv : Hid (∀ W, Below w.heap.size w W → Calls Tryd.prog 17 #[] W fun e w' => e = .returned (.bool true) ∧ Below W.heap.size W w') := fun W hb => livesW_c W (hasc.below (.inl (Nat.le_refl _)) hb) (hmx.below hb)
  have h3 : ¬ (300 : Int) < (s.size : Int) := by omega
  have hs6 : s.size ≤ 1000000 := by omega
  obtain ⟨b0, hb0⟩ : ∃ b0, b0 = byteN s.data.toList := ⟨_, rfl⟩
  obtain ⟨i0, hi0⟩ : ∃ i0, i0 = byteB s.data.toList := ⟨_, rfl⟩
  have k1 : (kd == 1) = false := by simpa using h1
  have k1' : (kd != 1) = true := by simpa using h1
  have k2 : (kd == 2) = false := by simpa using h2
  have k3 : (kd == 3) = false := by simpa using h3k
  have HLi : Hid (∀ W, Below w.heap.size w W → Calls Tryd.prog 25 #[.agg #[.int .u8 kd, .string s, .int .i64 tl, .int .i64 tc, .bool lf]] W fun e w' => e = .returned (.tuple #[fieldZ, .int .i64 12]) ∧ Below W.heap.size W w') := fun W hb =>
    (Literal_r _ s tl tc lf W hs6 (hmx.below hb)).mono fun e w' h => h.err (by unfold litR; rw [if_neg h2, if_neg h3k, if_neg h1])
  have HBy : Hid (∀ W, Calls Tryd.prog 20 #[.string s] W fun e w' => e = .returned (.tuple #[.int .u8 b0, .bool i0]) ∧ W = w') := fun W => by rw [hb0, hi0]; exact Byte_c s W
  have HB0 := hide ((Below.refl _ w).alloc (Nat.le_refl _) (.cells #[.int .u8 kd, .string s, .int .i64 tl, .int .i64 tc, .bool lf] 62))
  have HT0 : Hid (TokB (w.alloc (.cells #[.int .u8 kd, .string s, .int .i64 tl, .int .i64 tc, .bool lf] 62)) w.heap.size kd s tl tc lf) := heap_alloc_new w _
  clear hasc hmx hb0 hi0 h1 h2 h3k
  go_enter Tryd.func8, Tryd.ntmps8
  go_wp2_with fail
  refine (HLi.out _ HB0.out).mono ?_
  rintro e W1 ⟨rfl, hb1⟩
  obtain ⟨V1, hV1⟩ : ∃ V1, V1 = W1.alloc (.cells #[.int .u8 0, .int .u8 0, .string ⟨#[]⟩, .int .i64 0, .int .i64 0, .bool false, .bool false, .bool false, .bool false, .bool false, .int .i64 0, .slice none 0 0] 55) := ⟨_, rfl⟩
  have hz := hb1.size
  have HB1 : Hid (Below w.heap.size w V1) := by unfold Hid; rw [hV1]; exact (HB0.out.trans (hb1.mono HB0.out.size)).alloc (by have := HB0.out.size; omega) _
  have hl : w.heap.size < (w.alloc (.cells #[.int .u8 kd, .string s, .int .i64 tl, .int .i64 tc, .bool lf] 62)).heap.size := by simp
  have htw : TokB W1 w.heap.size kd s tl tc lf := (hb1.block _ hl).trans HT0.out
  have hlw : w.heap.size < W1.heap.size := Nat.lt_of_lt_of_le hl hb1.size
  have HT1 : Hid (TokB V1 w.heap.size kd s tl tc lf) := by
    unfold Hid; rw [hV1]
    exact (heap_alloc_old W1 _ hlw).trans htw
  obtain ⟨q0, q1, q2, q3, q4⟩ := htw.cells
  have hf1 : V1.heap[W1.heap.size]? = some (.cells #[.int .u8 0, .int .u8 0, .string ⟨#[]⟩, .int .i64 0, .int .i64 0, .bool false, .bool false, .bool false, .bool false, .bool false, .int .i64 0, .slice none 0 0] 55 (0, 0)) := by rw [hV1]; exact heap_alloc_new W1 _
  have c0 := cell_of_row V1 W1.heap.size 0 _ _ _ hf1
  have c1 := cell_of_row V1 W1.heap.size 1 _ _ _ hf1
  have c2 := cell_of_row V1 W1.heap.size 2 _ _ _ hf1
  have c3 := cell_of_row V1 W1.heap.size 3 _ _ _ hf1
  have c4 := cell_of_row V1 W1.heap.size 4 _ _ _ hf1
  have c5 := cell_of_row V1 W1.heap.size 5 _ _ _ hf1
  have c6 := cell_of_row V1 W1.heap.size 6 _ _ _ hf1
  have c7 := cell_of_row V1 W1.heap.size 7 _ _ _ hf1
  have c8 := cell_of_row V1 W1.heap.size 8 _ _ _ hf1
  have c9 := cell_of_row V1 W1.heap.size 9 _ _ _ hf1
  have c10 := cell_of_row V1 W1.heap.size 10 _ _ _ hf1
  have c11 := cell_of_row V1 W1.heap.size 11 _ _ _ hf1
  obtain ⟨t0, t1, t2, t3, t4⟩ := HT1.out.cells
  unfold fieldZ fieldV shapeV
  simp only [List.cons_append, List.nil_append]
  have HF1 := hide hf1
  clear hb1 hz hf1 htw hl
  go_wp2_with fail
  rw [← hV1]
  clear hV1
  refine (HBy.out _).mono ?_
  rintro e w' ⟨rfl, rfl⟩
  go_wp2_with fail
  refine (HLv.out _ HB1.out).mono ?_
  rintro e W2 ⟨rfl, hb2⟩
  have HB2 := hide (HB1.out.trans (hb2.mono HB1.out.size))
  clear hb2
  go_wp2_with fail
  go_ret
  exact ⟨rfl, HB2.out⟩
set_option maxRecDepth 100000 in
set_option maxHeartbeats 4000000 in
theorem TokLaw_w (s : ByteArray) (tl tc : Int) (lf : Bool) (w : World) (hs : s.size ≤ 300) (hi : byteB s.data.toList = false) (hasc : AscS w) (hmx : MaxW w) :
    Calls Tryd.prog 8 #[.agg #[.int .u8 1, .string s, .int .i64 tl, .int .i64 tc, .bool lf]] w fun e w' => e = .returned (.bool true) ∧ Below w.heap.size w w' := by
  have HLv : Hid (∀ W, Below w.heap.size w W → Calls Tryd.prog 17 #[] W fun e w' => e = .returned (.bool true) ∧ Below W.heap.size W w') := fun W hb => livesW_c W (hasc.below (.inl (Nat.le_refl _)) hb) (hmx.below hb)
  have h3 : ¬ (300 : Int) < (s.size : Int) := by omega
  have hs6 : s.size ≤ 1000000 := by omega
  obtain ⟨b0, hb0⟩ : ∃ b0, b0 = byteN s.data.toList := ⟨_, rfl⟩
  have HLi : Hid (∀ W, Below w.heap.size w W → Calls Tryd.prog 25 #[.agg #[.int .u8 1, .string s, .int .i64 tl, .int .i64 tc, .bool lf]] W fun e w' => e = .returned (.tuple #[fieldZ, .int .i64 11]) ∧ Below W.heap.size W w') := fun W hb =>
    (Literal_r _ s tl tc lf W hs6 (hmx.below hb)).mono fun e w' h => h.err (by show (if (1 : Int) = 2 then _ else _) = _; rw [if_neg (by decide), if_neg (by decide), if_pos rfl]; unfold figR; rw [if_neg (by rw [hi]; simp)])
  have HBy : Hid (∀ W, Calls Tryd.prog 20 #[.string s] W fun e w' => e = .returned (.tuple #[.int .u8 b0, .bool false]) ∧ W = w') := fun W => by rw [hb0, ← hi]; exact Byte_c s W
  have HB0 := hide ((Below.refl _ w).alloc (Nat.le_refl _) (.cells #[.int .u8 1, .string s, .int .i64 tl, .int .i64 tc, .bool lf] 62))
  have HT0 : Hid (TokB (w.alloc (.cells #[.int .u8 1, .string s, .int .i64 tl, .int .i64 tc, .bool lf] 62)) w.heap.size 1 s tl tc lf) := heap_alloc_new w _
  clear hasc hmx hb0 hi
  go_enter Tryd.func8, Tryd.ntmps8
  go_wp2_with fail
  refine (HLi.out _ HB0.out).mono ?_
  rintro e W1 ⟨rfl, hb1⟩
  obtain ⟨V1, hV1⟩ : ∃ V1, V1 = W1.alloc (.cells #[.int .u8 0, .int .u8 0, .string ⟨#[]⟩, .int .i64 0, .int .i64 0, .bool false, .bool false, .bool false, .bool false, .bool false, .int .i64 0, .slice none 0 0] 55) := ⟨_, rfl⟩
  have hz := hb1.size
  have HB1 : Hid (Below w.heap.size w V1) := by unfold Hid; rw [hV1]; exact (HB0.out.trans (hb1.mono HB0.out.size)).alloc (by have := HB0.out.size; omega) _
  have hl : w.heap.size < (w.alloc (.cells #[.int .u8 1, .string s, .int .i64 tl, .int .i64 tc, .bool lf] 62)).heap.size := by simp
  have htw : TokB W1 w.heap.size 1 s tl tc lf := (hb1.block _ hl).trans HT0.out
  have hlw : w.heap.size < W1.heap.size := Nat.lt_of_lt_of_le hl hb1.size
  have HT1 : Hid (TokB V1 w.heap.size 1 s tl tc lf) := by
    unfold Hid; rw [hV1]
    exact (heap_alloc_old W1 _ hlw).trans htw
  obtain ⟨q0, q1, q2, q3, q4⟩ := htw.cells
  have hf1 : V1.heap[W1.heap.size]? = some (.cells #[.int .u8 0, .int .u8 0, .string ⟨#[]⟩, .int .i64 0, .int .i64 0, .bool false, .bool false, .bool false, .bool false, .bool false, .int .i64 0, .slice none 0 0] 55 (0, 0)) := by rw [hV1]; exact heap_alloc_new W1 _
  have c0 := cell_of_row V1 W1.heap.size 0 _ _ _ hf1
  have c1 := cell_of_row V1 W1.heap.size 1 _ _ _ hf1
  have c2 := cell_of_row V1 W1.heap.size 2 _ _ _ hf1
  have c3 := cell_of_row V1 W1.heap.size 3 _ _ _ hf1
  have c4 := cell_of_row V1 W1.heap.size 4 _ _ _ hf1
  have c5 := cell_of_row V1 W1.heap.size 5 _ _ _ hf1
  have c6 := cell_of_row V1 W1.heap.size 6 _ _ _ hf1
  have c7 := cell_of_row V1 W1.heap.size 7 _ _ _ hf1
  have c8 := cell_of_row V1 W1.heap.size 8 _ _ _ hf1
  have c9 := cell_of_row V1 W1.heap.size 9 _ _ _ hf1
  have c10 := cell_of_row V1 W1.heap.size 10 _ _ _ hf1
  have c11 := cell_of_row V1 W1.heap.size 11 _ _ _ hf1
  obtain ⟨t0, t1, t2, t3, t4⟩ := HT1.out.cells
  unfold fieldZ fieldV shapeV
  simp only [List.cons_append, List.nil_append]
  have HF1 := hide hf1
  clear hb1 hz hf1 htw hl
  go_wp2_with fail
  rw [← hV1]
  clear hV1
  refine (HBy.out _).mono ?_
  rintro e w' ⟨rfl, rfl⟩
  go_wp2_with fail
  refine (HLv.out _ HB1.out).mono ?_
  rintro e W2 ⟨rfl, hb2⟩
  have HB2 := hide (HB1.out.trans (hb2.mono HB1.out.size))
  clear hb2
  go_wp2_with fail
  go_ret
  exact ⟨rfl, HB2.out⟩
set_option maxRecDepth 100000 in
set_option maxHeartbeats 4000000 in
theorem TokLaw_z (s : ByteArray) (tl tc : Int) (lf : Bool) (w : World) (hs : s.size ≤ 300) (hi : byteB s.data.toList = true) (h48 : byteN s.data.toList = 48) (hasc : AscS w) (hmx : MaxW w) :
    Calls Tryd.prog 8 #[.agg #[.int .u8 1, .string s, .int .i64 tl, .int .i64 tc, .bool lf]] w fun e w' => e = .returned (.bool true) ∧ Below w.heap.size w w' := by
  have HLv : Hid (∀ W, Below w.heap.size w W → Calls Tryd.prog 17 #[] W fun e w' => e = .returned (.bool true) ∧ Below W.heap.size W w') := fun W hb => livesW_c W (hasc.below (.inl (Nat.le_refl _)) hb) (hmx.below hb)
  have h3 : ¬ (300 : Int) < (s.size : Int) := by omega
  have hs6 : s.size ≤ 1000000 := by omega
  have HLi : Hid (∀ W, Below w.heap.size w W → Calls Tryd.prog 25 #[.agg #[.int .u8 1, .string s, .int .i64 tl, .int .i64 tc, .bool lf]] W fun e w' => ∃ g, e = .returned (.tuple #[fieldV 4 ⟨#[57]⟩ 1 0 false 1 (.slice (some ⟨g, 0, none⟩) 1 1), .int .i64 0]) ∧ W.heap.size ≤ g ∧ Row w' g [48] ∧ Below W.heap.size W w') := fun W hb =>
    (Literal_r _ s tl tc lf W hs6 (hmx.below hb)).mono fun e w' h => h.ok (f := ⟨4, [57], 1, 0, false, [48]⟩) (by show (if (1 : Int) = 2 then _ else _) = _; rw [if_neg (by decide), if_neg (by decide), if_pos rfl]; unfold figR; rw [if_pos hi, if_pos h48]; rfl)
  have HBy : Hid (∀ W, Calls Tryd.prog 20 #[.string s] W fun e w' => e = .returned (.tuple #[.int .u8 48, .bool true]) ∧ W = w') := fun W => by rw [← h48, ← hi]; exact Byte_c s W
  have HB0 := hide ((Below.refl _ w).alloc (Nat.le_refl _) (.cells #[.int .u8 1, .string s, .int .i64 tl, .int .i64 tc, .bool lf] 62))
  have HT0 : Hid (TokB (w.alloc (.cells #[.int .u8 1, .string s, .int .i64 tl, .int .i64 tc, .bool lf] 62)) w.heap.size 1 s tl tc lf) := heap_alloc_new w _
  clear hasc hmx hi h48
  go_enter Tryd.func8, Tryd.ntmps8
  go_wp2_with fail
  refine (HLi.out _ HB0.out).mono ?_
  rintro e W1 ⟨g, rfl, hg, hrow, hb1⟩
  obtain ⟨V1, hV1⟩ : ∃ V1, V1 = W1.alloc (.cells #[.int .u8 4, .int .u8 0, .string ⟨#[57]⟩, .int .i64 1, .int .i64 0, .bool false, .bool false, .bool false, .bool false, .bool false, .int .i64 1, .slice (some ⟨g, 0, none⟩) 1 1] 55) := ⟨_, rfl⟩
  have hz := hb1.size
  have HB1 : Hid (Below w.heap.size w V1) := by unfold Hid; rw [hV1]; exact (HB0.out.trans (hb1.mono HB0.out.size)).alloc (by have := HB0.out.size; omega) _
  have hl : w.heap.size < (w.alloc (.cells #[.int .u8 1, .string s, .int .i64 tl, .int .i64 tc, .bool lf] 62)).heap.size := by simp
  have htw : TokB W1 w.heap.size 1 s tl tc lf := (hb1.block _ hl).trans HT0.out
  have hlw : w.heap.size < W1.heap.size := Nat.lt_of_lt_of_le hl hb1.size
  have HT1 : Hid (TokB V1 w.heap.size 1 s tl tc lf) := by
    unfold Hid; rw [hV1]
    exact (heap_alloc_old W1 _ hlw).trans htw
  obtain ⟨q0, q1, q2, q3, q4⟩ := htw.cells
  have hf1 : V1.heap[W1.heap.size]? = some (.cells #[.int .u8 4, .int .u8 0, .string ⟨#[57]⟩, .int .i64 1, .int .i64 0, .bool false, .bool false, .bool false, .bool false, .bool false, .int .i64 1, .slice (some ⟨g, 0, none⟩) 1 1] 55 (0, 0)) := by rw [hV1]; exact heap_alloc_new W1 _
  have c0 := cell_of_row V1 W1.heap.size 0 _ _ _ hf1
  have c1 := cell_of_row V1 W1.heap.size 1 _ _ _ hf1
  have c2 := cell_of_row V1 W1.heap.size 2 _ _ _ hf1
  have c3 := cell_of_row V1 W1.heap.size 3 _ _ _ hf1
  have c4 := cell_of_row V1 W1.heap.size 4 _ _ _ hf1
  have c5 := cell_of_row V1 W1.heap.size 5 _ _ _ hf1
  have c6 := cell_of_row V1 W1.heap.size 6 _ _ _ hf1
  have c7 := cell_of_row V1 W1.heap.size 7 _ _ _ hf1
  have c8 := cell_of_row V1 W1.heap.size 8 _ _ _ hf1
  have c9 := cell_of_row V1 W1.heap.size 9 _ _ _ hf1
  have c10 := cell_of_row V1 W1.heap.size 10 _ _ _ hf1
  have c11 := cell_of_row V1 W1.heap.size 11 _ _ _ hf1
  obtain ⟨t0, t1, t2, t3, t4⟩ := HT1.out.cells
  have hrw : Row V1 g [48] := by rw [hV1]; exact hrow.alloc _
  have hconv := hrw.text 1 1 rfl
  clear hrow hrw hg
  unfold fieldV shapeV
  simp only [List.cons_append, List.nil_append]
  have HF1 := hide hf1
  clear hb1 hz hf1 htw hl
  go_wp2_with fail
  rw [← hV1]
  clear hV1
  refine (HBy.out _).mono ?_
  rintro e w' ⟨rfl, rfl⟩
  go_wp2_with fail
  refine (HLv.out _ HB1.out).mono ?_
  rintro e W2 ⟨rfl, hb2⟩
  have HB2 := hide (HB1.out.trans (hb2.mono HB1.out.size))
  clear hb2
  go_wp2_with fail
  go_ret
  exact ⟨rfl, HB2.out⟩
set_option maxRecDepth 100000 in
set_option maxHeartbeats 4000000 in
theorem TokLaw_f (s : ByteArray) (tl tc : Int) (lf : Bool) (w : World) (hs : s.size ≤ 300) (hi : byteB s.data.toList = true) (h48 : byteN s.data.toList ≠ 48) (hasc : AscS w) (hmx : MaxW w) :
    Calls Tryd.prog 8 #[.agg #[.int .u8 1, .string s, .int .i64 tl, .int .i64 tc, .bool lf]] w fun e w' => e = .returned (.bool true) ∧ Below w.heap.size w w' := by
  have HLv : Hid (∀ W, Below w.heap.size w W → Calls Tryd.prog 17 #[] W fun e w' => e = .returned (.bool true) ∧ Below W.heap.size W w') := fun W hb => livesW_c W (hasc.below (.inl (Nat.le_refl _)) hb) (hmx.below hb)
  have h3 : ¬ (300 : Int) < (s.size : Int) := by omega
  have hs6 : s.size ≤ 1000000 := by omega
  have hbb := byteN_bound s.data.toList
  obtain ⟨b0, hb0⟩ : ∃ b0, b0 = byteN s.data.toList := ⟨_, rfl⟩
  obtain ⟨x, hx⟩ : ∃ x, x = UInt8.ofNat (byteN s.data.toList).toNat := ⟨_, rfl⟩
  have hxb : ((x.toNat : Nat) : Int) = b0 := by rw [hx, hb0, UInt8.toNat_ofNat']; omega
  have k48 : (b0 == 48) = false := by rw [hb0]; simpa using h48
  have HLi : Hid (∀ W, Below w.heap.size w W → Calls Tryd.prog 25 #[.agg #[.int .u8 1, .string s, .int .i64 tl, .int .i64 tc, .bool lf]] W fun e w' => ∃ g, e = .returned (.tuple #[fieldV 2 ⟨#[88]⟩ 0 0 false 1 (.slice (some ⟨g, 0, none⟩) 1 1), .int .i64 0]) ∧ W.heap.size ≤ g ∧ Row w' g [x] ∧ Below W.heap.size W w') := fun W hb =>
    (Literal_r _ s tl tc lf W hs6 (hmx.below hb)).mono fun e w' h => h.ok (f := ⟨2, [88], 0, 0, false, [x]⟩) (by show (if (1 : Int) = 2 then _ else _) = _; rw [if_neg (by decide), if_neg (by decide), if_pos rfl]; unfold figR; rw [if_pos hi, if_neg h48, ← hx]; rfl)
  have HBy : Hid (∀ W, Calls Tryd.prog 20 #[.string s] W fun e w' => e = .returned (.tuple #[.int .u8 b0, .bool true]) ∧ W = w') := fun W => by rw [hb0, ← hi]; exact Byte_c s W
  have HB0 := hide ((Below.refl _ w).alloc (Nat.le_refl _) (.cells #[.int .u8 1, .string s, .int .i64 tl, .int .i64 tc, .bool lf] 62))
  have HT0 : Hid (TokB (w.alloc (.cells #[.int .u8 1, .string s, .int .i64 tl, .int .i64 tc, .bool lf] 62)) w.heap.size 1 s tl tc lf) := heap_alloc_new w _
  clear hasc hmx hi h48 hb0 hx hbb
  go_enter Tryd.func8, Tryd.ntmps8
  go_wp2_with fail
  refine (HLi.out _ HB0.out).mono ?_
  rintro e W1 ⟨g, rfl, hg, hrow, hb1⟩
  obtain ⟨V1, hV1⟩ : ∃ V1, V1 = W1.alloc (.cells #[.int .u8 2, .int .u8 0, .string ⟨#[88]⟩, .int .i64 0, .int .i64 0, .bool false, .bool false, .bool false, .bool false, .bool false, .int .i64 1, .slice (some ⟨g, 0, none⟩) 1 1] 55) := ⟨_, rfl⟩
  have hz := hb1.size
  have HB1 : Hid (Below w.heap.size w V1) := by unfold Hid; rw [hV1]; exact (HB0.out.trans (hb1.mono HB0.out.size)).alloc (by have := HB0.out.size; omega) _
  have hl : w.heap.size < (w.alloc (.cells #[.int .u8 1, .string s, .int .i64 tl, .int .i64 tc, .bool lf] 62)).heap.size := by simp
  have htw : TokB W1 w.heap.size 1 s tl tc lf := (hb1.block _ hl).trans HT0.out
  have hlw : w.heap.size < W1.heap.size := Nat.lt_of_lt_of_le hl hb1.size
  have HT1 : Hid (TokB V1 w.heap.size 1 s tl tc lf) := by
    unfold Hid; rw [hV1]
    exact (heap_alloc_old W1 _ hlw).trans htw
  obtain ⟨q0, q1, q2, q3, q4⟩ := htw.cells
  have hf1 : V1.heap[W1.heap.size]? = some (.cells #[.int .u8 2, .int .u8 0, .string ⟨#[88]⟩, .int .i64 0, .int .i64 0, .bool false, .bool false, .bool false, .bool false, .bool false, .int .i64 1, .slice (some ⟨g, 0, none⟩) 1 1] 55 (0, 0)) := by rw [hV1]; exact heap_alloc_new W1 _
  have c0 := cell_of_row V1 W1.heap.size 0 _ _ _ hf1
  have c1 := cell_of_row V1 W1.heap.size 1 _ _ _ hf1
  have c2 := cell_of_row V1 W1.heap.size 2 _ _ _ hf1
  have c3 := cell_of_row V1 W1.heap.size 3 _ _ _ hf1
  have c4 := cell_of_row V1 W1.heap.size 4 _ _ _ hf1
  have c5 := cell_of_row V1 W1.heap.size 5 _ _ _ hf1
  have c6 := cell_of_row V1 W1.heap.size 6 _ _ _ hf1
  have c7 := cell_of_row V1 W1.heap.size 7 _ _ _ hf1
  have c8 := cell_of_row V1 W1.heap.size 8 _ _ _ hf1
  have c9 := cell_of_row V1 W1.heap.size 9 _ _ _ hf1
  have c10 := cell_of_row V1 W1.heap.size 10 _ _ _ hf1
  have c11 := cell_of_row V1 W1.heap.size 11 _ _ _ hf1
  obtain ⟨t0, t1, t2, t3, t4⟩ := HT1.out.cells
  have hrw : Row V1 g [x] := by rw [hV1]; exact hrow.alloc _
  have hcl := (hrw.at_ 0 (by simp)).1
  rw [show [x][0] = x from rfl, hxb] at hcl
  clear hrow hrw hg hxb
  unfold fieldV shapeV
  simp only [List.cons_append, List.nil_append]
  have HF1 := hide hf1
  clear hb1 hz hf1 htw hl
  go_wp2_with fail
  rw [← hV1]
  clear hV1
  refine (HBy.out _).mono ?_
  rintro e w' ⟨rfl, rfl⟩
  go_wp2_with fail
  refine (HLv.out _ HB1.out).mono ?_
  rintro e W2 ⟨rfl, hb2⟩
  have HB2 := hide (HB1.out.trans (hb2.mono HB1.out.size))
  clear hb2
  go_wp2_with fail
  go_ret
  exact ⟨rfl, HB2.out⟩
set_option maxRecDepth 100000 in
set_option maxHeartbeats 4000000 in
theorem TokLaw_t (s : ByteArray) (tl tc : Int) (lf : Bool) (w : World) (hs : s.size ≤ 300) (h0 : 0 < s.size) (h256 : s.size ≤ 256) (hasc : AscS w) (hmx : MaxW w) :
    Calls Tryd.prog 8 #[.agg #[.int .u8 3, .string s, .int .i64 tl, .int .i64 tc, .bool lf]] w fun e w' => e = .returned (.bool true) ∧ Below w.heap.size w w' := by
  have HLv : Hid (∀ W, Below w.heap.size w W → Calls Tryd.prog 17 #[] W fun e w' => e = .returned (.bool true) ∧ Below W.heap.size W w') := fun W hb => livesW_c W (hasc.below (.inl (Nat.le_refl _)) hb) (hmx.below hb)
  have h3 : ¬ (300 : Int) < (s.size : Int) := by omega
  have hs6 : s.size ≤ 1000000 := by omega
  obtain ⟨b0, hb0⟩ : ∃ b0, b0 = byteN s.data.toList := ⟨_, rfl⟩
  obtain ⟨i0, hi0⟩ : ∃ i0, i0 = byteB s.data.toList := ⟨_, rfl⟩
  have hl1 : ¬ (256 : Int) < (s.size : Int) := by omega
  have hl2 : ¬ (s.size : Int) < 1 := by omega
  have hll : ¬ (s.data.toList.length = 0 ∨ 256 < s.data.toList.length) := by rw [len_data]; omega
  obtain ⟨P, hP⟩ : ∃ P, P = mk (List.replicate s.size 88) := ⟨_, rfl⟩
  have HRp : Hid (∀ w1, Calls Tryd.prog 24 #[.string ⟨#[88]⟩, .int .i64 (s.size : Int)] w1 fun e w' => e = .returned (.string P) ∧ Below w1.heap.size w1 w') := fun w1 => by
    refine (Tryd.strings_Repeat ⟨#[88]⟩ s.size w1 (by omega) (by show 1 * s.size ≤ _; omega)).mono ?_
    rintro e w' ⟨rfl, hb⟩
    refine ⟨?_, hb⟩
    rw [hP, show (⟨#[88]⟩ : ByteArray).data.toList = [88] from rfl, repeatL_one]
    rfl
  have HLi : Hid (∀ W, Below w.heap.size w W → Calls Tryd.prog 25 #[.agg #[.int .u8 3, .string s, .int .i64 tl, .int .i64 tc, .bool lf]] W fun e w' => ∃ g, e = .returned (.tuple #[fieldV 2 P 0 0 false s.size (.slice (some ⟨g, 0, none⟩) s.size s.size), .int .i64 0]) ∧ W.heap.size ≤ g ∧ Row w' g s.data.toList ∧ Below W.heap.size W w') := fun W hb =>
    (Literal_r _ s tl tc lf W hs6 (hmx.below hb)).mono fun e w' h => by have h2 := h.ok (f := ⟨2, List.replicate s.data.toList.length 88, 0, 0, false, s.data.toList⟩) (by show (if (3 : Int) = 2 then _ else _) = _; rw [if_neg (by decide), if_pos rfl]; unfold txtR; rw [if_neg hll]); simp only [len_data] at h2; rw [hP]; exact h2
  have HBy : Hid (∀ W, Calls Tryd.prog 20 #[.string s] W fun e w' => e = .returned (.tuple #[.int .u8 b0, .bool i0]) ∧ W = w') := fun W => by rw [hb0, hi0]; exact Byte_c s W
  have HB0 := hide ((Below.refl _ w).alloc (Nat.le_refl _) (.cells #[.int .u8 3, .string s, .int .i64 tl, .int .i64 tc, .bool lf] 62))
  have HT0 : Hid (TokB (w.alloc (.cells #[.int .u8 3, .string s, .int .i64 tl, .int .i64 tc, .bool lf] 62)) w.heap.size 3 s tl tc lf) := heap_alloc_new w _
  clear hasc hmx hb0 hi0 hll hP h0 h256
  go_enter Tryd.func8, Tryd.ntmps8
  go_wp2_with fail
  refine (HLi.out _ HB0.out).mono ?_
  rintro e W1 ⟨g, rfl, hg, hrow, hb1⟩
  obtain ⟨V1, hV1⟩ : ∃ V1, V1 = W1.alloc (.cells #[.int .u8 2, .int .u8 0, .string P, .int .i64 0, .int .i64 0, .bool false, .bool false, .bool false, .bool false, .bool false, .int .i64 s.size, .slice (some ⟨g, 0, none⟩) s.size s.size] 55) := ⟨_, rfl⟩
  have hz := hb1.size
  have HB1 : Hid (Below w.heap.size w V1) := by unfold Hid; rw [hV1]; exact (HB0.out.trans (hb1.mono HB0.out.size)).alloc (by have := HB0.out.size; omega) _
  have hl : w.heap.size < (w.alloc (.cells #[.int .u8 3, .string s, .int .i64 tl, .int .i64 tc, .bool lf] 62)).heap.size := by simp
  have htw : TokB W1 w.heap.size 3 s tl tc lf := (hb1.block _ hl).trans HT0.out
  have hlw : w.heap.size < W1.heap.size := Nat.lt_of_lt_of_le hl hb1.size
  have HT1 : Hid (TokB V1 w.heap.size 3 s tl tc lf) := by
    unfold Hid; rw [hV1]
    exact (heap_alloc_old W1 _ hlw).trans htw
  obtain ⟨q0, q1, q2, q3, q4⟩ := htw.cells
  have hf1 : V1.heap[W1.heap.size]? = some (.cells #[.int .u8 2, .int .u8 0, .string P, .int .i64 0, .int .i64 0, .bool false, .bool false, .bool false, .bool false, .bool false, .int .i64 s.size, .slice (some ⟨g, 0, none⟩) s.size s.size] 55 (0, 0)) := by rw [hV1]; exact heap_alloc_new W1 _
  have c0 := cell_of_row V1 W1.heap.size 0 _ _ _ hf1
  have c1 := cell_of_row V1 W1.heap.size 1 _ _ _ hf1
  have c2 := cell_of_row V1 W1.heap.size 2 _ _ _ hf1
  have c3 := cell_of_row V1 W1.heap.size 3 _ _ _ hf1
  have c4 := cell_of_row V1 W1.heap.size 4 _ _ _ hf1
  have c5 := cell_of_row V1 W1.heap.size 5 _ _ _ hf1
  have c6 := cell_of_row V1 W1.heap.size 6 _ _ _ hf1
  have c7 := cell_of_row V1 W1.heap.size 7 _ _ _ hf1
  have c8 := cell_of_row V1 W1.heap.size 8 _ _ _ hf1
  have c9 := cell_of_row V1 W1.heap.size 9 _ _ _ hf1
  have c10 := cell_of_row V1 W1.heap.size 10 _ _ _ hf1
  have c11 := cell_of_row V1 W1.heap.size 11 _ _ _ hf1
  obtain ⟨t0, t1, t2, t3, t4⟩ := HT1.out.cells
  have HRW : Hid (Row V1 g s.data.toList) := by unfold Hid; rw [hV1]; exact hrow.alloc _
  clear hrow hg
  unfold fieldV shapeV
  simp only [List.cons_append, List.nil_append]
  have HF1 := hide hf1
  clear hb1 hz hf1 htw hl
  go_wp2_with fail
  rw [← hV1]
  clear hV1
  refine (HBy.out _).mono ?_
  rintro e w' ⟨rfl, rfl⟩
  go_wp2_with fail
  obtain ⟨t0, t1, t2, t3, t4⟩ := HT1.out.cells
  have r0 := cell_regrown c0
  have r1 := cell_regrown c1
  have r2 := cell_regrown c2
  have r3 := cell_regrown c3
  have r4 := cell_regrown c4
  have r5 := cell_regrown c5
  have r6 := cell_regrown c6
  have r7 := cell_regrown c7
  have r8 := cell_regrown c8
  have r9 := cell_regrown c9
  have r10 := cell_regrown c10
  have r11 := cell_regrown c11
  have y0 := cell_regrown t0
  have y1 := cell_regrown t1
  have cR : ∀ d os, Calls Tryd.prog 24 #[.string ⟨#[88]⟩, .int .i64 (s.size : Int)] (Go.Sort.grow (redrawn V1 d) os) fun e w'' => e = .returned (.string P) ∧ ∃ p : Regrown, w'' = Go.Sort.grow (redrawn V1 p.d) p.os := fun d os => Calls.regrown_of (HRp.out _)
  have cL : ∀ d os, Calls Tryd.prog 17 #[] (Go.Sort.grow (redrawn V1 d) os) fun e w'' => e = .returned (.bool true) ∧ ∃ p : Regrown, w'' = Go.Sort.grow (redrawn V1 p.d) p.os := fun d os => Calls.regrown_of (HLv.out _ (HB1.out.trans ((below_regrown V1 d os).mono HB1.out.size)))
  have hcv : ∀ d os, (convert 53 9 (.slice (some ⟨g, 0, none⟩) s.size s.size)).run Tryd.prog (Go.Sort.grow (redrawn V1 d) os) = .ok (.string s) (Go.Sort.grow (redrawn V1 d) os) := fun d os => by
    have h := (HRW.out.below (below_regrown V1 d os) HRW.out.1).text s.size s.size (len_data s).symm
    rw [show (⟨s.data.toList.toArray⟩ : ByteArray) = s from rfl] at h
    exact h
  refine wp_region_quiet_below (by kernel_rfl) (by kernel_rfl) ?_
  repeat (any_goals (first | go_big_quiet_step (first | exact cR _ _ | exact cL _ _) | quiet_step (first | exact cR _ _ | exact cL _ _)))
  all_goals
    refine wpQuiet_nil ?_
    intro _ hw'
    obtain ⟨⟨dq, osq⟩, hw''⟩ := hw'
    subst hw''
    go_wp2_with fail
    go_ret
    exact ⟨rfl, HB1.out.trans ((below_regrown V1 dq osq).mono HB1.out.size)⟩
end Go.Proofs.YtghnffdjdjlomaaDoor
