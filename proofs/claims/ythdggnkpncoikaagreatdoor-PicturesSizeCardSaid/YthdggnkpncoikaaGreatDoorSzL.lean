/-
  THE LAW PicturesSize (layer 6, pictures).
-/
import Derived.Test.YthdggnkpncoikaaGreatDoorLvP
import Derived.Test.YthdggnkpncoikaaGreatDoorSzR
namespace Go.Proofs.YthdggnkpncoikaaGreatDoor
open Go.RowKit Go.Shelf

theorem ShAt.all {w : World} {b : Nat} {c us : Int} {pic : ByteArray} {d sc : Int} {sg ld sep ju bl : Bool} {n : Int} (h : ShAt w b c us pic d sc sg ld sep ju bl n) :
    w.cell? ⟨b, 0, none⟩ = some (.int .u8 c) ∧ w.cell? ⟨b, 1, none⟩ = some (.int .u8 us) ∧ w.cell? ⟨b, 2, none⟩ = some (.string pic) ∧ w.cell? ⟨b, 3, none⟩ = some (.int .i64 d) ∧ w.cell? ⟨b, 4, none⟩ = some (.int .i64 sc) ∧ w.cell? ⟨b, 5, none⟩ = some (.bool sg) ∧ w.cell? ⟨b, 6, none⟩ = some (.bool ld) ∧ w.cell? ⟨b, 7, none⟩ = some (.bool sep) ∧ w.cell? ⟨b, 8, none⟩ = some (.bool ju) ∧ w.cell? ⟨b, 9, none⟩ = some (.bool bl) ∧ w.cell? ⟨b, 10, none⟩ = some (.int .i64 n) :=
  ⟨cell_of_row w b 0 _ _ _ h, cell_of_row w b 1 _ _ _ h, cell_of_row w b 2 _ _ _ h, cell_of_row w b 3 _ _ _ h, cell_of_row w b 4 _ _ _ h, cell_of_row w b 5 _ _ _ h, cell_of_row w b 6 _ _ _ h, cell_of_row w b 7 _ _ _ h, cell_of_row w b 8 _ _ _ h, cell_of_row w b 9 _ _ _ h, cell_of_row w b 10 _ _ _ h⟩
theorem ShAt.below {w w' : World} {b : Nat} {c us : Int} {pic : ByteArray} {d sc : Int} {sg ld sep ju bl : Bool} {n : Int} (h : ShAt w b c us pic d sc sg ld sep ju bl n) (hb : Below w.heap.size w w') : ShAt w' b c us pic d sc sg ld sep ju bl n :=
  (hb.block b (Array.getElem?_eq_some_iff.1 h).1).trans h
set_option maxRecDepth 100000 in
set_option maxHeartbeats 2000000 in
theorem SizLaw_far (c us : Int) (pic : ByteArray) (d sc : Int) (sg ld sep ju bl : Bool) (n : Int) (w : World) (hc0 : 0 ≤ c) (hc1 : c ≤ 255) (hu0 : 0 ≤ us) (hu1 : us ≤ 255) (hp : pic.size ≤ maxLen) (he : EnvP w) (h : 300 < pic.size) :
    Calls Tryz.prog 6 #[.agg #[.int .u8 c, .int .u8 us, .string pic, .int .i64 d, .int .i64 sc, .bool sg, .bool ld, .bool sep, .bool ju, .bool bl, .int .i64 n]] w fun e w' => e = .returned (.bool true) ∧ Below w.heap.size w w' := by
  unfold maxLen at hp
  have HLv : Hid (∀ W, Below w.heap.size w W → Calls Tryz.prog 7 #[] W fun e w' => e = .returned (.bool true) ∧ Below W.heap.size W w') := fun W hb => livesP_c W (he.below hb)
  obtain ⟨W, hW⟩ : ∃ W, W = w.alloc (.cells #[.int .u8 c, .int .u8 us, .string pic, .int .i64 d, .int .i64 sc, .bool sg, .bool ld, .bool sep, .bool ju, .bool bl, .int .i64 n] 33) := ⟨_, rfl⟩
  have hsh : ShAt W w.heap.size c us pic d sc sg ld sep ju bl n := by rw [hW]; exact heap_alloc_new w _
  obtain ⟨c0, c1, c2, c3, c4, c5, c6, c7, c8, c9, c10⟩ := hsh.all
  have HB : Hid (Below w.heap.size w W) := by unfold Hid; rw [hW]; exact below1 w _
  have HSH := hide hsh
  have HW := hide hW
  clear hW hsh he
  clear c0 c1 c3 c4 c5 c6 c7 c8 c9 c10
  go_enter Tryz.func6, Tryz.ntmps6
  go_upto_region 1 with fail
  with_reducible rw [← HW.out]
  clear HW
  go_wp2_with fail
  refine (HLv.out _ HB.out).mono ?_
  rintro e w9 ⟨rfl, hb9⟩
  go_wp2_with fail
  go_ret
  exact ⟨rfl, HB.out.trans (hb9.mono HB.out.size)⟩
set_option maxRecDepth 100000 in
set_option maxHeartbeats 2000000 in
theorem SizLaw_cat (c us : Int) (pic : ByteArray) (d sc : Int) (sg ld sep ju bl : Bool) (n : Int) (w : World) (hc0 : 0 ≤ c) (hc1 : c ≤ 255) (hu0 : 0 ≤ us) (hu1 : us ≤ 255) (hp : pic.size ≤ maxLen) (he : EnvP w) (h300 : pic.size ≤ 300) (h5 : 5 < c) :
    Calls Tryz.prog 6 #[.agg #[.int .u8 c, .int .u8 us, .string pic, .int .i64 d, .int .i64 sc, .bool sg, .bool ld, .bool sep, .bool ju, .bool bl, .int .i64 n]] w fun e w' => e = .returned (.bool true) ∧ Below w.heap.size w w' := by
  unfold maxLen at hp
  have HLv : Hid (∀ W, Below w.heap.size w W → Calls Tryz.prog 7 #[] W fun e w' => e = .returned (.bool true) ∧ Below W.heap.size W w') := fun W hb => livesP_c W (he.below hb)
  obtain ⟨W, hW⟩ : ∃ W, W = w.alloc (.cells #[.int .u8 c, .int .u8 us, .string pic, .int .i64 d, .int .i64 sc, .bool sg, .bool ld, .bool sep, .bool ju, .bool bl, .int .i64 n] 33) := ⟨_, rfl⟩
  have hsh : ShAt W w.heap.size c us pic d sc sg ld sep ju bl n := by rw [hW]; exact heap_alloc_new w _
  obtain ⟨c0, c1, c2, c3, c4, c5, c6, c7, c8, c9, c10⟩ := hsh.all
  have HB : Hid (Below w.heap.size w W) := by unfold Hid; rw [hW]; exact below1 w _
  have HSH := hide hsh
  have HW := hide hW
  clear hW hsh he
  have hq : sizQ c us pic.data.toList d sep n = (0, 12) := if_pos (.inl h5)
  have HS : Hid (∀ W, Calls Tryz.prog 15 #[.agg #[.int .u8 c, .int .u8 us, .string pic, .int .i64 d, .int .i64 sc, .bool sg, .bool ld, .bool sep, .bool ju, .bool bl, .int .i64 n]] W fun e w' => e = .returned (.tuple #[.int .i64 0, .int .i64 12]) ∧ Below W.heap.size W w') := fun W => by
    have h1 := Size_c c us pic d sc sg ld sep ju bl n W hc0 hc1 hu0 hu1 (by omega)
    rw [hq] at h1
    exact h1
  clear hq
  go_enter Tryz.func6, Tryz.ntmps6
  go_upto_region 1 with fail
  with_reducible rw [← HW.out]
  clear HW
  go_wp2_with fail
  refine (HS.out W).mono ?_
  rintro e w2 ⟨rfl, hb2⟩
  have HB2 : Hid (Below w.heap.size w w2) := HB.out.trans (hb2.mono HB.out.size)
  have HSH2 : Hid (ShAt w2 w.heap.size c us pic d sc sg ld sep ju bl n) := HSH.out.below hb2
  clear c0 c1 c2 c3 c4 c5 c6 c7 c8 c9 c10 hb2
  obtain ⟨c0, c1, c2, c3, c4, c5, c6, c7, c8, c9, c10⟩ := HSH2.out.all
  go_wp2_with fail
  refine (HLv.out _ HB2.out).mono ?_
  rintro e w9 ⟨rfl, hb9⟩
  go_wp2_with fail
  go_ret
  exact ⟨rfl, HB2.out.trans (hb9.mono HB2.out.size)⟩
set_option maxRecDepth 100000 in
set_option maxHeartbeats 2000000 in
theorem SizLaw_usg (c us : Int) (pic : ByteArray) (d sc : Int) (sg ld sep ju bl : Bool) (n : Int) (w : World) (hc0 : 0 ≤ c) (hc1 : c ≤ 255) (hu0 : 0 ≤ us) (hu1 : us ≤ 255) (hp : pic.size ≤ maxLen) (he : EnvP w) (h300 : pic.size ≤ 300) (h5 : ¬ 5 < c) (h2 : 2 < us) :
    Calls Tryz.prog 6 #[.agg #[.int .u8 c, .int .u8 us, .string pic, .int .i64 d, .int .i64 sc, .bool sg, .bool ld, .bool sep, .bool ju, .bool bl, .int .i64 n]] w fun e w' => e = .returned (.bool true) ∧ Below w.heap.size w w' := by
  unfold maxLen at hp
  have HLv : Hid (∀ W, Below w.heap.size w W → Calls Tryz.prog 7 #[] W fun e w' => e = .returned (.bool true) ∧ Below W.heap.size W w') := fun W hb => livesP_c W (he.below hb)
  obtain ⟨W, hW⟩ : ∃ W, W = w.alloc (.cells #[.int .u8 c, .int .u8 us, .string pic, .int .i64 d, .int .i64 sc, .bool sg, .bool ld, .bool sep, .bool ju, .bool bl, .int .i64 n] 33) := ⟨_, rfl⟩
  have hsh : ShAt W w.heap.size c us pic d sc sg ld sep ju bl n := by rw [hW]; exact heap_alloc_new w _
  obtain ⟨c0, c1, c2, c3, c4, c5, c6, c7, c8, c9, c10⟩ := hsh.all
  have HB : Hid (Below w.heap.size w W) := by unfold Hid; rw [hW]; exact below1 w _
  have HSH := hide hsh
  have HW := hide hW
  clear hW hsh he
  have hq : sizQ c us pic.data.toList d sep n = (0, 12) := if_pos (.inr h2)
  have HS : Hid (∀ W, Calls Tryz.prog 15 #[.agg #[.int .u8 c, .int .u8 us, .string pic, .int .i64 d, .int .i64 sc, .bool sg, .bool ld, .bool sep, .bool ju, .bool bl, .int .i64 n]] W fun e w' => e = .returned (.tuple #[.int .i64 0, .int .i64 12]) ∧ Below W.heap.size W w') := fun W => by
    have h1 := Size_c c us pic d sc sg ld sep ju bl n W hc0 hc1 hu0 hu1 (by omega)
    rw [hq] at h1
    exact h1
  clear hq
  go_enter Tryz.func6, Tryz.ntmps6
  go_upto_region 1 with fail
  with_reducible rw [← HW.out]
  clear HW
  go_wp2_with fail
  refine (HS.out W).mono ?_
  rintro e w2 ⟨rfl, hb2⟩
  have HB2 : Hid (Below w.heap.size w w2) := HB.out.trans (hb2.mono HB.out.size)
  have HSH2 : Hid (ShAt w2 w.heap.size c us pic d sc sg ld sep ju bl n) := HSH.out.below hb2
  clear c0 c1 c2 c3 c4 c5 c6 c7 c8 c9 c10 hb2
  obtain ⟨c0, c1, c2, c3, c4, c5, c6, c7, c8, c9, c10⟩ := HSH2.out.all
  go_wp2_with fail
  refine (HLv.out _ HB2.out).mono ?_
  rintro e w9 ⟨rfl, hb9⟩
  go_wp2_with fail
  go_ret
  exact ⟨rfl, HB2.out.trans (hb9.mono HB2.out.size)⟩
set_option maxRecDepth 100000 in
set_option maxHeartbeats 2000000 in
theorem SizLaw_dlo (c us : Int) (pic : ByteArray) (d sc : Int) (sg ld sep ju bl : Bool) (n : Int) (w : World) (hc0 : 0 ≤ c) (hc1 : c ≤ 255) (hu0 : 0 ≤ us) (hu1 : us ≤ 255) (hp : pic.size ≤ maxLen) (he : EnvP w) (h300 : pic.size ≤ 300) (h5 : ¬ 5 < c) (h2 : ¬ 2 < us) (h4 : c = 4) (hd : d < 1) :
    Calls Tryz.prog 6 #[.agg #[.int .u8 c, .int .u8 us, .string pic, .int .i64 d, .int .i64 sc, .bool sg, .bool ld, .bool sep, .bool ju, .bool bl, .int .i64 n]] w fun e w' => e = .returned (.bool true) ∧ Below w.heap.size w w' := by
  unfold maxLen at hp
  have HLv : Hid (∀ W, Below w.heap.size w W → Calls Tryz.prog 7 #[] W fun e w' => e = .returned (.bool true) ∧ Below W.heap.size W w') := fun W hb => livesP_c W (he.below hb)
  obtain ⟨W, hW⟩ : ∃ W, W = w.alloc (.cells #[.int .u8 c, .int .u8 us, .string pic, .int .i64 d, .int .i64 sc, .bool sg, .bool ld, .bool sep, .bool ju, .bool bl, .int .i64 n] 33) := ⟨_, rfl⟩
  have hsh : ShAt W w.heap.size c us pic d sc sg ld sep ju bl n := by rw [hW]; exact heap_alloc_new w _
  obtain ⟨c0, c1, c2, c3, c4, c5, c6, c7, c8, c9, c10⟩ := hsh.all
  have HB : Hid (Below w.heap.size w W) := by unfold Hid; rw [hW]; exact below1 w _
  have HSH := hide hsh
  have HW := hide hW
  clear hW hsh he
  have hq : sizQ c us pic.data.toList d sep n = (0, 1) := by unfold sizQ; rw [if_neg (by omega), if_pos h4]; exact if_pos (.inl hd)
  have hcb : (c == 4) = true := by rw [h4]; rfl
  have H4 := hide h4
  clear h4
  have HS : Hid (∀ W, Calls Tryz.prog 15 #[.agg #[.int .u8 c, .int .u8 us, .string pic, .int .i64 d, .int .i64 sc, .bool sg, .bool ld, .bool sep, .bool ju, .bool bl, .int .i64 n]] W fun e w' => e = .returned (.tuple #[.int .i64 0, .int .i64 1]) ∧ Below W.heap.size W w') := fun W => by
    have h1 := Size_c c us pic d sc sg ld sep ju bl n W hc0 hc1 hu0 hu1 (by omega)
    rw [hq] at h1
    exact h1
  clear hq
  go_enter Tryz.func6, Tryz.ntmps6
  go_upto_region 1 with fail
  with_reducible rw [← HW.out]
  clear HW
  go_wp2_with fail
  refine (HS.out W).mono ?_
  rintro e w2 ⟨rfl, hb2⟩
  have HB2 : Hid (Below w.heap.size w w2) := HB.out.trans (hb2.mono HB.out.size)
  have HSH2 : Hid (ShAt w2 w.heap.size c us pic d sc sg ld sep ju bl n) := HSH.out.below hb2
  clear c0 c1 c2 c3 c4 c5 c6 c7 c8 c9 c10 hb2
  obtain ⟨c0, c1, c2, c3, c4, c5, c6, c7, c8, c9, c10⟩ := HSH2.out.all
  go_wp2_with fail
  refine (HLv.out _ HB2.out).mono ?_
  rintro e w9 ⟨rfl, hb9⟩
  go_wp2_with fail
  go_ret
  exact ⟨rfl, HB2.out.trans (hb9.mono HB2.out.size)⟩
set_option maxRecDepth 100000 in
set_option maxHeartbeats 2000000 in
theorem SizLaw_dhi (c us : Int) (pic : ByteArray) (d sc : Int) (sg ld sep ju bl : Bool) (n : Int) (w : World) (hc0 : 0 ≤ c) (hc1 : c ≤ 255) (hu0 : 0 ≤ us) (hu1 : us ≤ 255) (hp : pic.size ≤ maxLen) (he : EnvP w) (h300 : pic.size ≤ 300) (h5 : ¬ 5 < c) (h2 : ¬ 2 < us) (h4 : c = 4) (hd : 18 < d) :
    Calls Tryz.prog 6 #[.agg #[.int .u8 c, .int .u8 us, .string pic, .int .i64 d, .int .i64 sc, .bool sg, .bool ld, .bool sep, .bool ju, .bool bl, .int .i64 n]] w fun e w' => e = .returned (.bool true) ∧ Below w.heap.size w w' := by
  unfold maxLen at hp
  have HLv : Hid (∀ W, Below w.heap.size w W → Calls Tryz.prog 7 #[] W fun e w' => e = .returned (.bool true) ∧ Below W.heap.size W w') := fun W hb => livesP_c W (he.below hb)
  obtain ⟨W, hW⟩ : ∃ W, W = w.alloc (.cells #[.int .u8 c, .int .u8 us, .string pic, .int .i64 d, .int .i64 sc, .bool sg, .bool ld, .bool sep, .bool ju, .bool bl, .int .i64 n] 33) := ⟨_, rfl⟩
  have hsh : ShAt W w.heap.size c us pic d sc sg ld sep ju bl n := by rw [hW]; exact heap_alloc_new w _
  obtain ⟨c0, c1, c2, c3, c4, c5, c6, c7, c8, c9, c10⟩ := hsh.all
  have HB : Hid (Below w.heap.size w W) := by unfold Hid; rw [hW]; exact below1 w _
  have HSH := hide hsh
  have HW := hide hW
  clear hW hsh he
  have hq : sizQ c us pic.data.toList d sep n = (0, 1) := by unfold sizQ; rw [if_neg (by omega), if_pos h4]; exact if_pos (.inr hd)
  have hcb : (c == 4) = true := by rw [h4]; rfl
  have H4 := hide h4
  clear h4
  have HS : Hid (∀ W, Calls Tryz.prog 15 #[.agg #[.int .u8 c, .int .u8 us, .string pic, .int .i64 d, .int .i64 sc, .bool sg, .bool ld, .bool sep, .bool ju, .bool bl, .int .i64 n]] W fun e w' => e = .returned (.tuple #[.int .i64 0, .int .i64 1]) ∧ Below W.heap.size W w') := fun W => by
    have h1 := Size_c c us pic d sc sg ld sep ju bl n W hc0 hc1 hu0 hu1 (by omega)
    rw [hq] at h1
    exact h1
  clear hq
  go_enter Tryz.func6, Tryz.ntmps6
  go_upto_region 1 with fail
  with_reducible rw [← HW.out]
  clear HW
  go_wp2_with fail
  refine (HS.out W).mono ?_
  rintro e w2 ⟨rfl, hb2⟩
  have HB2 : Hid (Below w.heap.size w w2) := HB.out.trans (hb2.mono HB.out.size)
  have HSH2 : Hid (ShAt w2 w.heap.size c us pic d sc sg ld sep ju bl n) := HSH.out.below hb2
  clear c0 c1 c2 c3 c4 c5 c6 c7 c8 c9 c10 hb2
  obtain ⟨c0, c1, c2, c3, c4, c5, c6, c7, c8, c9, c10⟩ := HSH2.out.all
  go_wp2_with fail
  refine (HLv.out _ HB2.out).mono ?_
  rintro e w9 ⟨rfl, hb9⟩
  go_wp2_with fail
  go_ret
  exact ⟨rfl, HB2.out.trans (hb9.mono HB2.out.size)⟩
set_option maxRecDepth 100000 in
set_option maxHeartbeats 2000000 in
theorem SizLaw_nlo (c us : Int) (pic : ByteArray) (d sc : Int) (sg ld sep ju bl : Bool) (n : Int) (w : World) (hc0 : 0 ≤ c) (hc1 : c ≤ 255) (hu0 : 0 ≤ us) (hu1 : us ≤ 255) (hp : pic.size ≤ maxLen) (he : EnvP w) (h300 : pic.size ≤ 300) (h2 : ¬ 2 < us) (h0 : c = 0) (hn : n < 0) :
    Calls Tryz.prog 6 #[.agg #[.int .u8 c, .int .u8 us, .string pic, .int .i64 d, .int .i64 sc, .bool sg, .bool ld, .bool sep, .bool ju, .bool bl, .int .i64 n]] w fun e w' => e = .returned (.bool true) ∧ Below w.heap.size w w' := by
  unfold maxLen at hp
  have HLv : Hid (∀ W, Below w.heap.size w W → Calls Tryz.prog 7 #[] W fun e w' => e = .returned (.bool true) ∧ Below W.heap.size W w') := fun W hb => livesP_c W (he.below hb)
  obtain ⟨W, hW⟩ : ∃ W, W = w.alloc (.cells #[.int .u8 c, .int .u8 us, .string pic, .int .i64 d, .int .i64 sc, .bool sg, .bool ld, .bool sep, .bool ju, .bool bl, .int .i64 n] 33) := ⟨_, rfl⟩
  have hsh : ShAt W w.heap.size c us pic d sc sg ld sep ju bl n := by rw [hW]; exact heap_alloc_new w _
  obtain ⟨c0, c1, c2, c3, c4, c5, c6, c7, c8, c9, c10⟩ := hsh.all
  have HB : Hid (Below w.heap.size w W) := by unfold Hid; rw [hW]; exact below1 w _
  have HSH := hide hsh
  have HW := hide hW
  clear hW hsh he
  have hq : sizQ c us pic.data.toList d sep n = (0, 1) := by unfold sizQ; rw [if_neg (by omega), if_neg (by omega), if_neg (fun h => h h0)]; exact if_pos (.inl hn)
  have h5 : ¬ 5 < c := by omega
  have hcb : (c == 4) = false := by rw [h0]; rfl
  have hcz : (c == 0) = true := by rw [h0]; rfl
  have H4 := hide h0
  clear h0
  have HS : Hid (∀ W, Calls Tryz.prog 15 #[.agg #[.int .u8 c, .int .u8 us, .string pic, .int .i64 d, .int .i64 sc, .bool sg, .bool ld, .bool sep, .bool ju, .bool bl, .int .i64 n]] W fun e w' => e = .returned (.tuple #[.int .i64 0, .int .i64 1]) ∧ Below W.heap.size W w') := fun W => by
    have h1 := Size_c c us pic d sc sg ld sep ju bl n W hc0 hc1 hu0 hu1 (by omega)
    rw [hq] at h1
    exact h1
  clear hq
  go_enter Tryz.func6, Tryz.ntmps6
  go_upto_region 1 with fail
  with_reducible rw [← HW.out]
  clear HW
  go_wp2_with fail
  refine (HS.out W).mono ?_
  rintro e w2 ⟨rfl, hb2⟩
  have HB2 : Hid (Below w.heap.size w w2) := HB.out.trans (hb2.mono HB.out.size)
  have HSH2 : Hid (ShAt w2 w.heap.size c us pic d sc sg ld sep ju bl n) := HSH.out.below hb2
  clear c0 c1 c2 c3 c4 c5 c6 c7 c8 c9 c10 hb2
  obtain ⟨c0, c1, c2, c3, c4, c5, c6, c7, c8, c9, c10⟩ := HSH2.out.all
  go_wp2_with fail
  refine (HLv.out _ HB2.out).mono ?_
  rintro e w9 ⟨rfl, hb9⟩
  go_wp2_with fail
  go_ret
  exact ⟨rfl, HB2.out.trans (hb9.mono HB2.out.size)⟩
set_option maxRecDepth 100000 in
set_option maxHeartbeats 2000000 in
theorem SizLaw_nhi (c us : Int) (pic : ByteArray) (d sc : Int) (sg ld sep ju bl : Bool) (n : Int) (w : World) (hc0 : 0 ≤ c) (hc1 : c ≤ 255) (hu0 : 0 ≤ us) (hu1 : us ≤ 255) (hp : pic.size ≤ maxLen) (he : EnvP w) (h300 : pic.size ≤ 300) (h2 : ¬ 2 < us) (h0 : c = 0) (hn : 1048576 < n) :
    Calls Tryz.prog 6 #[.agg #[.int .u8 c, .int .u8 us, .string pic, .int .i64 d, .int .i64 sc, .bool sg, .bool ld, .bool sep, .bool ju, .bool bl, .int .i64 n]] w fun e w' => e = .returned (.bool true) ∧ Below w.heap.size w w' := by
  unfold maxLen at hp
  have HLv : Hid (∀ W, Below w.heap.size w W → Calls Tryz.prog 7 #[] W fun e w' => e = .returned (.bool true) ∧ Below W.heap.size W w') := fun W hb => livesP_c W (he.below hb)
  obtain ⟨W, hW⟩ : ∃ W, W = w.alloc (.cells #[.int .u8 c, .int .u8 us, .string pic, .int .i64 d, .int .i64 sc, .bool sg, .bool ld, .bool sep, .bool ju, .bool bl, .int .i64 n] 33) := ⟨_, rfl⟩
  have hsh : ShAt W w.heap.size c us pic d sc sg ld sep ju bl n := by rw [hW]; exact heap_alloc_new w _
  obtain ⟨c0, c1, c2, c3, c4, c5, c6, c7, c8, c9, c10⟩ := hsh.all
  have HB : Hid (Below w.heap.size w W) := by unfold Hid; rw [hW]; exact below1 w _
  have HSH := hide hsh
  have HW := hide hW
  clear hW hsh he
  have hq : sizQ c us pic.data.toList d sep n = (0, 1) := by unfold sizQ; rw [if_neg (by omega), if_neg (by omega), if_neg (fun h => h h0)]; exact if_pos (.inr hn)
  have h5 : ¬ 5 < c := by omega
  have hcb : (c == 4) = false := by rw [h0]; rfl
  have hcz : (c == 0) = true := by rw [h0]; rfl
  have H4 := hide h0
  clear h0
  have HS : Hid (∀ W, Calls Tryz.prog 15 #[.agg #[.int .u8 c, .int .u8 us, .string pic, .int .i64 d, .int .i64 sc, .bool sg, .bool ld, .bool sep, .bool ju, .bool bl, .int .i64 n]] W fun e w' => e = .returned (.tuple #[.int .i64 0, .int .i64 1]) ∧ Below W.heap.size W w') := fun W => by
    have h1 := Size_c c us pic d sc sg ld sep ju bl n W hc0 hc1 hu0 hu1 (by omega)
    rw [hq] at h1
    exact h1
  clear hq
  go_enter Tryz.func6, Tryz.ntmps6
  go_upto_region 1 with fail
  with_reducible rw [← HW.out]
  clear HW
  go_wp2_with fail
  refine (HS.out W).mono ?_
  rintro e w2 ⟨rfl, hb2⟩
  have HB2 : Hid (Below w.heap.size w w2) := HB.out.trans (hb2.mono HB.out.size)
  have HSH2 : Hid (ShAt w2 w.heap.size c us pic d sc sg ld sep ju bl n) := HSH.out.below hb2
  clear c0 c1 c2 c3 c4 c5 c6 c7 c8 c9 c10 hb2
  obtain ⟨c0, c1, c2, c3, c4, c5, c6, c7, c8, c9, c10⟩ := HSH2.out.all
  go_wp2_with fail
  refine (HLv.out _ HB2.out).mono ?_
  rintro e w9 ⟨rfl, hb9⟩
  go_wp2_with fail
  go_ret
  exact ⟨rfl, HB2.out.trans (hb9.mono HB2.out.size)⟩
set_option maxRecDepth 100000 in
set_option maxHeartbeats 2000000 in
theorem SizLaw_num (c us : Int) (pic : ByteArray) (d sc : Int) (sg ld sep ju bl : Bool) (n : Int) (w : World) (hc0 : 0 ≤ c) (hc1 : c ≤ 255) (hu0 : 0 ≤ us) (hu1 : us ≤ 255) (hp : pic.size ≤ maxLen) (he : EnvP w) (h300 : pic.size ≤ 300) (h5 : ¬ 5 < c) (h2 : ¬ 2 < us) (h4 : c = 4) (hd1 : ¬ d < 1) (hd2 : ¬ 18 < d) :
    Calls Tryz.prog 6 #[.agg #[.int .u8 c, .int .u8 us, .string pic, .int .i64 d, .int .i64 sc, .bool sg, .bool ld, .bool sep, .bool ju, .bool bl, .int .i64 n]] w fun e w' => e = .returned (.bool true) ∧ Below w.heap.size w w' := by
  unfold maxLen at hp
  have HLv : Hid (∀ W, Below w.heap.size w W → Calls Tryz.prog 7 #[] W fun e w' => e = .returned (.bool true) ∧ Below W.heap.size W w') := fun W hb => livesP_c W (he.below hb)
  obtain ⟨W, hW⟩ : ∃ W, W = w.alloc (.cells #[.int .u8 c, .int .u8 us, .string pic, .int .i64 d, .int .i64 sc, .bool sg, .bool ld, .bool sep, .bool ju, .bool bl, .int .i64 n] 33) := ⟨_, rfl⟩
  have hsh : ShAt W w.heap.size c us pic d sc sg ld sep ju bl n := by rw [hW]; exact heap_alloc_new w _
  obtain ⟨c0, c1, c2, c3, c4, c5, c6, c7, c8, c9, c10⟩ := hsh.all
  have HB : Hid (Below w.heap.size w W) := by unfold Hid; rw [hW]; exact below1 w _
  have HSH := hide hsh
  have HW := hide hW
  clear hW hsh he
  have hq : sizQ c us pic.data.toList d sep n = (refQ c us pic.data.toList d sep n, 0) := by unfold sizQ refQ; rw [if_neg (by omega), if_pos h4, if_neg (by omega), if_neg (fun h => h h4)]; exact if_neg (by omega)
  have hcb : (c == 4) = true := by rw [h4]; rfl
  have hcz : (c == 0) = false := by rw [h4]; rfl
  obtain ⟨r, hr⟩ : ∃ r, r = refQ c us pic.data.toList d sep n := ⟨_, rfl⟩
  rw [← hr] at hq
  have HRf : Hid (∀ W, Calls Tryz.prog 16 #[.agg #[.int .u8 c, .int .u8 us, .string pic, .int .i64 d, .int .i64 sc, .bool sg, .bool ld, .bool sep, .bool ju, .bool bl, .int .i64 n]] W fun e w' => e = .returned (.int .i64 r) ∧ Below W.heap.size W w') := fun W => by
    have h1 := refSize_c c us pic d sc sg ld sep ju bl n W hc0 hc1 hu0 hu1 (by omega) (fun h => by omega)
    rw [← hr] at h1
    exact h1
  clear hr
  have HS : Hid (∀ W, Calls Tryz.prog 15 #[.agg #[.int .u8 c, .int .u8 us, .string pic, .int .i64 d, .int .i64 sc, .bool sg, .bool ld, .bool sep, .bool ju, .bool bl, .int .i64 n]] W fun e w' => e = .returned (.tuple #[.int .i64 r, .int .i64 0]) ∧ Below W.heap.size W w') := fun W => by
    have h1 := Size_c c us pic d sc sg ld sep ju bl n W hc0 hc1 hu0 hu1 (by omega)
    rw [hq] at h1
    exact h1
  clear hq
  have H4 := hide h4
  clear h4
  go_enter Tryz.func6, Tryz.ntmps6
  go_upto_region 1 with fail
  with_reducible rw [← HW.out]
  clear HW
  go_wp2_with fail
  refine (HS.out W).mono ?_
  rintro e w2 ⟨rfl, hb2⟩
  have HB2 : Hid (Below w.heap.size w w2) := HB.out.trans (hb2.mono HB.out.size)
  have HSH2 : Hid (ShAt w2 w.heap.size c us pic d sc sg ld sep ju bl n) := HSH.out.below hb2
  clear c0 c1 c2 c3 c4 c5 c6 c7 c8 c9 c10 hb2
  obtain ⟨c0, c1, c2, c3, c4, c5, c6, c7, c8, c9, c10⟩ := HSH2.out.all
  go_wp2_with fail
  refine (HRf.out w2).mono ?_
  rintro e w3 ⟨rfl, hb3⟩
  have HB3 : Hid (Below w.heap.size w w3) := HB2.out.trans (hb3.mono HB2.out.size)
  clear c0 c1 c2 c3 c4 c5 c6 c7 c8 c9 c10 hb3
  go_wp2_with fail
  refine (HLv.out _ HB3.out).mono ?_
  rintro e w9 ⟨rfl, hb9⟩
  go_wp2_with fail
  go_ret
  exact ⟨rfl, HB3.out.trans (hb9.mono HB3.out.size)⟩
set_option maxRecDepth 100000 in
set_option maxHeartbeats 2000000 in
theorem SizLaw_zer (c us : Int) (pic : ByteArray) (d sc : Int) (sg ld sep ju bl : Bool) (n : Int) (w : World) (hc0 : 0 ≤ c) (hc1 : c ≤ 255) (hu0 : 0 ≤ us) (hu1 : us ≤ 255) (hp : pic.size ≤ maxLen) (he : EnvP w) (h300 : pic.size ≤ 300) (h2 : ¬ 2 < us) (h0 : c = 0) (hn1 : ¬ n < 0) (hn2 : ¬ 1048576 < n) :
    Calls Tryz.prog 6 #[.agg #[.int .u8 c, .int .u8 us, .string pic, .int .i64 d, .int .i64 sc, .bool sg, .bool ld, .bool sep, .bool ju, .bool bl, .int .i64 n]] w fun e w' => e = .returned (.bool true) ∧ Below w.heap.size w w' := by
  unfold maxLen at hp
  have HLv : Hid (∀ W, Below w.heap.size w W → Calls Tryz.prog 7 #[] W fun e w' => e = .returned (.bool true) ∧ Below W.heap.size W w') := fun W hb => livesP_c W (he.below hb)
  obtain ⟨W, hW⟩ : ∃ W, W = w.alloc (.cells #[.int .u8 c, .int .u8 us, .string pic, .int .i64 d, .int .i64 sc, .bool sg, .bool ld, .bool sep, .bool ju, .bool bl, .int .i64 n] 33) := ⟨_, rfl⟩
  have hsh : ShAt W w.heap.size c us pic d sc sg ld sep ju bl n := by rw [hW]; exact heap_alloc_new w _
  obtain ⟨c0, c1, c2, c3, c4, c5, c6, c7, c8, c9, c10⟩ := hsh.all
  have HB : Hid (Below w.heap.size w W) := by unfold Hid; rw [hW]; exact below1 w _
  have HSH := hide hsh
  have HW := hide hW
  clear hW hsh he
  have hq : sizQ c us pic.data.toList d sep n = (refQ c us pic.data.toList d sep n, 0) := by unfold sizQ refQ; rw [if_neg (by omega), if_neg (by omega), if_neg (fun h => h h0), if_pos h0]; exact if_neg (by omega)
  have h5 : ¬ 5 < c := by omega
  have hcb : (c == 4) = false := by rw [h0]; rfl
  have hcz : (c == 0) = true := by rw [h0]; rfl
  obtain ⟨r, hr⟩ : ∃ r, r = refQ c us pic.data.toList d sep n := ⟨_, rfl⟩
  rw [← hr] at hq
  have HRf : Hid (∀ W, Calls Tryz.prog 16 #[.agg #[.int .u8 c, .int .u8 us, .string pic, .int .i64 d, .int .i64 sc, .bool sg, .bool ld, .bool sep, .bool ju, .bool bl, .int .i64 n]] W fun e w' => e = .returned (.int .i64 r) ∧ Below W.heap.size W w') := fun W => by
    have h1 := refSize_c c us pic d sc sg ld sep ju bl n W hc0 hc1 hu0 hu1 (by omega) (fun h => by omega)
    rw [← hr] at h1
    exact h1
  clear hr
  have HS : Hid (∀ W, Calls Tryz.prog 15 #[.agg #[.int .u8 c, .int .u8 us, .string pic, .int .i64 d, .int .i64 sc, .bool sg, .bool ld, .bool sep, .bool ju, .bool bl, .int .i64 n]] W fun e w' => e = .returned (.tuple #[.int .i64 r, .int .i64 0]) ∧ Below W.heap.size W w') := fun W => by
    have h1 := Size_c c us pic d sc sg ld sep ju bl n W hc0 hc1 hu0 hu1 (by omega)
    rw [hq] at h1
    exact h1
  clear hq
  have H4 := hide h0
  clear h0
  go_enter Tryz.func6, Tryz.ntmps6
  go_upto_region 1 with fail
  with_reducible rw [← HW.out]
  clear HW
  go_wp2_with fail
  refine (HS.out W).mono ?_
  rintro e w2 ⟨rfl, hb2⟩
  have HB2 : Hid (Below w.heap.size w w2) := HB.out.trans (hb2.mono HB.out.size)
  have HSH2 : Hid (ShAt w2 w.heap.size c us pic d sc sg ld sep ju bl n) := HSH.out.below hb2
  clear c0 c1 c2 c3 c4 c5 c6 c7 c8 c9 c10 hb2
  obtain ⟨c0, c1, c2, c3, c4, c5, c6, c7, c8, c9, c10⟩ := HSH2.out.all
  go_wp2_with fail
  refine (HRf.out w2).mono ?_
  rintro e w3 ⟨rfl, hb3⟩
  have HB3 : Hid (Below w.heap.size w w3) := HB2.out.trans (hb3.mono HB2.out.size)
  clear c0 c1 c2 c3 c4 c5 c6 c7 c8 c9 c10 hb3
  go_wp2_with fail
  refine (HLv.out _ HB3.out).mono ?_
  rintro e w9 ⟨rfl, hb9⟩
  go_wp2_with fail
  go_ret
  exact ⟨rfl, HB3.out.trans (hb9.mono HB3.out.size)⟩
set_option maxRecDepth 100000 in
set_option maxHeartbeats 2000000 in
theorem SizLaw_txt (c us : Int) (pic : ByteArray) (d sc : Int) (sg ld sep ju bl : Bool) (n : Int) (w : World) (hc0 : 0 ≤ c) (hc1 : c ≤ 255) (hu0 : 0 ≤ us) (hu1 : us ≤ 255) (hp : pic.size ≤ maxLen) (he : EnvP w) (h300 : pic.size ≤ 300) (h5 : ¬ 5 < c) (h2 : ¬ 2 < us) (h0 : c ≠ 0) (h4 : c ≠ 4) :
    Calls Tryz.prog 6 #[.agg #[.int .u8 c, .int .u8 us, .string pic, .int .i64 d, .int .i64 sc, .bool sg, .bool ld, .bool sep, .bool ju, .bool bl, .int .i64 n]] w fun e w' => e = .returned (.bool true) ∧ Below w.heap.size w w' := by
  unfold maxLen at hp
  have HLv : Hid (∀ W, Below w.heap.size w W → Calls Tryz.prog 7 #[] W fun e w' => e = .returned (.bool true) ∧ Below W.heap.size W w') := fun W hb => livesP_c W (he.below hb)
  obtain ⟨W, hW⟩ : ∃ W, W = w.alloc (.cells #[.int .u8 c, .int .u8 us, .string pic, .int .i64 d, .int .i64 sc, .bool sg, .bool ld, .bool sep, .bool ju, .bool bl, .int .i64 n] 33) := ⟨_, rfl⟩
  have hsh : ShAt W w.heap.size c us pic d sc sg ld sep ju bl n := by rw [hW]; exact heap_alloc_new w _
  obtain ⟨c0, c1, c2, c3, c4, c5, c6, c7, c8, c9, c10⟩ := hsh.all
  have HB : Hid (Below w.heap.size w W) := by unfold Hid; rw [hW]; exact below1 w _
  have HSH := hide hsh
  have HW := hide hW
  clear hW hsh he
  have hq : sizQ c us pic.data.toList d sep n = (refQ c us pic.data.toList d sep n, 0) := by unfold sizQ refQ; rw [if_neg (by omega), if_neg h4, if_neg h0, if_pos h0, if_pos h4]
  have hcb : (c == 4) = false := beq_eq_false_iff_ne.2 h4
  have hcz : (c == 0) = false := beq_eq_false_iff_ne.2 h0
  obtain ⟨r, hr⟩ : ∃ r, r = refQ c us pic.data.toList d sep n := ⟨_, rfl⟩
  rw [← hr] at hq
  have HRf : Hid (∀ W, Calls Tryz.prog 16 #[.agg #[.int .u8 c, .int .u8 us, .string pic, .int .i64 d, .int .i64 sc, .bool sg, .bool ld, .bool sep, .bool ju, .bool bl, .int .i64 n]] W fun e w' => e = .returned (.int .i64 r) ∧ Below W.heap.size W w') := fun W => by
    have h1 := refSize_c c us pic d sc sg ld sep ju bl n W hc0 hc1 hu0 hu1 (by omega) (fun h => by omega)
    rw [← hr] at h1
    exact h1
  clear hr
  have HS : Hid (∀ W, Calls Tryz.prog 15 #[.agg #[.int .u8 c, .int .u8 us, .string pic, .int .i64 d, .int .i64 sc, .bool sg, .bool ld, .bool sep, .bool ju, .bool bl, .int .i64 n]] W fun e w' => e = .returned (.tuple #[.int .i64 r, .int .i64 0]) ∧ Below W.heap.size W w') := fun W => by
    have h1 := Size_c c us pic d sc sg ld sep ju bl n W hc0 hc1 hu0 hu1 (by omega)
    rw [hq] at h1
    exact h1
  clear hq
  have H4 := hide h4
  have H0 := hide h0
  clear h4 h0
  go_enter Tryz.func6, Tryz.ntmps6
  go_upto_region 1 with fail
  with_reducible rw [← HW.out]
  clear HW
  go_wp2_with fail
  refine (HS.out W).mono ?_
  rintro e w2 ⟨rfl, hb2⟩
  have HB2 : Hid (Below w.heap.size w w2) := HB.out.trans (hb2.mono HB.out.size)
  have HSH2 : Hid (ShAt w2 w.heap.size c us pic d sc sg ld sep ju bl n) := HSH.out.below hb2
  clear c0 c1 c2 c3 c4 c5 c6 c7 c8 c9 c10 hb2
  obtain ⟨c0, c1, c2, c3, c4, c5, c6, c7, c8, c9, c10⟩ := HSH2.out.all
  go_wp2_with fail
  refine (HRf.out w2).mono ?_
  rintro e w3 ⟨rfl, hb3⟩
  have HB3 : Hid (Below w.heap.size w w3) := HB2.out.trans (hb3.mono HB2.out.size)
  clear c0 c1 c2 c3 c4 c5 c6 c7 c8 c9 c10 hb3
  go_wp2_with fail
  refine (HLv.out _ HB3.out).mono ?_
  rintro e w9 ⟨rfl, hb9⟩
  go_wp2_with fail
  go_ret
  exact ⟨rfl, HB3.out.trans (hb9.mono HB3.out.size)⟩
theorem SizLaw (c us : Int) (pic : ByteArray) (d sc : Int) (sg ld sep ju bl : Bool) (n : Int) (w : World) (hc0 : 0 ≤ c) (hc1 : c ≤ 255) (hu0 : 0 ≤ us) (hu1 : us ≤ 255) (hp : pic.size ≤ maxLen) (he : EnvP w) :
    Calls Tryz.prog 6 #[.agg #[.int .u8 c, .int .u8 us, .string pic, .int .i64 d, .int .i64 sc, .bool sg, .bool ld, .bool sep, .bool ju, .bool bl, .int .i64 n]] w fun e w' => e = .returned (.bool true) ∧ Below w.heap.size w w' := by
  by_cases h : 300 < pic.size
  · exact SizLaw_far c us pic d sc sg ld sep ju bl n w hc0 hc1 hu0 hu1 hp he h
  have h3 : pic.size ≤ 300 := by omega
  by_cases h5 : 5 < c
  · exact SizLaw_cat c us pic d sc sg ld sep ju bl n w hc0 hc1 hu0 hu1 hp he h3 h5
  by_cases h2 : 2 < us
  · exact SizLaw_usg c us pic d sc sg ld sep ju bl n w hc0 hc1 hu0 hu1 hp he h3 h5 h2
  by_cases h4 : c = 4
  · by_cases hd : d < 1
    · exact SizLaw_dlo c us pic d sc sg ld sep ju bl n w hc0 hc1 hu0 hu1 hp he h3 h5 h2 h4 hd
    · by_cases hd2 : 18 < d
      · exact SizLaw_dhi c us pic d sc sg ld sep ju bl n w hc0 hc1 hu0 hu1 hp he h3 h5 h2 h4 hd2
      · exact SizLaw_num c us pic d sc sg ld sep ju bl n w hc0 hc1 hu0 hu1 hp he h3 h5 h2 h4 hd hd2
  by_cases h0 : c = 0
  · by_cases hd : n < 0
    · exact SizLaw_nlo c us pic d sc sg ld sep ju bl n w hc0 hc1 hu0 hu1 hp he h3 h2 h0 hd
    · by_cases hd2 : 1048576 < n
      · exact SizLaw_nhi c us pic d sc sg ld sep ju bl n w hc0 hc1 hu0 hu1 hp he h3 h2 h0 hd2
      · exact SizLaw_zer c us pic d sc sg ld sep ju bl n w hc0 hc1 hu0 hu1 hp he h3 h2 h0 hd hd2
  · exact SizLaw_txt c us pic d sc sg ld sep ju bl n w hc0 hc1 hu0 hu1 hp he h3 h5 h2 h0 h4
end Go.Proofs.YthdggnkpncoikaaGreatDoor
