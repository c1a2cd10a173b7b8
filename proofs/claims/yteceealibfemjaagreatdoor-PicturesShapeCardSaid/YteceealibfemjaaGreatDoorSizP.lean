/-
  CONTRACT of Size (layer 6, pictures).
-/
import Derived.Test.YteceealibfemjaaGreatDoorShoP
namespace Go.Proofs.YteceealibfemjaaGreatDoor
open Go.RowKit Go.Shelf

/-- a whole shape -/
def shpA (c us : Int) (pic : ByteArray) (d sc : Int) (sg ld sep ju bl : Bool) (n : Int) : Array Value := #[.int .u8 c, .int .u8 us, .string pic, .int .i64 d, .int .i64 sc, .bool sg, .bool ld, .bool sep, .bool ju, .bool bl, .int .i64 n]
def ShAt (w : World) (b : Nat) (c us : Int) (pic : ByteArray) (d sc : Int) (sg ld sep ju bl : Bool) (n : Int) : Prop := w.heap[b]? = some (.cells (shpA c us pic d sc sg ld sep ju bl n) 28 (0, 0))
theorem ShAt.cells {w : World} {b : Nat} {c us : Int} {pic : ByteArray} {d sc : Int} {sg ld sep ju bl : Bool} {n : Int} (h : ShAt w b c us pic d sc sg ld sep ju bl n) :
    w.cell? ⟨b, 0, none⟩ = some (.int .u8 c) ∧ w.cell? ⟨b, 1, none⟩ = some (.int .u8 us) ∧ w.cell? ⟨b, 2, none⟩ = some (.string pic) ∧ w.cell? ⟨b, 3, none⟩ = some (.int .i64 d) ∧ w.cell? ⟨b, 7, none⟩ = some (.bool sep) ∧ w.cell? ⟨b, 10, none⟩ = some (.int .i64 n) :=
  ⟨cell_of_row w b 0 _ _ _ h, cell_of_row w b 1 _ _ _ h, cell_of_row w b 2 _ _ _ h, cell_of_row w b 3 _ _ _ h, cell_of_row w b 7 _ _ _ h, cell_of_row w b 10 _ _ _ h⟩
/-- the bytes of a number that is not edited -/
def numZ (us d : Int) (sep : Bool) : Int := if us = 1 then d / 2 + 1 else if us = 2 then (if d ≤ 4 then 2 else if d ≤ 9 then 4 else 8) else if sep then d + 1 else d
def numQ (us d : Int) (sep : Bool) : Int × Int := if d < 1 ∨ 18 < d then (0, 1) else (numZ us d sep, 0)
def sizQ (c us : Int) (pic : List UInt8) (d : Int) (sep : Bool) (n : Int) : Int × Int :=
  if 5 < c ∨ 2 < us then (0, 12) else if c = 4 then numQ us d sep else if c ≠ 0 then ((pic.length : Int) - Pic.cnt 86 pic, 0) else if n < 0 ∨ 1048576 < n then (0, 1) else (n, 0)
theorem binarySize_c (d : Int) (w : World) (h1 : 1 ≤ d) (h2 : d ≤ 18) :
    Calls Tryz.prog 74 #[.int .i64 d] w fun e w' => e = .returned (.int .i64 (if d ≤ 4 then 2 else if d ≤ 9 then 4 else 8)) ∧ w = w' := by
  by_cases a : d ≤ 4
  · rw [if_pos a]
    go_enter Tryz.func74, Tryz.ntmps74
    go_wp2_with fail
    go_ret
    exact ⟨rfl, rfl⟩
  · rw [if_neg a]
    by_cases b : d ≤ 9
    · rw [if_pos b]
      go_enter Tryz.func74, Tryz.ntmps74
      go_wp2_with fail
      go_ret
      exact ⟨rfl, rfl⟩
    · rw [if_neg b]
      go_enter Tryz.func74, Tryz.ntmps74
      go_wp2_with fail
      go_ret
      exact ⟨rfl, rfl⟩
set_option maxRecDepth 100000 in
set_option maxHeartbeats 2000000 in
theorem numberSize_c (c us : Int) (pic : ByteArray) (d sc : Int) (sg ld sep ju bl : Bool) (n : Int) (w : World) (hu0 : 0 ≤ us) (hu1 : us ≤ 255) :
    Calls Tryz.prog 50 #[.agg #[.int .u8 c, .int .u8 us, .string pic, .int .i64 d, .int .i64 sc, .bool sg, .bool ld, .bool sep, .bool ju, .bool bl, .int .i64 n]] w fun e w' => e = .returned (.tuple #[.int .i64 (numQ us d sep).1, .int .i64 (numQ us d sep).2]) ∧ Below w.heap.size w w' := by
  obtain ⟨q, hq⟩ : ∃ q, q = numQ us d sep := ⟨_, rfl⟩
  rw [← hq]
  obtain ⟨W, hW⟩ : ∃ W, W = w.alloc (.cells #[.int .u8 c, .int .u8 us, .string pic, .int .i64 d, .int .i64 sc, .bool sg, .bool ld, .bool sep, .bool ju, .bool bl, .int .i64 n] 28) := ⟨_, rfl⟩
  have hsh : ShAt W w.heap.size c us pic d sc sg ld sep ju bl n := by rw [hW]; exact heap_alloc_new w _
  obtain ⟨c0, c1, c2, c3, c7, c10⟩ := hsh.cells
  have HB : Hid (Below w.heap.size w W) := by unfold Hid; rw [hW]; exact below1 w _
  have HW := hide hW
  have HQ := hide hq
  clear hW hq hsh
  by_cases h1 : d < 1
  · have HX : Hid (q = (0, 1)) := by unfold Hid; rw [HQ.out]; exact if_pos (.inl h1)
    go_enter Tryz.func50, Tryz.ntmps50
    go_upto_region 1 with fail
    with_reducible rw [← HW.out]
    clear HW
    go_wp2_with fail
    go_ret2
    exact ⟨by rw [HX.out]; rfl, HB.out⟩
  · by_cases h2 : 18 < d
    · have HX : Hid (q = (0, 1)) := by unfold Hid; rw [HQ.out]; exact if_pos (.inr h2)
      go_enter Tryz.func50, Tryz.ntmps50
      go_upto_region 1 with fail
      with_reducible rw [← HW.out]
      clear HW
      go_wp2_with fail
      go_ret2
      exact ⟨by rw [HX.out]; rfl, HB.out⟩
    · have HX : Hid (q = (numZ us d sep, 0)) := by unfold Hid; rw [HQ.out]; exact if_neg (by omega)
      have h1' : 1 ≤ d := by omega
      have h2' : d ≤ 18 := by omega
      have HBS := hide (fun W => binarySize_c d W h1' h2')
      by_cases u1 : us = 1
      · have HZ : Hid (numZ us d sep = d / 2 + 1) := by unfold Hid numZ; exact if_pos u1
        have hub : (us == 1) = true := by rw [u1]; rfl
        have HU := hide u1
        clear u1
        go_enter Tryz.func50, Tryz.ntmps50
        go_upto_region 1 with fail
        with_reducible rw [← HW.out]
        clear HW
        go_wp2_with fail
        go_ret2
        exact ⟨by rw [HX.out, HZ.out]; rfl, HB.out⟩
      · have hub : (us == 1) = false := beq_eq_false_iff_ne.2 u1
        by_cases u2 : us = 2
        · have HZ : Hid (numZ us d sep = if d ≤ 4 then 2 else if d ≤ 9 then 4 else 8) := by unfold Hid numZ; rw [if_neg u1, if_pos u2]
          have hub2 : (us == 2) = true := by rw [u2]; rfl
          have HU := hide u2
          obtain ⟨z, hz⟩ : ∃ z : Int, z = if d ≤ 4 then 2 else if d ≤ 9 then 4 else 8 := ⟨_, rfl⟩
          rw [← hz] at HBS HZ
          clear u1 u2 hz
          go_enter Tryz.func50, Tryz.ntmps50
          go_upto_region 1 with fail
          with_reducible rw [← HW.out]
          clear HW
          go_wp2_with fail
          refine (HBS.out _).mono ?_
          rintro e w' ⟨rfl, rfl⟩
          go_wp2_with fail
          go_ret2
          exact ⟨by rw [HX.out, HZ.out]; rfl, HB.out⟩
        · have hub2 : (us == 2) = false := beq_eq_false_iff_ne.2 u2
          have HZ : Hid (numZ us d sep = if sep = true then d + 1 else d) := by unfold Hid numZ; rw [if_neg u1, if_neg u2]
          clear u1 u2
          cases sep with
          | true =>
            have HZ2 : Hid (numZ us d true = d + 1) := by unfold Hid; rw [HZ.out, if_pos rfl]
            go_enter Tryz.func50, Tryz.ntmps50
            go_upto_region 1 with fail
            with_reducible rw [← HW.out]
            clear HW
            go_wp2_with fail
            go_ret2
            exact ⟨by rw [HX.out, HZ2.out]; rfl, HB.out⟩
          | false =>
            have HZ2 : Hid (numZ us d false = d) := by unfold Hid; rw [HZ.out, if_neg (by simp)]
            go_enter Tryz.func50, Tryz.ntmps50
            go_upto_region 1 with fail
            with_reducible rw [← HW.out]
            clear HW
            go_wp2_with fail
            go_ret2
            exact ⟨by rw [HX.out, HZ2.out]; rfl, HB.out⟩
set_option maxRecDepth 100000 in
set_option maxHeartbeats 2000000 in
theorem Size_c (c us : Int) (pic : ByteArray) (d sc : Int) (sg ld sep ju bl : Bool) (n : Int) (w : World) (hc0 : 0 ≤ c) (hc1 : c ≤ 255) (hu0 : 0 ≤ us) (hu1 : us ≤ 255) (hp : pic.size ≤ 1000000) :
    Calls Tryz.prog 22 #[.agg #[.int .u8 c, .int .u8 us, .string pic, .int .i64 d, .int .i64 sc, .bool sg, .bool ld, .bool sep, .bool ju, .bool bl, .int .i64 n]] w fun e w' => e = .returned (.tuple #[.int .i64 (sizQ c us pic.data.toList d sep n).1, .int .i64 (sizQ c us pic.data.toList d sep n).2]) ∧ Below w.heap.size w w' := by
  obtain ⟨q, hq⟩ : ∃ q, q = sizQ c us pic.data.toList d sep n := ⟨_, rfl⟩
  rw [← hq]
  have hpl := len_data pic
  obtain ⟨k, hk⟩ : ∃ k, k = Pic.cnt 86 pic.data.toList := ⟨_, rfl⟩
  have hkl : k ≤ pic.size := by have := cnt_le 86 pic.data.toList; omega
  have HCn : Hid (∀ W : World, Calls Tryz.prog 17 #[.string pic, .string ⟨#[86]⟩] W fun e w' => e = .returned (.int .i64 (k : Int)) ∧ w' = W) := fun W => by
    refine (Tryz.strings_Count_one pic 86 W).mono fun e w' h => ⟨?_, h.2⟩
    rw [h.1, hk]; rfl
  have HNS := hide (fun W => numberSize_c c us pic d sc sg ld sep ju bl n W hu0 hu1)
  obtain ⟨W, hW⟩ : ∃ W, W = w.alloc (.cells #[.int .u8 c, .int .u8 us, .string pic, .int .i64 d, .int .i64 sc, .bool sg, .bool ld, .bool sep, .bool ju, .bool bl, .int .i64 n] 28) := ⟨_, rfl⟩
  have hsh : ShAt W w.heap.size c us pic d sc sg ld sep ju bl n := by rw [hW]; exact heap_alloc_new w _
  obtain ⟨c0, c1, c2, c3, c7, c10⟩ := hsh.cells
  have HB : Hid (Below w.heap.size w W) := by unfold Hid; rw [hW]; exact below1 w _
  have HSH := hide hsh
  have HW := hide hW
  have HQ : Hid (q = if 5 < c ∨ 2 < us then (0, 12) else if c = 4 then numQ us d sep else if c ≠ 0 then ((pic.size : Int) - k, 0) else if n < 0 ∨ 1048576 < n then (0, 1) else (n, 0)) := by unfold Hid; rw [hq]; unfold sizQ; rw [hpl, hk]
  clear hW hq hsh hk hpl
  by_cases h1 : 5 < c
  · have HX : Hid (q = (0, 12)) := by unfold Hid; rw [HQ.out]; exact if_pos (.inl h1)
    go_enter Tryz.func22, Tryz.ntmps22
    go_upto_region 1 with fail
    with_reducible rw [← HW.out]
    clear HW
    go_wp2_with fail
    go_ret2
    exact ⟨by rw [HX.out]; rfl, HB.out⟩
  · by_cases h2 : 2 < us
    · have HX : Hid (q = (0, 12)) := by unfold Hid; rw [HQ.out]; exact if_pos (.inr h2)
      go_enter Tryz.func22, Tryz.ntmps22
      go_upto_region 1 with fail
      with_reducible rw [← HW.out]
      clear HW
      go_wp2_with fail
      go_ret2
      exact ⟨by rw [HX.out]; rfl, HB.out⟩
    · have HX1 : Hid (q = if c = 4 then numQ us d sep else if c ≠ 0 then ((pic.size : Int) - k, 0) else if n < 0 ∨ 1048576 < n then (0, 1) else (n, 0)) := by unfold Hid; rw [HQ.out]; exact if_neg (by omega)
      by_cases h4 : c = 4
      · have HX : Hid (q = numQ us d sep) := by unfold Hid; rw [HX1.out]; exact if_pos h4
        have hcb : (c == 4) = true := by rw [h4]; rfl
        have HH := hide h4
        clear h4
        go_enter Tryz.func22, Tryz.ntmps22
        go_upto_region 1 with fail
        with_reducible rw [← HW.out]
        clear HW
        go_wp2_with (refine wpList_load_row rfl 28 _ rfl w.heap.size rfl 28 _ (0, 0) _ HSH.out Tryz.underlying28 rfl (by kernel_rfl) ?_)
        unfold shpA
        refine (HNS.out _).mono ?_
        rintro e w3 ⟨rfl, hb3⟩
        have HB3 := hide (HB.out.trans (hb3.mono HB.out.size))
        clear hb3
        go_wp2_with fail
        go_ret2
        exact ⟨by rw [HX.out]; rfl, HB3.out⟩
      · have HX2 : Hid (q = if c ≠ 0 then ((pic.size : Int) - k, 0) else if n < 0 ∨ 1048576 < n then (0, 1) else (n, 0)) := by unfold Hid; rw [HX1.out]; exact if_neg h4
        have hcb : (c == 4) = false := beq_eq_false_iff_ne.2 h4
        by_cases h0 : c = 0
        · have hcz : (c != 0) = false := by rw [h0]; rfl
          have HX3 : Hid (q = if n < 0 ∨ 1048576 < n then (0, 1) else (n, 0)) := by unfold Hid; rw [HX2.out]; exact if_neg (fun h => h h0)
          have HH := hide h0
          clear h0 h4
          by_cases hn1 : n < 0
          · have HX : Hid (q = (0, 1)) := by unfold Hid; rw [HX3.out]; exact if_pos (.inl hn1)
            go_enter Tryz.func22, Tryz.ntmps22
            go_upto_region 1 with fail
            with_reducible rw [← HW.out]
            clear HW
            go_wp2_with fail
            go_ret2
            exact ⟨by rw [HX.out]; rfl, HB.out⟩
          · by_cases hn2 : 1048576 < n
            · have HX : Hid (q = (0, 1)) := by unfold Hid; rw [HX3.out]; exact if_pos (.inr hn2)
              go_enter Tryz.func22, Tryz.ntmps22
              go_upto_region 1 with fail
              with_reducible rw [← HW.out]
              clear HW
              go_wp2_with fail
              go_ret2
              exact ⟨by rw [HX.out]; rfl, HB.out⟩
            · have HX : Hid (q = (n, 0)) := by unfold Hid; rw [HX3.out]; exact if_neg (by omega)
              go_enter Tryz.func22, Tryz.ntmps22
              go_upto_region 1 with fail
              with_reducible rw [← HW.out]
              clear HW
              go_wp2_with fail
              go_ret2
              exact ⟨by rw [HX.out]; rfl, HB.out⟩
        · have hcz : (c != 0) = true := by rw [bne_iff_ne]; exact h0
          have HX : Hid (q = ((pic.size : Int) - k, 0)) := by unfold Hid; rw [HX2.out]; exact if_pos h0
          clear h0 h4
          go_enter Tryz.func22, Tryz.ntmps22
          go_upto_region 1 with fail
          with_reducible rw [← HW.out]
          clear HW
          have hsw : IntKind.i64.wrap ((pic.size : Int) - (k : Int)) = (pic.size : Int) - k := IntWalk.i64_in _ (by omega)
          go_wp2_with fail
          go_quiet ((go_at_call 17; exact Calls.quiet_of_same (HCn.out _)))
          go_wp2_with fail
          go_ret2
          exact ⟨by rw [HX.out]; rfl, below_drewN' HB.out _⟩
end Go.Proofs.YteceealibfemjaaGreatDoor
