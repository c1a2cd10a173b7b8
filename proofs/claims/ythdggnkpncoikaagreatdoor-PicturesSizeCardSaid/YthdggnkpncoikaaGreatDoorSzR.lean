/-
  CONTRACT of the reference's Size (layer 6, pictures).
-/
import Derived.Test.YthdggnkpncoikaaGreatDoorSizP
namespace Go.Proofs.YthdggnkpncoikaaGreatDoor
open Go.RowKit Go.Shelf

theorem cnt_snoc (l : List UInt8) (i : Nat) (h : i < l.length) : Pic.cnt 86 (l.take (i + 1)) = Pic.cnt 86 (l.take i) + if l[i] = 86 then 1 else 0 := by
  unfold Pic.cnt Lib.countByte
  rw [List.take_succ_eq_append_getElem h, List.count_append, List.count_singleton]
  simp only [beq_iff_eq]
/-- what the reference answers where the sizes are asked -/
def refQ (c us : Int) (l : List UInt8) (d : Int) (sep : Bool) (n : Int) : Int := if c = 0 then n else if c ≠ 4 then (l.length : Int) - Pic.cnt 86 l else numZ us d sep
set_option maxRecDepth 100000 in
set_option maxHeartbeats 2000000 in
theorem refSize_c (c us : Int) (pic : ByteArray) (d sc : Int) (sg ld sep ju bl : Bool) (n : Int) (w : World) (hc0 : 0 ≤ c) (hc1 : c ≤ 255) (hu0 : 0 ≤ us) (hu1 : us ≤ 255) (hp : pic.size ≤ 1000000) (h4 : c = 4 → 1 ≤ d ∧ d ≤ 18) :
    Calls Tryz.prog 16 #[.agg #[.int .u8 c, .int .u8 us, .string pic, .int .i64 d, .int .i64 sc, .bool sg, .bool ld, .bool sep, .bool ju, .bool bl, .int .i64 n]] w fun e w' => e = .returned (.int .i64 (refQ c us pic.data.toList d sep n)) ∧ Below w.heap.size w w' := by
  obtain ⟨q, hq⟩ : ∃ q, q = refQ c us pic.data.toList d sep n := ⟨_, rfl⟩
  rw [← hq]
  have hpl := len_data pic
  obtain ⟨W, hW⟩ : ∃ W, W = w.alloc (.cells #[.int .u8 c, .int .u8 us, .string pic, .int .i64 d, .int .i64 sc, .bool sg, .bool ld, .bool sep, .bool ju, .bool bl, .int .i64 n] 33) := ⟨_, rfl⟩
  have hsh : ShAt W w.heap.size c us pic d sc sg ld sep ju bl n := by rw [hW]; exact heap_alloc_new w _
  obtain ⟨c0, c1, c2, c3, c7, c10⟩ := hsh.cells
  have HB : Hid (Below w.heap.size w W) := by unfold Hid; rw [hW]; exact below1 w _
  have HSH := hide hsh
  have HW := hide hW
  have HPL := hide hpl
  have HQ : Hid (q = if c = 0 then n else if c ≠ 4 then ((pic.size : Int) - Pic.cnt 86 pic.data.toList) else numZ us d sep) := by unfold Hid; rw [hq]; unfold refQ; rw [hpl]
  clear hW hq hsh hpl
  by_cases h0 : c = 0
  · have hcb : (c == 0) = true := by rw [h0]; rfl
    have HX : Hid (q = n) := by unfold Hid; rw [HQ.out]; exact if_pos h0
    have HH := hide h0
    have HH4 := hide h4
    clear h0 h4
    go_enter Tryz.func16, Tryz.ntmps16
    go_upto_region 1 with fail
    with_reducible rw [← HW.out]
    clear HW
    go_wp2_with fail
    go_ret
    exact ⟨by rw [HX.out]; rfl, HB.out⟩
  · have hcb : (c == 0) = false := beq_eq_false_iff_ne.2 h0
    by_cases h4c : c = 4
    · have hcb4 : (c != 4) = false := by rw [h4c]; rfl
      have hX1 : q = numZ us d sep := by rw [HQ.out, if_neg h0, if_neg (fun h => h h4c)]
      obtain ⟨hd1, hd2⟩ := h4 h4c
      have HH := hide h0
      have HH2 := hide h4c
      clear h0 h4c h4
      by_cases u1 : us = 1
      · have HX : Hid (q = d / 2 + 1) := by unfold Hid; rw [hX1]; unfold numZ; exact if_pos u1
        have hub : (us == 1) = true := by rw [u1]; rfl
        have HU := hide u1
        clear u1 hX1
        go_enter Tryz.func16, Tryz.ntmps16
        go_upto_region 1 with fail
        with_reducible rw [← HW.out]
        clear HW
        go_wp2_with fail
        go_ret
        exact ⟨by rw [HX.out]; rfl, HB.out⟩
      · have hub : (us == 1) = false := beq_eq_false_iff_ne.2 u1
        by_cases u2 : us = 2
        · have hub2 : (us == 2) = true := by rw [u2]; rfl
          have hX2 : q = if d ≤ 4 then 2 else if d ≤ 9 then 4 else 8 := by rw [hX1]; unfold numZ; rw [if_neg u1, if_pos u2]
          have HU := hide u2
          clear u1 u2 hX1
          by_cases d4 : d ≤ 4
          · have HX : Hid (q = 2) := by unfold Hid; rw [hX2]; exact if_pos d4
            have hdd : decide (d ≤ 4) = true := decide_eq_true d4
            clear hX2
            go_enter Tryz.func16, Tryz.ntmps16
            go_upto_region 1 with fail
            with_reducible rw [← HW.out]
            clear HW
            go_wp2_with fail
            go_ret
            exact ⟨by rw [HX.out]; rfl, HB.out⟩
          · have hdd : decide (d ≤ 4) = false := decide_eq_false d4
            by_cases d9 : d ≤ 9
            · have HX : Hid (q = 4) := by unfold Hid; rw [hX2, if_neg d4]; exact if_pos d9
              have hd9 : decide (d ≤ 9) = true := decide_eq_true d9
              clear hX2
              go_enter Tryz.func16, Tryz.ntmps16
              go_upto_region 1 with fail
              with_reducible rw [← HW.out]
              clear HW
              go_wp2_with fail
              go_ret
              exact ⟨by rw [HX.out]; rfl, HB.out⟩
            · have HX : Hid (q = 8) := by unfold Hid; rw [hX2, if_neg d4]; exact if_neg d9
              have hd9 : decide (d ≤ 9) = false := decide_eq_false d9
              clear hX2
              go_enter Tryz.func16, Tryz.ntmps16
              go_upto_region 1 with fail
              with_reducible rw [← HW.out]
              clear HW
              go_wp2_with fail
              go_ret
              exact ⟨by rw [HX.out]; rfl, HB.out⟩
        · have hub2 : (us == 2) = false := beq_eq_false_iff_ne.2 u2
          have hX2 : q = if sep = true then d + 1 else d := by rw [hX1]; unfold numZ; rw [if_neg u1, if_neg u2]
          clear u1 u2 hX1
          cases sep with
          | true =>
            have HX : Hid (q = d + 1) := by unfold Hid; rw [hX2]; exact if_pos rfl
            clear hX2
            go_enter Tryz.func16, Tryz.ntmps16
            go_upto_region 1 with fail
            with_reducible rw [← HW.out]
            clear HW
            go_wp2_with fail
            go_ret
            exact ⟨by rw [HX.out]; rfl, HB.out⟩
          | false =>
            have HX : Hid (q = d) := by unfold Hid; rw [hX2]; exact if_neg (by simp)
            clear hX2
            go_enter Tryz.func16, Tryz.ntmps16
            go_upto_region 1 with fail
            with_reducible rw [← HW.out]
            clear HW
            go_wp2_with fail
            go_ret
            exact ⟨by rw [HX.out]; rfl, HB.out⟩
    · have hcb4 : (c != 4) = true := by rw [bne_iff_ne]; exact h4c
      have HX : Hid (q = (pic.size : Int) - Pic.cnt 86 pic.data.toList) := by unfold Hid; rw [HQ.out, if_neg h0, if_pos h4c]
      have HH := hide h0
      have HH2 := hide h4c
      clear h0 h4c h4 c0 c1 c2 c3 c7 c10
      go_enter Tryz.func16, Tryz.ntmps16
      obtain ⟨c0, c1, c2, c3, c7, c10⟩ := HSH.out.cells
      go_upto_region 1 with fail
      with_reducible rw [← HW.out]
      clear HW
      go_wp2_with fail
      clear c0 c1 c2 c3 c7 c10
      go_loopw [3, 4] (fun kv iv wr => ∃ i K : Nat, iv = .int .i64 (i : Int) ∧ kv = .int .i64 (K : Int) ∧ i ≤ pic.size ∧ K ≤ i ∧ Hid (K + Pic.cnt 86 (pic.data.toList.take i) = i) ∧ Hid (ShAt wr w.heap.size c us pic d sc sg ld sep ju bl n) ∧ Hid (Below w.heap.size w wr)) (fun _ iv _ => pic.size - (intOf iv).toNat)
      case atStart => exact ⟨0, 0, rfl, rfl, by omega, by omega, rfl, HSH.out, HB.out⟩
      case round =>
        obtain ⟨i, K, rfl, rfl, hi, hK, hcnt, hsa, hb⟩ := hrel
        obtain ⟨V, rfl⟩ : ∃ V, V = wr := ⟨_, rfl⟩
        have c2 := (hsa.out.cells).2.2.1
        by_cases hlt : i < pic.size
        · obtain ⟨x, hx⟩ : ∃ x, pic[i] = x := ⟨_, rfl⟩
          have hil : i < pic.data.toList.length := by rw [HPL.out]; exact hlt
          have hxl : pic.data.toList[i] = x := by
            have := Lib.data_getElem? pic i hlt
            rw [List.getElem?_eq_getElem hil, hx] at this
            exact Option.some.inj this
          have hsn := cnt_snoc pic.data.toList i hil
          rw [hxl] at hsn
          clear hxl
          by_cases hx86 : x = 86
          · have hb86 : ((x.toNat : Int) != 86) = false := by rw [hx86]; rfl
            have HN : Hid (K + Pic.cnt 86 (pic.data.toList.take (i + 1)) = i + 1) := by unfold Hid; have := hcnt.out; rw [hsn, if_pos hx86]; omega
            clear hsn hx86
            go_wp2_with fail
            exact ⟨⟨i + 1, K, rfl, rfl, by omega, by omega, HN.out, hsa.out, hb.out⟩, by simp [intOf]; omega⟩
          · have hb86 : ((x.toNat : Int) != 86) = true := by
              rw [bne_iff_ne]
              intro h
              apply hx86
              apply UInt8.toNat_inj.1
              show x.toNat = 86
              omega
            have HN : Hid (K + 1 + Pic.cnt 86 (pic.data.toList.take (i + 1)) = i + 1) := by unfold Hid; have := hcnt.out; rw [hsn, if_neg hx86]; omega
            clear hsn hx86
            go_wp2_with fail
            exact ⟨⟨i + 1, K + 1, rfl, rfl, by omega, by omega, HN.out, hsa.out, hb.out⟩, by simp [intOf]; omega⟩
        · have hip : i = pic.size := by omega
          have HF : Hid (q = (K : Int)) := by
            unfold Hid
            have := hcnt.out
            rw [hip, List.take_of_length_le (by rw [HPL.out]; exact Nat.le_refl _)] at this
            rw [HX.out]; omega
          clear hip
          go_wp2_with fail
          go_ret
          exact ⟨by rw [HF.out]; rfl, hb.out⟩
end Go.Proofs.YthdggnkpncoikaaGreatDoor
