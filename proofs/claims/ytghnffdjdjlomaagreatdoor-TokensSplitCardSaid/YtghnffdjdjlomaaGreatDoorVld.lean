/-
  THE CONTRACT of valid (layer 2, columns).
-/
import Derived.Test.YtghnffdjdjlomaaGreatDoorVal
namespace Go.Proofs.YtghnffdjdjlomaaGreatDoor
open Go.RowKit

set_option maxHeartbeats 2000000 in
set_option maxRecDepth 100000 in
theorem valid_c (left : Bool) (t : List UInt8) (ms : List MarkL) (A : Option Addr) (cap B : Nat) (w : World) (hm : MarksAt w B A ms) (hB : B ≤ w.heap.size) (ht : t.length ≤ 2000000) (hl : ms.length ≤ 2000000) :
    Calls Tryz.prog 59 #[.agg #[.bool left, .string (mk t), .slice A ms.length cap]] w fun e w' => e = .returned (.bool (validL ⟨left, t, ms⟩)) ∧ Below w.heap.size w w' := by
  have hR0 : Hid (validL ⟨left, t, ms⟩ = (!t.isEmpty && (!ms.isEmpty && (decide ((ms.getD 0 (0, 0, 0)).1 = 0) && marksOk (t.length : Int) (-1) ms)))) := rfl
  obtain ⟨S, hS⟩ : ∃ S, S = mk t := ⟨_, rfl⟩
  have hSs : S.size = t.length := by rw [hS]; show t.toArray.size = _; rw [List.size_toArray]
  have hSe : S.toList.isEmpty = t.isEmpty := by rw [hS, ByteArray.toList_eq]; rfl
  rw [← hS]
  clear hS
  have hbw := (Below.refl _ w).alloc (Nat.le_refl _) (.cells #[.bool left, .string S, .slice A ms.length cap] 34)
  by_cases h1 : t.isEmpty = true
  · have hR : Hid (validL ⟨left, t, ms⟩ = false) := by unfold Hid; rw [hR0.out, h1]; rfl
    rw [h1] at hSe
    clear hR0 h1
    go_enter Tryz.func59, Tryz.ntmps59
    go_wp2_with fail
    go_ret
    exact ⟨ret_bool (by rw [hR.out]), hbw⟩
  · have h1f : t.isEmpty = false := by simpa using h1
    rw [h1f] at hSe
    by_cases h2 : ms.length = 0
    · have hR : Hid (validL ⟨left, t, ms⟩ = false) := by unfold Hid; rw [hR0.out, List.eq_nil_of_length_eq_zero h2]; simp
      rw [h2] at hbw ⊢
      clear hR0 h1 h1f
      go_enter Tryz.func59, Tryz.ntmps59
      go_wp2_with fail
      go_ret
      exact ⟨ret_bool (by rw [hR.out]), hbw⟩
    · have hpos : 0 < ms.length := by omega
      obtain ⟨b, off, rfl, hb, m0, m1, m2⟩ := hm.at_ 0 hpos
      rw [Nat.zero_mul, Nat.add_zero] at m0
      have hbw2 : b < w.heap.size := by omega
      have hg0 : ms.getD 0 (0, 0, 0) = ms[0] := by rw [List.getD_eq_getElem?_getD, List.getElem?_eq_getElem hpos]; rfl
      have hne : ms.isEmpty = false := by
        rw [← Bool.not_eq_true, List.isEmpty_iff_length_eq_zero]; exact h2
      by_cases h3 : ms[0].1 = 0
      · have hR : Hid (validL ⟨left, t, ms⟩ = marksOk (t.length : Int) (-1) ms) := by
          unfold Hid; rw [hR0.out, h1f, hne, hg0, decide_eq_true h3]; rfl
        have e3 : (ms[0].1 != 0) = false := by rw [bne_eq_false_iff_eq]; exact h3
        have e0 : ((ms.length : Int) == 0) = false := by rw [beq_eq_false_iff_ne]; omega
        have hmk : Hid (∀ k (h : k < ms.length), w.cell? ⟨b, off + k * 3, none⟩ = some (.int .i64 ms[k].1) ∧ w.cell? ⟨b, off + k * 3 + 1, none⟩ = some (.int .i64 ms[k].2.1) ∧ w.cell? ⟨b, off + k * 3 + 2, none⟩ = some (.int .i64 ms[k].2.2)) := fun k hk => by
          obtain ⟨b', off', he, _, h⟩ := hm.at_ k hk
          injection he with he; injection he with e1 e2; subst e1; subst e2
          exact h
        have HBW := hide hbw
        have hcard := blk_new w #[.bool left, .string S, .slice (some ⟨b, off, none⟩) ms.length cap] 34
        have HC := hide hcard
        clear hR0 h1 h1f hne hg0 h3 hm hbw hcard
        go_enter Tryz.func59, Tryz.ntmps59
        go_wp2_with fail
        go_loopw [3, 26] (fun v3 v26 wr => ∃ (k : Nat) (bf : Int), v3 = .int .i64 bf ∧ v26 = .int .i64 (k : Int) ∧ k ≤ ms.length ∧ Hid (validL ⟨left, t, ms⟩ = marksOk (t.length : Int) bf (ms.drop k)) ∧ Below (w.heap.size + 1) (w.alloc (.cells #[.bool left, .string S, .slice (some ⟨b, off, none⟩) ms.length cap] 34)) wr) (fun _ v26 _ => ms.length - (intOf v26).toNat)
        case atStart => exact ⟨0, -1, rfl, rfl, Nat.zero_le _, hR, Below.refl _ _⟩
        case round =>
          obtain ⟨k, bf, rfl, rfl, hk, hI, hbr⟩ := hrel
          have hsz := hbr.size
          rw [World.size_alloc] at hsz
          have hfin : Below w.heap.size w wr := HBW.out.trans (hbr.mono (by omega))
          have hcw := Blk.mods HC.out (⟨hbr.os, hbr.tape, hbr.output, hbr.size, fun i _ hi => hbr.block i (by omega)⟩ : Mods (fun i => w.heap.size + 1 ≤ i) _ wr) (by omega)
          have d1 := hcw.cell 1
          by_cases hlt : k < ms.length
          · have hst := marksOk_at (t.length : Int) bf ms k hlt
            obtain ⟨c0, c1, c2⟩ := hmk.out k hlt
            have hbl := hfin.block b hbw2
            have x0 := (World.cell?_of_block (a := ⟨b, off + k * 3, none⟩) hbl).trans c0
            have x1 := (World.cell?_of_block (a := ⟨b, off + k * 3 + 1, none⟩) hbl).trans c1
            have x2 := (World.cell?_of_block (a := ⟨b, off + k * 3 + 2, none⟩) hbl).trans c2
            have hbwr : b < wr.heap.size := by omega
            obtain ⟨q1, h1q⟩ : ∃ q, q = ms[k].1 := ⟨_, rfl⟩
            obtain ⟨q2, h2q⟩ : ∃ q, q = ms[k].2.1 := ⟨_, rfl⟩
            obtain ⟨q3, h3q⟩ : ∃ q, q = ms[k].2.2 := ⟨_, rfl⟩
            rw [← h1q, ← h2q, ← h3q] at hst
            rw [← h1q] at x0
            rw [← h2q] at x1
            rw [← h3q] at x2
            have hw0 : w.heap.size < wr.heap.size := by omega
            have HST := hide hst
            have HSS := hide hSs
            have hsl : S.size ≤ 2000000 := by omega
            have hcm := blk_new wr #[.int .i64 q1, .int .i64 q2, .int .i64 q3] 57
            have HFA : Hid (Below w.heap.size w (wr.alloc (.cells #[.int .i64 q1, .int .i64 q2, .int .i64 q3] 57))) := hfin.alloc (by omega) _
            have HRA : Hid (Below (w.heap.size + 1) (w.alloc (.cells #[.bool left, .string S, .slice (some ⟨b, off, none⟩) ms.length cap] 34)) (wr.alloc (.cells #[.int .i64 q1, .int .i64 q2, .int .i64 q3] 57))) := hbr.alloc (by omega) _
            clear hst hSs c0 c1 c2 hbl h1q h2q h3q hfin hbr
            by_cases a1 : q1 ≤ bf
            · have hT : Hid (validL ⟨left, t, ms⟩ = false) := by unfold Hid; rw [hI.out, HST.out, if_pos a1]
              clear hI HST
              go_wp2_with fail
              go_ret
              exact ⟨ret_bool (by rw [hT.out]), HFA.out⟩
            · by_cases a2 : (S.size : Int) ≤ q1
              · have hT : Hid (validL ⟨left, t, ms⟩ = false) := by unfold Hid; rw [hI.out, HST.out, if_neg a1, ← HSS.out, if_pos a2]
                clear hI HST
                go_wp2_with fail
                go_ret
                exact ⟨ret_bool (by rw [hT.out]), HFA.out⟩
              · have hI2 : Hid (validL ⟨left, t, ms⟩ = if inTextL q2 q3 then marksOk (t.length : Int) q1 (ms.drop (k + 1)) else false) := by unfold Hid; rw [hI.out, HST.out, if_neg a1, ← HSS.out, if_neg a2]
                clear hI HST
                have HM := hide hcm
                clear hcm
                go_wp2_with fail
                refine (inText_c q2 q3 _).mono ?_
                rintro e w2 ⟨rfl, hb2⟩
                have HF2 : Hid (Below w.heap.size w w2) := HFA.out.trans (hb2.mono (HFA.out.size))
                have HR2 : Hid (Below (w.heap.size + 1) (w.alloc (.cells #[.bool left, .string S, .slice (some ⟨b, off, none⟩) ms.length cap] 34)) w2) := HRA.out.trans (hb2.mono (by simp; omega))
                have hM2 := blk_kept hb2 HM.out
                have y0 := hM2.cell 0
                clear hM2 hb2
                cases hin : inTextL q2 q3
                · have hT : Hid (validL ⟨left, t, ms⟩ = false) := by unfold Hid; rw [hI2.out, hin]; rfl
                  clear hI2
                  go_wp2_with fail
                  go_ret
                  exact ⟨ret_bool (by rw [hT.out]), HF2.out⟩
                · have hT : Hid (validL ⟨left, t, ms⟩ = marksOk (t.length : Int) q1 (ms.drop (k + 1))) := by unfold Hid; rw [hI2.out, hin]; rfl
                  clear hI2
                  go_wp2_with fail
                  go_roundw
                  case rel => exact ⟨k + 1, q1, rfl, by go_num, hlt, hT, HR2.out⟩
                  case measure => simp [intOf]; omega
          · obtain rfl : k = ms.length := by omega
            have hT : Hid (validL ⟨left, t, ms⟩ = true) := by unfold Hid; rw [hI.out, List.drop_eq_nil_of_le (Nat.le_refl _)]; rfl
            clear hI
            go_wp2_with fail
            go_ret
            exact ⟨ret_bool (by rw [hT.out]), hfin⟩
      · have hR : Hid (validL ⟨left, t, ms⟩ = false) := by
          unfold Hid; rw [hR0.out, hg0, decide_eq_false h3]; simp
        have e3 : (ms[0].1 != 0) = true := by rw [bne_iff_ne]; exact h3
        clear hR0 h1 h1f hne hg0 h3
        go_enter Tryz.func59, Tryz.ntmps59
        go_wp2_with fail
        go_ret
        exact ⟨ret_bool (by rw [hR.out]), hbw⟩
end Go.Proofs.YtghnffdjdjlomaaGreatDoor
