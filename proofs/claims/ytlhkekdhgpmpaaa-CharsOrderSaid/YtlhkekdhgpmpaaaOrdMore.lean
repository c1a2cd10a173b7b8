/-
  THE WALK of the law CharsOrder, the first text not the shorter one.
-/
import Derived.Test.YtlhkekdhgpmpaaaOrdLess
namespace Go.Proofs.Ytlhkekdhgpmpaaa
open Go.RowKit Go.Shelf

set_option maxHeartbeats 8000000 in
set_option maxRecDepth 100000 in
theorem CharsOrder_more (A A' A2 : Option Addr) (la lb lc : List UInt8) (na nb nc ca cb cc B : Nat) (w : World) (hA : Sl w B A la) (hA' : Sl w B A' lb) (hA2 : Sl w B A2 lc) (hB : B ≤ w.heap.size) (hna : na = la.length) (hnb : nb = lb.length) (hnc : nc = lc.length)
    (hca : na ≤ ca) (hcb : nb ≤ cb) (hma : ca ≤ 9223372036854775807) (hmb : cb ≤ 9223372036854775807) (hnone : A = none → na = 0 ∧ ca = 0) (h1 : na ≤ 200) (h2 : nb ≤ 200) (h3 : nc ≤ 200) (hmax : nb ≤ na) :
    Calls Try.prog 5 #[.slice A na ca, .slice A' nb cb, .slice A2 nc cc] w fun e w' => e = .returned (.bool true) ∧ Below w.heap.size w w' := by
  have HA := hide hA
  have HA' := hide hA'
  have HA2 := hide hA2
  have Hna := hide hna
  have Hnb := hide hnb
  have Hnc := hide hnc
  have Hnone := hide hnone
  have hstart : Hid (cmpL la lb = cmpF (padAt la) (padAt lb) 0 (na - 0)) := hide (cmpL_at la lb na (by omega) (by omega))
  clear hA hA' hA2 hna hnb hnc hnone
  go_enter Try.func5, Try.ntmps5
  go_wp2_with fail
  go_loop [7, 8] (fun vw vi => ∃ k : Nat, ∃ v : Int, k ≤ na ∧ vi = .int .i64 k ∧ vw = .int .i64 v ∧ Hid (v = 0 → cmpL la lb = cmpF (padAt la) (padAt lb) k (na - k)) ∧ Hid (v ≠ 0 → cmpL la lb = v)) (fun _ i => na - (intOf i).toNat)
  case atStart => exact ⟨0, 0, Nat.zero_le _, rfl, rfl, fun _ => hstart.out, fun h => absurd rfl h⟩
  case round =>
    obtain ⟨k, v, hk, rfl, rfl, hv0, hv1⟩ := hrel
    by_cases hlt : k < na
    · by_cases hv : v = 0
      · subst hv
        have hv2 := hide (hv0.out rfl)
        clear hv0 hv1
        have hst := hide (cmpF_step (padAt la) (padAt lb) k na hlt)
        rcases Nat.lt_trichotomy (padAt la k).toNat (padAt lb k).toNat with hc | hc | hc
        · have hB1 : Hid (cmpB (padAt la k) (padAt lb k) = -1) := by unfold Hid cmpB; rw [if_pos hc]
          go_wp2_with fail
          refine (at_c A la na ca B k _ HA.out Hna.out).mono ?_
          rintro e w' ⟨rfl, rfl⟩
          go_wp2_with fail
          refine (at_c A' lb nb cb B k _ HA'.out Hnb.out).mono ?_
          rintro e w' ⟨rfl, rfl⟩
          go_wp2_with fail
          refine (at_c A la na ca B k _ HA.out Hna.out).mono ?_
          rintro e w' ⟨rfl, rfl⟩
          go_wp2_with fail
          refine (at_c A' lb nb cb B k _ HA'.out Hnb.out).mono ?_
          rintro e w' ⟨rfl, rfl⟩
          go_wp2_with fail
          exact ⟨⟨k + 1, -1, by omega, by go_num, rfl, fun h => absurd h (by omega), fun _ => by rw [hv2.out, hst.out, if_neg (by rw [hB1.out]; omega), hB1.out]⟩, by simp [intOf]; omega⟩
        · have hc1 : (padAt la k).toNat ≤ (padAt lb k).toNat := by omega
          have hc2 : (padAt lb k).toNat ≤ (padAt la k).toNat := by omega
          have hB1 : Hid (cmpB (padAt la k) (padAt lb k) = 0) := by unfold Hid cmpB; rw [if_neg (by omega), if_neg (by omega)]
          clear hc
          go_wp2_with fail
          refine (at_c A la na ca B k _ HA.out Hna.out).mono ?_
          rintro e w' ⟨rfl, rfl⟩
          go_wp2_with fail
          refine (at_c A' lb nb cb B k _ HA'.out Hnb.out).mono ?_
          rintro e w' ⟨rfl, rfl⟩
          go_wp2_with fail
          refine (at_c A la na ca B k _ HA.out Hna.out).mono ?_
          rintro e w' ⟨rfl, rfl⟩
          go_wp2_with fail
          refine (at_c A' lb nb cb B k _ HA'.out Hnb.out).mono ?_
          rintro e w' ⟨rfl, rfl⟩
          go_wp2_with fail
          exact ⟨⟨k + 1, 0, by omega, by go_num, rfl, fun _ => by rw [hv2.out, hst.out, if_pos hB1.out], fun h => absurd rfl h⟩, by simp [intOf]; omega⟩
        · have hB1 : Hid (cmpB (padAt la k) (padAt lb k) = 1) := by unfold Hid cmpB; rw [if_neg (by omega), if_pos hc]
          go_wp2_with fail
          refine (at_c A la na ca B k _ HA.out Hna.out).mono ?_
          rintro e w' ⟨rfl, rfl⟩
          go_wp2_with fail
          refine (at_c A' lb nb cb B k _ HA'.out Hnb.out).mono ?_
          rintro e w' ⟨rfl, rfl⟩
          go_wp2_with fail
          refine (at_c A la na ca B k _ HA.out Hna.out).mono ?_
          rintro e w' ⟨rfl, rfl⟩
          go_wp2_with fail
          refine (at_c A' lb nb cb B k _ HA'.out Hnb.out).mono ?_
          rintro e w' ⟨rfl, rfl⟩
          go_wp2_with fail
          exact ⟨⟨k + 1, 1, by omega, by go_num, rfl, fun h => absurd h (by omega), fun _ => by rw [hv2.out, hst.out, if_neg (by rw [hB1.out]; omega), hB1.out]⟩, by simp [intOf]; omega⟩
      · have hcl := hv1.out hv
        rcases cmpL_vals la lb with h | h | h
        · have Hv := hide h
          obtain rfl : v = -1 := by omega
          clear h hcl hv
          go_wp2_with fail
          refine (Fit_c A la na ca B na false _ HA.out hB Hna.out hca (by unfold maxLen; omega) (by omega)).mono ?_
          rintro e w1 ⟨rfl, hblk1, hb1⟩
          have HB1 := hide hblk1
          have hs1 := hb1.size
          clear hblk1
          go_wp2_with fail
          refine (Fit_c A' lb nb cb B na false _ (HA'.out.keep hb1 hB B (Nat.le_refl _)) (by omega) Hnb.out hcb (by unfold maxLen; omega) (by omega)).mono ?_
          rintro e w2 ⟨rfl, hblk2, hb2⟩
          have HB2 := hide hblk2
          have HB1' := hide (HB1.out.below hb2 HB1.out.lt)
          have hbw := hb1.trans (hb2.mono hb1.size)
          clear hblk2 hb1 hb2 hs1
          obtain ⟨X, hX⟩ := sl_name w2 (HB1'.out.row.sl HB1'.out.lt)
          obtain ⟨Y, hY⟩ := sl_name w2 (HB2.out.row.sl HB2.out.lt)
          have htx := (HB1'.out.row.sl HB1'.out.lt).str na na (fitL_length _ _ _).symm X hX
          have hty := (HB2.out.row.sl HB2.out.lt).str na na (fitL_length _ _ _).symm Y hY
          have hxe := pad_eq_s X Y la lb na (by have := Hna.out; omega) (by have := Hnb.out; omega) hX hY
          have hxl := pad_less_s X Y la lb na (by have := Hna.out; omega) (by have := Hnb.out; omega) hX hY
          rw [Hv.out] at hxe hxl
          have hxe : (X.toList == Y.toList) = false := hxe
          have hxl : Op.bytesLess X.toList Y.toList = true := hxl
          clear hX hY
          have sA := hide (HA.out.keep hbw hB B (Nat.le_refl _))
          have sA' := hide (HA'.out.keep hbw hB B (Nat.le_refl _))
          have sA2 := hide (HA2.out.keep hbw hB B (Nat.le_refl _))
          go_wp2_with fail
          refine (Compare_r (-1) A A' la lb na nb ca cb B B _ sA.out Hna.out sA'.out Hnb.out (by omega) (by omega) Hv.out).mono ?_
          rintro e w' ⟨rfl, rfl⟩
          go_wp2_with fail
          refine (Compare_r 1 A' A lb la nb na cb ca B B _ sA'.out Hnb.out sA.out Hna.out (by omega) (by omega) (by have h := cmpL_neg la lb; rw [Hv.out] at h; omega)).mono ?_
          rintro e w' ⟨rfl, rfl⟩
          obtain ⟨r2, hr2⟩ : ∃ r, cmpL lb lc = r := ⟨_, rfl⟩
          obtain ⟨r3, hr3⟩ : ∃ r, cmpL la lc = r := ⟨_, rfl⟩
          have hr23 : r2 ≤ 0 → r3 ≤ 0 := fun h => by rw [← hr3]; exact cmpL_trans la lb lc (by rw [Hv.out]; omega) (by rw [hr2]; exact h)
          have HR2 := hide hr2
          have HR3 := hide hr3
          clear hr2 hr3
          go_wp2_with fail
          refine (Compare_r r2 A' A2 lb lc nb nc cb cc B B _ sA'.out Hnb.out sA2.out Hnc.out (by omega) (by omega) HR2.out).mono ?_
          rintro e w' ⟨rfl, rfl⟩
          by_cases hle : r2 ≤ 0
          · have hr3 := hr23 hle
            go_wp2_with fail
            refine (Compare_r r3 A A2 la lc na nc ca cc B B _ sA.out Hna.out sA2.out Hnc.out (by omega) (by omega) HR3.out).mono ?_
            rintro e w' ⟨rfl, rfl⟩
            go_wp2_with fail
            refine (Trim_c A la na ca B _ sA.out (by have := hbw.size; omega) Hna.out (by omega)).mono ?_
            rintro e w3 ⟨rfl, hblk3, hb3⟩
            have HB3 := hide hblk3
            have hbw3 := hbw.trans (hb3.mono hbw.size)
            clear hblk3
            have sB := hide (HA.out.keep hbw3 hB B (Nat.le_refl _))
            obtain ⟨A4, c4, w4, hrun4, hown4, hb4⟩ := append_nil8 w3 A la na ca B sB.out Hna.out Hnone.out (by omega)
            obtain ⟨A5, c5, w5, hrun5, hs5, hl5, hb5⟩ := append_space8 w3 w4 A4 la na c4 hown4 hb4 (by omega)
            have hbw5 := hbw3.trans (hb5.mono hbw3.size)
            have HS5 := hide hs5
            have HL5 := hide hl5
            have sC := hide (HA.out.keep hbw5 hB B (Nat.le_refl _))
            clear hown4 hb4 hs5 hl5 hb5 hb3
            go_wp2_with fail
            refine (Compare_r 0 A _ la (trimL la) na _ ca _ B _ _ sB.out Hna.out (HB3.out.row.sl HB3.out.lt) (trimL_length la).symm (by omega) (by have := (trimN_le la).1; have := Hna.out; omega) (cmpL_trim la)).mono ?_
            rintro e w' ⟨rfl, rfl⟩
            go_wp2_with (first | (at_builtin; refine wpList_append_run rfl (.const (.slice none 0 0)) (.tmp 134) 25 rfl _ _ rfl rfl _ _ 25 rfl hrun4 ?_) | (at_builtin; refine wpList_append_run rfl (.tmp 135) (.tmp 136) 25 rfl _ _ rfl rfl _ _ 25 rfl hrun5 ?_))
            refine (Compare_r 0 A A5 la (la ++ [32]) na (na + 1) ca c5 B _ _ sC.out Hna.out HS5.out HL5.out (by omega) (by omega) (cmpL_space la)).mono ?_
            rintro e w' ⟨rfl, rfl⟩
            go_wp2_with fail
            refine (lives_c _).mono ?_
            rintro e w6 ⟨rfl, hb6⟩
            go_wp2_with fail
            go_ret
            exact ⟨rfl, hbw5.trans (hb6.mono hbw5.size)⟩
          · go_wp2_with fail
            refine (Trim_c A la na ca B _ sA.out (by have := hbw.size; omega) Hna.out (by omega)).mono ?_
            rintro e w3 ⟨rfl, hblk3, hb3⟩
            have HB3 := hide hblk3
            have hbw3 := hbw.trans (hb3.mono hbw.size)
            clear hblk3
            have sB := hide (HA.out.keep hbw3 hB B (Nat.le_refl _))
            obtain ⟨A4, c4, w4, hrun4, hown4, hb4⟩ := append_nil8 w3 A la na ca B sB.out Hna.out Hnone.out (by omega)
            obtain ⟨A5, c5, w5, hrun5, hs5, hl5, hb5⟩ := append_space8 w3 w4 A4 la na c4 hown4 hb4 (by omega)
            have hbw5 := hbw3.trans (hb5.mono hbw3.size)
            have HS5 := hide hs5
            have HL5 := hide hl5
            have sC := hide (HA.out.keep hbw5 hB B (Nat.le_refl _))
            clear hown4 hb4 hs5 hl5 hb5 hb3
            go_wp2_with fail
            refine (Compare_r 0 A _ la (trimL la) na _ ca _ B _ _ sB.out Hna.out (HB3.out.row.sl HB3.out.lt) (trimL_length la).symm (by omega) (by have := (trimN_le la).1; have := Hna.out; omega) (cmpL_trim la)).mono ?_
            rintro e w' ⟨rfl, rfl⟩
            go_wp2_with (first | (at_builtin; refine wpList_append_run rfl (.const (.slice none 0 0)) (.tmp 134) 25 rfl _ _ rfl rfl _ _ 25 rfl hrun4 ?_) | (at_builtin; refine wpList_append_run rfl (.tmp 135) (.tmp 136) 25 rfl _ _ rfl rfl _ _ 25 rfl hrun5 ?_))
            refine (Compare_r 0 A A5 la (la ++ [32]) na (na + 1) ca c5 B _ _ sC.out Hna.out HS5.out HL5.out (by omega) (by omega) (cmpL_space la)).mono ?_
            rintro e w' ⟨rfl, rfl⟩
            go_wp2_with fail
            refine (lives_c _).mono ?_
            rintro e w6 ⟨rfl, hb6⟩
            go_wp2_with fail
            go_ret
            exact ⟨rfl, hbw5.trans (hb6.mono hbw5.size)⟩
        · omega
        · have Hv := hide h
          obtain rfl : v = 1 := by omega
          clear h hcl hv
          go_wp2_with fail
          refine (Fit_c A la na ca B na false _ HA.out hB Hna.out hca (by unfold maxLen; omega) (by omega)).mono ?_
          rintro e w1 ⟨rfl, hblk1, hb1⟩
          have HB1 := hide hblk1
          have hs1 := hb1.size
          clear hblk1
          go_wp2_with fail
          refine (Fit_c A' lb nb cb B na false _ (HA'.out.keep hb1 hB B (Nat.le_refl _)) (by omega) Hnb.out hcb (by unfold maxLen; omega) (by omega)).mono ?_
          rintro e w2 ⟨rfl, hblk2, hb2⟩
          have HB2 := hide hblk2
          have HB1' := hide (HB1.out.below hb2 HB1.out.lt)
          have hbw := hb1.trans (hb2.mono hb1.size)
          clear hblk2 hb1 hb2 hs1
          obtain ⟨X, hX⟩ := sl_name w2 (HB1'.out.row.sl HB1'.out.lt)
          obtain ⟨Y, hY⟩ := sl_name w2 (HB2.out.row.sl HB2.out.lt)
          have htx := (HB1'.out.row.sl HB1'.out.lt).str na na (fitL_length _ _ _).symm X hX
          have hty := (HB2.out.row.sl HB2.out.lt).str na na (fitL_length _ _ _).symm Y hY
          have hxe := pad_eq_s X Y la lb na (by have := Hna.out; omega) (by have := Hnb.out; omega) hX hY
          have hxl := pad_less_s X Y la lb na (by have := Hna.out; omega) (by have := Hnb.out; omega) hX hY
          rw [Hv.out] at hxe hxl
          have hxe : (X.toList == Y.toList) = false := hxe
          have hxl : Op.bytesLess X.toList Y.toList = false := hxl
          clear hX hY
          have sA := hide (HA.out.keep hbw hB B (Nat.le_refl _))
          have sA' := hide (HA'.out.keep hbw hB B (Nat.le_refl _))
          have sA2 := hide (HA2.out.keep hbw hB B (Nat.le_refl _))
          go_wp2_with fail
          refine (Compare_r 1 A A' la lb na nb ca cb B B _ sA.out Hna.out sA'.out Hnb.out (by omega) (by omega) Hv.out).mono ?_
          rintro e w' ⟨rfl, rfl⟩
          go_wp2_with fail
          refine (Compare_r (-1) A' A lb la nb na cb ca B B _ sA'.out Hnb.out sA.out Hna.out (by omega) (by omega) (by have h := cmpL_neg la lb; rw [Hv.out] at h; omega)).mono ?_
          rintro e w' ⟨rfl, rfl⟩
          go_wp2_with fail
          refine (Trim_c A la na ca B _ sA.out (by have := hbw.size; omega) Hna.out (by omega)).mono ?_
          rintro e w3 ⟨rfl, hblk3, hb3⟩
          have HB3 := hide hblk3
          have hbw3 := hbw.trans (hb3.mono hbw.size)
          clear hblk3
          have sB := hide (HA.out.keep hbw3 hB B (Nat.le_refl _))
          obtain ⟨A4, c4, w4, hrun4, hown4, hb4⟩ := append_nil8 w3 A la na ca B sB.out Hna.out Hnone.out (by omega)
          obtain ⟨A5, c5, w5, hrun5, hs5, hl5, hb5⟩ := append_space8 w3 w4 A4 la na c4 hown4 hb4 (by omega)
          have hbw5 := hbw3.trans (hb5.mono hbw3.size)
          have HS5 := hide hs5
          have HL5 := hide hl5
          have sC := hide (HA.out.keep hbw5 hB B (Nat.le_refl _))
          clear hown4 hb4 hs5 hl5 hb5 hb3
          go_wp2_with fail
          refine (Compare_r 0 A _ la (trimL la) na _ ca _ B _ _ sB.out Hna.out (HB3.out.row.sl HB3.out.lt) (trimL_length la).symm (by omega) (by have := (trimN_le la).1; have := Hna.out; omega) (cmpL_trim la)).mono ?_
          rintro e w' ⟨rfl, rfl⟩
          go_wp2_with (first | (at_builtin; refine wpList_append_run rfl (.const (.slice none 0 0)) (.tmp 134) 25 rfl _ _ rfl rfl _ _ 25 rfl hrun4 ?_) | (at_builtin; refine wpList_append_run rfl (.tmp 135) (.tmp 136) 25 rfl _ _ rfl rfl _ _ 25 rfl hrun5 ?_))
          refine (Compare_r 0 A A5 la (la ++ [32]) na (na + 1) ca c5 B _ _ sC.out Hna.out HS5.out HL5.out (by omega) (by omega) (cmpL_space la)).mono ?_
          rintro e w' ⟨rfl, rfl⟩
          go_wp2_with fail
          refine (lives_c _).mono ?_
          rintro e w6 ⟨rfl, hb6⟩
          go_wp2_with fail
          go_ret
          exact ⟨rfl, hbw5.trans (hb6.mono hbw5.size)⟩
    · obtain rfl : na = k := by omega
      have hcl : cmpL la lb = v := by
        by_cases hv : v = 0
        · rw [hv0.out hv, Nat.sub_self, hv]; rfl
        · exact hv1.out hv
      rcases cmpL_vals la lb with h | h | h
      · have Hv := hide h
        obtain rfl : v = -1 := by omega
        clear h hcl
        go_wp2_with fail
        refine (Fit_c A la na ca B na false _ HA.out hB Hna.out hca (by unfold maxLen; omega) (by omega)).mono ?_
        rintro e w1 ⟨rfl, hblk1, hb1⟩
        have HB1 := hide hblk1
        have hs1 := hb1.size
        clear hblk1
        go_wp2_with fail
        refine (Fit_c A' lb nb cb B na false _ (HA'.out.keep hb1 hB B (Nat.le_refl _)) (by omega) Hnb.out hcb (by unfold maxLen; omega) (by omega)).mono ?_
        rintro e w2 ⟨rfl, hblk2, hb2⟩
        have HB2 := hide hblk2
        have HB1' := hide (HB1.out.below hb2 HB1.out.lt)
        have hbw := hb1.trans (hb2.mono hb1.size)
        clear hblk2 hb1 hb2 hs1
        obtain ⟨X, hX⟩ := sl_name w2 (HB1'.out.row.sl HB1'.out.lt)
        obtain ⟨Y, hY⟩ := sl_name w2 (HB2.out.row.sl HB2.out.lt)
        have htx := (HB1'.out.row.sl HB1'.out.lt).str na na (fitL_length _ _ _).symm X hX
        have hty := (HB2.out.row.sl HB2.out.lt).str na na (fitL_length _ _ _).symm Y hY
        have hxe := pad_eq_s X Y la lb na (by have := Hna.out; omega) (by have := Hnb.out; omega) hX hY
        have hxl := pad_less_s X Y la lb na (by have := Hna.out; omega) (by have := Hnb.out; omega) hX hY
        rw [Hv.out] at hxe hxl
        have hxe : (X.toList == Y.toList) = false := hxe
        have hxl : Op.bytesLess X.toList Y.toList = true := hxl
        clear hX hY
        have sA := hide (HA.out.keep hbw hB B (Nat.le_refl _))
        have sA' := hide (HA'.out.keep hbw hB B (Nat.le_refl _))
        have sA2 := hide (HA2.out.keep hbw hB B (Nat.le_refl _))
        go_wp2_with fail
        refine (Compare_r (-1) A A' la lb na nb ca cb B B _ sA.out Hna.out sA'.out Hnb.out (by omega) (by omega) Hv.out).mono ?_
        rintro e w' ⟨rfl, rfl⟩
        go_wp2_with fail
        refine (Compare_r 1 A' A lb la nb na cb ca B B _ sA'.out Hnb.out sA.out Hna.out (by omega) (by omega) (by have h := cmpL_neg la lb; rw [Hv.out] at h; omega)).mono ?_
        rintro e w' ⟨rfl, rfl⟩
        obtain ⟨r2, hr2⟩ : ∃ r, cmpL lb lc = r := ⟨_, rfl⟩
        obtain ⟨r3, hr3⟩ : ∃ r, cmpL la lc = r := ⟨_, rfl⟩
        have hr23 : r2 ≤ 0 → r3 ≤ 0 := fun h => by rw [← hr3]; exact cmpL_trans la lb lc (by rw [Hv.out]; omega) (by rw [hr2]; exact h)
        have HR2 := hide hr2
        have HR3 := hide hr3
        clear hr2 hr3
        go_wp2_with fail
        refine (Compare_r r2 A' A2 lb lc nb nc cb cc B B _ sA'.out Hnb.out sA2.out Hnc.out (by omega) (by omega) HR2.out).mono ?_
        rintro e w' ⟨rfl, rfl⟩
        by_cases hle : r2 ≤ 0
        · have hr3 := hr23 hle
          go_wp2_with fail
          refine (Compare_r r3 A A2 la lc na nc ca cc B B _ sA.out Hna.out sA2.out Hnc.out (by omega) (by omega) HR3.out).mono ?_
          rintro e w' ⟨rfl, rfl⟩
          go_wp2_with fail
          refine (Trim_c A la na ca B _ sA.out (by have := hbw.size; omega) Hna.out (by omega)).mono ?_
          rintro e w3 ⟨rfl, hblk3, hb3⟩
          have HB3 := hide hblk3
          have hbw3 := hbw.trans (hb3.mono hbw.size)
          clear hblk3
          have sB := hide (HA.out.keep hbw3 hB B (Nat.le_refl _))
          obtain ⟨A4, c4, w4, hrun4, hown4, hb4⟩ := append_nil8 w3 A la na ca B sB.out Hna.out Hnone.out (by omega)
          obtain ⟨A5, c5, w5, hrun5, hs5, hl5, hb5⟩ := append_space8 w3 w4 A4 la na c4 hown4 hb4 (by omega)
          have hbw5 := hbw3.trans (hb5.mono hbw3.size)
          have HS5 := hide hs5
          have HL5 := hide hl5
          have sC := hide (HA.out.keep hbw5 hB B (Nat.le_refl _))
          clear hown4 hb4 hs5 hl5 hb5 hb3
          go_wp2_with fail
          refine (Compare_r 0 A _ la (trimL la) na _ ca _ B _ _ sB.out Hna.out (HB3.out.row.sl HB3.out.lt) (trimL_length la).symm (by omega) (by have := (trimN_le la).1; have := Hna.out; omega) (cmpL_trim la)).mono ?_
          rintro e w' ⟨rfl, rfl⟩
          go_wp2_with (first | (at_builtin; refine wpList_append_run rfl (.const (.slice none 0 0)) (.tmp 134) 25 rfl _ _ rfl rfl _ _ 25 rfl hrun4 ?_) | (at_builtin; refine wpList_append_run rfl (.tmp 135) (.tmp 136) 25 rfl _ _ rfl rfl _ _ 25 rfl hrun5 ?_))
          refine (Compare_r 0 A A5 la (la ++ [32]) na (na + 1) ca c5 B _ _ sC.out Hna.out HS5.out HL5.out (by omega) (by omega) (cmpL_space la)).mono ?_
          rintro e w' ⟨rfl, rfl⟩
          go_wp2_with fail
          refine (lives_c _).mono ?_
          rintro e w6 ⟨rfl, hb6⟩
          go_wp2_with fail
          go_ret
          exact ⟨rfl, hbw5.trans (hb6.mono hbw5.size)⟩
        · go_wp2_with fail
          refine (Trim_c A la na ca B _ sA.out (by have := hbw.size; omega) Hna.out (by omega)).mono ?_
          rintro e w3 ⟨rfl, hblk3, hb3⟩
          have HB3 := hide hblk3
          have hbw3 := hbw.trans (hb3.mono hbw.size)
          clear hblk3
          have sB := hide (HA.out.keep hbw3 hB B (Nat.le_refl _))
          obtain ⟨A4, c4, w4, hrun4, hown4, hb4⟩ := append_nil8 w3 A la na ca B sB.out Hna.out Hnone.out (by omega)
          obtain ⟨A5, c5, w5, hrun5, hs5, hl5, hb5⟩ := append_space8 w3 w4 A4 la na c4 hown4 hb4 (by omega)
          have hbw5 := hbw3.trans (hb5.mono hbw3.size)
          have HS5 := hide hs5
          have HL5 := hide hl5
          have sC := hide (HA.out.keep hbw5 hB B (Nat.le_refl _))
          clear hown4 hb4 hs5 hl5 hb5 hb3
          go_wp2_with fail
          refine (Compare_r 0 A _ la (trimL la) na _ ca _ B _ _ sB.out Hna.out (HB3.out.row.sl HB3.out.lt) (trimL_length la).symm (by omega) (by have := (trimN_le la).1; have := Hna.out; omega) (cmpL_trim la)).mono ?_
          rintro e w' ⟨rfl, rfl⟩
          go_wp2_with (first | (at_builtin; refine wpList_append_run rfl (.const (.slice none 0 0)) (.tmp 134) 25 rfl _ _ rfl rfl _ _ 25 rfl hrun4 ?_) | (at_builtin; refine wpList_append_run rfl (.tmp 135) (.tmp 136) 25 rfl _ _ rfl rfl _ _ 25 rfl hrun5 ?_))
          refine (Compare_r 0 A A5 la (la ++ [32]) na (na + 1) ca c5 B _ _ sC.out Hna.out HS5.out HL5.out (by omega) (by omega) (cmpL_space la)).mono ?_
          rintro e w' ⟨rfl, rfl⟩
          go_wp2_with fail
          refine (lives_c _).mono ?_
          rintro e w6 ⟨rfl, hb6⟩
          go_wp2_with fail
          go_ret
          exact ⟨rfl, hbw5.trans (hb6.mono hbw5.size)⟩
      · have Hv := hide h
        obtain rfl : v = 0 := by omega
        clear h hcl
        go_wp2_with fail
        refine (Fit_c A la na ca B na false _ HA.out hB Hna.out hca (by unfold maxLen; omega) (by omega)).mono ?_
        rintro e w1 ⟨rfl, hblk1, hb1⟩
        have HB1 := hide hblk1
        have hs1 := hb1.size
        clear hblk1
        go_wp2_with fail
        refine (Fit_c A' lb nb cb B na false _ (HA'.out.keep hb1 hB B (Nat.le_refl _)) (by omega) Hnb.out hcb (by unfold maxLen; omega) (by omega)).mono ?_
        rintro e w2 ⟨rfl, hblk2, hb2⟩
        have HB2 := hide hblk2
        have HB1' := hide (HB1.out.below hb2 HB1.out.lt)
        have hbw := hb1.trans (hb2.mono hb1.size)
        clear hblk2 hb1 hb2 hs1
        obtain ⟨X, hX⟩ := sl_name w2 (HB1'.out.row.sl HB1'.out.lt)
        obtain ⟨Y, hY⟩ := sl_name w2 (HB2.out.row.sl HB2.out.lt)
        have htx := (HB1'.out.row.sl HB1'.out.lt).str na na (fitL_length _ _ _).symm X hX
        have hty := (HB2.out.row.sl HB2.out.lt).str na na (fitL_length _ _ _).symm Y hY
        have hxe := pad_eq_s X Y la lb na (by have := Hna.out; omega) (by have := Hnb.out; omega) hX hY
        have hxl := pad_less_s X Y la lb na (by have := Hna.out; omega) (by have := Hnb.out; omega) hX hY
        rw [Hv.out] at hxe hxl
        have hxe : (X.toList == Y.toList) = true := hxe
        have hxl : Op.bytesLess X.toList Y.toList = false := hxl
        clear hX hY
        have sA := hide (HA.out.keep hbw hB B (Nat.le_refl _))
        have sA' := hide (HA'.out.keep hbw hB B (Nat.le_refl _))
        have sA2 := hide (HA2.out.keep hbw hB B (Nat.le_refl _))
        go_wp2_with fail
        refine (Compare_r 0 A A' la lb na nb ca cb B B _ sA.out Hna.out sA'.out Hnb.out (by omega) (by omega) Hv.out).mono ?_
        rintro e w' ⟨rfl, rfl⟩
        go_wp2_with fail
        refine (Compare_r 0 A' A lb la nb na cb ca B B _ sA'.out Hnb.out sA.out Hna.out (by omega) (by omega) (by have h := cmpL_neg la lb; rw [Hv.out] at h; omega)).mono ?_
        rintro e w' ⟨rfl, rfl⟩
        obtain ⟨r2, hr2⟩ : ∃ r, cmpL lb lc = r := ⟨_, rfl⟩
        obtain ⟨r3, hr3⟩ : ∃ r, cmpL la lc = r := ⟨_, rfl⟩
        have hr23 : r2 ≤ 0 → r3 ≤ 0 := fun h => by rw [← hr3]; exact cmpL_trans la lb lc (by rw [Hv.out]; omega) (by rw [hr2]; exact h)
        have HR2 := hide hr2
        have HR3 := hide hr3
        clear hr2 hr3
        go_wp2_with fail
        refine (Compare_r r2 A' A2 lb lc nb nc cb cc B B _ sA'.out Hnb.out sA2.out Hnc.out (by omega) (by omega) HR2.out).mono ?_
        rintro e w' ⟨rfl, rfl⟩
        by_cases hle : r2 ≤ 0
        · have hr3 := hr23 hle
          go_wp2_with fail
          refine (Compare_r r3 A A2 la lc na nc ca cc B B _ sA.out Hna.out sA2.out Hnc.out (by omega) (by omega) HR3.out).mono ?_
          rintro e w' ⟨rfl, rfl⟩
          go_wp2_with fail
          refine (Trim_c A la na ca B _ sA.out (by have := hbw.size; omega) Hna.out (by omega)).mono ?_
          rintro e w3 ⟨rfl, hblk3, hb3⟩
          have HB3 := hide hblk3
          have hbw3 := hbw.trans (hb3.mono hbw.size)
          clear hblk3
          have sB := hide (HA.out.keep hbw3 hB B (Nat.le_refl _))
          obtain ⟨A4, c4, w4, hrun4, hown4, hb4⟩ := append_nil8 w3 A la na ca B sB.out Hna.out Hnone.out (by omega)
          obtain ⟨A5, c5, w5, hrun5, hs5, hl5, hb5⟩ := append_space8 w3 w4 A4 la na c4 hown4 hb4 (by omega)
          have hbw5 := hbw3.trans (hb5.mono hbw3.size)
          have HS5 := hide hs5
          have HL5 := hide hl5
          have sC := hide (HA.out.keep hbw5 hB B (Nat.le_refl _))
          clear hown4 hb4 hs5 hl5 hb5 hb3
          go_wp2_with fail
          refine (Compare_r 0 A _ la (trimL la) na _ ca _ B _ _ sB.out Hna.out (HB3.out.row.sl HB3.out.lt) (trimL_length la).symm (by omega) (by have := (trimN_le la).1; have := Hna.out; omega) (cmpL_trim la)).mono ?_
          rintro e w' ⟨rfl, rfl⟩
          go_wp2_with (first | (at_builtin; refine wpList_append_run rfl (.const (.slice none 0 0)) (.tmp 134) 25 rfl _ _ rfl rfl _ _ 25 rfl hrun4 ?_) | (at_builtin; refine wpList_append_run rfl (.tmp 135) (.tmp 136) 25 rfl _ _ rfl rfl _ _ 25 rfl hrun5 ?_))
          refine (Compare_r 0 A A5 la (la ++ [32]) na (na + 1) ca c5 B _ _ sC.out Hna.out HS5.out HL5.out (by omega) (by omega) (cmpL_space la)).mono ?_
          rintro e w' ⟨rfl, rfl⟩
          go_wp2_with fail
          refine (lives_c _).mono ?_
          rintro e w6 ⟨rfl, hb6⟩
          go_wp2_with fail
          go_ret
          exact ⟨rfl, hbw5.trans (hb6.mono hbw5.size)⟩
        · go_wp2_with fail
          refine (Trim_c A la na ca B _ sA.out (by have := hbw.size; omega) Hna.out (by omega)).mono ?_
          rintro e w3 ⟨rfl, hblk3, hb3⟩
          have HB3 := hide hblk3
          have hbw3 := hbw.trans (hb3.mono hbw.size)
          clear hblk3
          have sB := hide (HA.out.keep hbw3 hB B (Nat.le_refl _))
          obtain ⟨A4, c4, w4, hrun4, hown4, hb4⟩ := append_nil8 w3 A la na ca B sB.out Hna.out Hnone.out (by omega)
          obtain ⟨A5, c5, w5, hrun5, hs5, hl5, hb5⟩ := append_space8 w3 w4 A4 la na c4 hown4 hb4 (by omega)
          have hbw5 := hbw3.trans (hb5.mono hbw3.size)
          have HS5 := hide hs5
          have HL5 := hide hl5
          have sC := hide (HA.out.keep hbw5 hB B (Nat.le_refl _))
          clear hown4 hb4 hs5 hl5 hb5 hb3
          go_wp2_with fail
          refine (Compare_r 0 A _ la (trimL la) na _ ca _ B _ _ sB.out Hna.out (HB3.out.row.sl HB3.out.lt) (trimL_length la).symm (by omega) (by have := (trimN_le la).1; have := Hna.out; omega) (cmpL_trim la)).mono ?_
          rintro e w' ⟨rfl, rfl⟩
          go_wp2_with (first | (at_builtin; refine wpList_append_run rfl (.const (.slice none 0 0)) (.tmp 134) 25 rfl _ _ rfl rfl _ _ 25 rfl hrun4 ?_) | (at_builtin; refine wpList_append_run rfl (.tmp 135) (.tmp 136) 25 rfl _ _ rfl rfl _ _ 25 rfl hrun5 ?_))
          refine (Compare_r 0 A A5 la (la ++ [32]) na (na + 1) ca c5 B _ _ sC.out Hna.out HS5.out HL5.out (by omega) (by omega) (cmpL_space la)).mono ?_
          rintro e w' ⟨rfl, rfl⟩
          go_wp2_with fail
          refine (lives_c _).mono ?_
          rintro e w6 ⟨rfl, hb6⟩
          go_wp2_with fail
          go_ret
          exact ⟨rfl, hbw5.trans (hb6.mono hbw5.size)⟩
      · have Hv := hide h
        obtain rfl : v = 1 := by omega
        clear h hcl
        go_wp2_with fail
        refine (Fit_c A la na ca B na false _ HA.out hB Hna.out hca (by unfold maxLen; omega) (by omega)).mono ?_
        rintro e w1 ⟨rfl, hblk1, hb1⟩
        have HB1 := hide hblk1
        have hs1 := hb1.size
        clear hblk1
        go_wp2_with fail
        refine (Fit_c A' lb nb cb B na false _ (HA'.out.keep hb1 hB B (Nat.le_refl _)) (by omega) Hnb.out hcb (by unfold maxLen; omega) (by omega)).mono ?_
        rintro e w2 ⟨rfl, hblk2, hb2⟩
        have HB2 := hide hblk2
        have HB1' := hide (HB1.out.below hb2 HB1.out.lt)
        have hbw := hb1.trans (hb2.mono hb1.size)
        clear hblk2 hb1 hb2 hs1
        obtain ⟨X, hX⟩ := sl_name w2 (HB1'.out.row.sl HB1'.out.lt)
        obtain ⟨Y, hY⟩ := sl_name w2 (HB2.out.row.sl HB2.out.lt)
        have htx := (HB1'.out.row.sl HB1'.out.lt).str na na (fitL_length _ _ _).symm X hX
        have hty := (HB2.out.row.sl HB2.out.lt).str na na (fitL_length _ _ _).symm Y hY
        have hxe := pad_eq_s X Y la lb na (by have := Hna.out; omega) (by have := Hnb.out; omega) hX hY
        have hxl := pad_less_s X Y la lb na (by have := Hna.out; omega) (by have := Hnb.out; omega) hX hY
        rw [Hv.out] at hxe hxl
        have hxe : (X.toList == Y.toList) = false := hxe
        have hxl : Op.bytesLess X.toList Y.toList = false := hxl
        clear hX hY
        have sA := hide (HA.out.keep hbw hB B (Nat.le_refl _))
        have sA' := hide (HA'.out.keep hbw hB B (Nat.le_refl _))
        have sA2 := hide (HA2.out.keep hbw hB B (Nat.le_refl _))
        go_wp2_with fail
        refine (Compare_r 1 A A' la lb na nb ca cb B B _ sA.out Hna.out sA'.out Hnb.out (by omega) (by omega) Hv.out).mono ?_
        rintro e w' ⟨rfl, rfl⟩
        go_wp2_with fail
        refine (Compare_r (-1) A' A lb la nb na cb ca B B _ sA'.out Hnb.out sA.out Hna.out (by omega) (by omega) (by have h := cmpL_neg la lb; rw [Hv.out] at h; omega)).mono ?_
        rintro e w' ⟨rfl, rfl⟩
        go_wp2_with fail
        refine (Trim_c A la na ca B _ sA.out (by have := hbw.size; omega) Hna.out (by omega)).mono ?_
        rintro e w3 ⟨rfl, hblk3, hb3⟩
        have HB3 := hide hblk3
        have hbw3 := hbw.trans (hb3.mono hbw.size)
        clear hblk3
        have sB := hide (HA.out.keep hbw3 hB B (Nat.le_refl _))
        obtain ⟨A4, c4, w4, hrun4, hown4, hb4⟩ := append_nil8 w3 A la na ca B sB.out Hna.out Hnone.out (by omega)
        obtain ⟨A5, c5, w5, hrun5, hs5, hl5, hb5⟩ := append_space8 w3 w4 A4 la na c4 hown4 hb4 (by omega)
        have hbw5 := hbw3.trans (hb5.mono hbw3.size)
        have HS5 := hide hs5
        have HL5 := hide hl5
        have sC := hide (HA.out.keep hbw5 hB B (Nat.le_refl _))
        clear hown4 hb4 hs5 hl5 hb5 hb3
        go_wp2_with fail
        refine (Compare_r 0 A _ la (trimL la) na _ ca _ B _ _ sB.out Hna.out (HB3.out.row.sl HB3.out.lt) (trimL_length la).symm (by omega) (by have := (trimN_le la).1; have := Hna.out; omega) (cmpL_trim la)).mono ?_
        rintro e w' ⟨rfl, rfl⟩
        go_wp2_with (first | (at_builtin; refine wpList_append_run rfl (.const (.slice none 0 0)) (.tmp 134) 25 rfl _ _ rfl rfl _ _ 25 rfl hrun4 ?_) | (at_builtin; refine wpList_append_run rfl (.tmp 135) (.tmp 136) 25 rfl _ _ rfl rfl _ _ 25 rfl hrun5 ?_))
        refine (Compare_r 0 A A5 la (la ++ [32]) na (na + 1) ca c5 B _ _ sC.out Hna.out HS5.out HL5.out (by omega) (by omega) (cmpL_space la)).mono ?_
        rintro e w' ⟨rfl, rfl⟩
        go_wp2_with fail
        refine (lives_c _).mono ?_
        rintro e w6 ⟨rfl, hb6⟩
        go_wp2_with fail
        go_ret
        exact ⟨rfl, hbw5.trans (hb6.mono hbw5.size)⟩

end Go.Proofs.Ytlhkekdhgpmpaaa
