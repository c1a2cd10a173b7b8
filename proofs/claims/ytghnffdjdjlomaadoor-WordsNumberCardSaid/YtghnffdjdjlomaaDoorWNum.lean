/-
  THE LAW WordsNumber, walked (layer 5, words).
-/
import Derived.Test.YtghnffdjdjlomaaDoorLvX
import Derived.Test.YtghnffdjdjlomaaDoorNumB
namespace Go.Proofs.YtghnffdjdjlomaaDoor
open Go.RowKit Go.Shelf
theorem NumLaw_far (s : ByteArray) (w : World) (hs : s.size ≤ maxLen) (h : 60 < s.size) (hasc : AscS w) (hmx : MaxW w) :
    Calls Tryd.prog 7 #[.string s] w fun e w' => e = .returned (.bool true) ∧ Below w.heap.size w w' := by
  unfold maxLen at hs
  have HL := hide (livesW_c w hasc hmx)
  clear hasc hmx
  go_enter Tryd.func7, Tryd.ntmps7
  go_wp2_with fail
  refine HL.out.mono ?_
  rintro e w1 ⟨rfl, hb⟩
  go_wp2_with fail
  go_ret
  exact ⟨rfl, hb⟩
theorem numR_bytes (l : List UInt8) (h : numE l = 0) : numR l = .ok ⟨4, picL l, (dgL l).length, (bhL l).length, !(sgL l).isEmpty, zonedL (dgL l) (sgL l)⟩ ∧ 0 < (zonedL (dgL l) (sgL l)).length := by
  refine ⟨by unfold numR; rw [if_pos h], ?_⟩
  rw [zonedL_len]
  exact digits_pos _ (numE_zero l h).1
theorem unL_at (s : ByteArray) (j : Nat) : (unL s.data.toList)[j]? = s.data.toList[(sgL s.data.toList).length + j]? := by
  unfold unL; rw [List.getElem?_drop]
theorem sgL_len (l : List UInt8) : (sgL l).length ≤ 1 ∧ (sgL l).length ≤ l.length := by
  rcases sgL_cases l with ⟨h1, h2⟩ | ⟨_, h1, h2⟩ | ⟨_, _, h2⟩
  · obtain ⟨r, hr⟩ := hasPrefix_one _ _ h1
    rw [h2, hr]; simp
  · obtain ⟨r, hr⟩ := hasPrefix_one _ _ h1
    rw [h2, hr]; simp
  · rw [h2]; simp
/-- the first byte tells the sign -/
theorem sgL_first (s : ByteArray) : (s.size = 0 ∧ (sgL s.data.toList).length = 0) ∨ ∃ h : 0 < s.size, (sgL s.data.toList).length = if s[0] = 43 ∨ s[0] = 45 then 1 else 0 := by
  rcases Nat.eq_zero_or_pos s.size with h | h
  · left
    have := (sgL_len s.data.toList).2
    rw [len_data] at this
    exact ⟨h, by omega⟩
  · right
    refine ⟨h, ?_⟩
    have h0 : s.data.toList[0]? = some s[0] := Lib.data_getElem? s 0 h
    have hp : ∀ c : UInt8, Lib.hasPrefix s.data.toList [c] = decide (s[0] = c) := fun c => by
      cases hl : s.data.toList with
      | nil => rw [hl] at h0; cases h0
      | cons a r =>
        rw [hl] at h0
        have ha : a = s[0] := by simpa using h0
        unfold Lib.hasPrefix
        rw [← ha]
        by_cases e : a = c
        · subst e; simp [List.isPrefixOf]
        · have e' : (c == a) = false := by simpa using fun x => e x.symm
          simp [List.isPrefixOf, e', e]
    unfold sgL
    rw [hp, hp]
    by_cases h1 : s[0] = 43
    · simp [h1]
    · by_cases h2 : s[0] = 45
      · simp [h2]
      · simp [h1, h2]

set_option maxRecDepth 100000 in
set_option maxHeartbeats 4000000 in
theorem NumLaw_near (s : ByteArray) (w : World) (hs : s.size ≤ 60) (hasc : AscS w) (hmx : MaxW w) :
    Calls Tryd.prog 7 #[.string s] w fun e w' => e = .returned (.bool true) ∧ Below w.heap.size w w' := by
  have HLv : Hid (∀ W, Below w.heap.size w W → Calls Tryd.prog 17 #[] W fun e w' => e = .returned (.bool true) ∧ Below W.heap.size W w') := fun W hb => livesW_c W (hasc.below (.inl (Nat.le_refl _)) hb) (hmx.below hb)
  have HLi := hide ((Literal_r 2 s 0 0 false w (by omega) hmx))
  have h60 : ¬ (60 : Int) < (s.size : Int) := by omega
  have HF := hide (sgL_first s)
  obtain ⟨i, hi⟩ : ∃ i, i = (sgL s.data.toList).length := ⟨_, rfl⟩
  have hsl := sgL_len s.data.toList
  rw [← hi, len_data] at hsl
  rw [← hi] at HF
  obtain ⟨U, hU⟩ : ∃ U, U = unL s.data.toList := ⟨_, rfl⟩
  have hUl : U.length + i = s.size := by rw [hU]; unfold unL; rw [List.length_drop, len_data, ← hi]; omega
  have HAT : Hid (∀ j (h : i + j < s.size), U[j]? = some s[i + j]) := fun j h => by
    rw [hU, unL_at, ← hi]; exact Lib.data_getElem? s (i + j) h
  have HU := hide hU
  have HUL := hide hUl
  obtain ⟨hi1, his⟩ := hsl
  clear hasc hmx hi hU hUl
  go_enter Tryd.func7, Tryd.ntmps7
  go_upto_region 4 with fail
  obtain ⟨pp, hpp⟩ : ∃ pp, pp = decide (i = 1) := ⟨_, rfl⟩
  have HPP := hide hpp
  clear hpp
  go_cut [27] (fun s27 wx => s27 = .bool pp ∧ w = wx)
  case first =>
    rcases HF.out with ⟨h0, h1⟩ | ⟨h0, h1⟩
    · have hp : pp = false := by rw [HPP.out, h1]; rfl
      have hnil : s.data.toList = [] := List.eq_nil_of_length_eq_zero (by rw [len_data]; exact h0)
      have he : s.toList.isEmpty = true := by rw [ByteArray.toList_eq, hnil]; rfl
      clear hnil
      subst hp
      clear HPP HAT h0 h1
      go_wp2_with fail
      go_meet
      exact ⟨rfl, rfl⟩
    · obtain ⟨c, hc⟩ : ∃ c, s[0] = c := ⟨_, rfl⟩
      rw [hc] at h1
      have he : s.toList.isEmpty = false := by
        rw [ByteArray.toList_eq]
        cases hl : s.data.toList with
        | nil => have := len_data s; rw [hl, List.length_nil] at this; omega
        | cons a r => rfl
      by_cases h43 : c = 43
      · have hp : pp = true := by rw [HPP.out, h1, if_pos (.inl h43)]; rfl
        subst hp
        have k1 : ((c.toNat : Int) == 43) = true := by rw [h43]; rfl
        clear HPP HAT h1 h43
        go_wp2_with fail
        go_meet
        exact ⟨rfl, rfl⟩
      · have k1 : ((c.toNat : Int) == 43) = false := beq_eq_false_iff_ne.2 fun e => h43 (UInt8.toNat_inj.1 (by show c.toNat = 43; omega))
        by_cases h45 : c = 45
        · have hp : pp = true := by rw [HPP.out, h1, if_pos (.inr h45)]; rfl
          subst hp
          have k2 : ((c.toNat : Int) == 45) = true := by rw [h45]; rfl
          clear HPP HAT h1 h43 h45
          go_wp2_with fail
          go_meet
          exact ⟨rfl, rfl⟩
        · have hp : pp = false := by rw [HPP.out, h1, if_neg (by rintro (e | e) <;> contradiction)]; rfl
          subst hp
          have k2 : ((c.toNat : Int) == 45) = false := beq_eq_false_iff_ne.2 fun e => h45 (UInt8.toNat_inj.1 (by show c.toNat = 45; omega))
          clear HPP HAT h1 h43 h45
          go_wp2_with fail
          go_meet
          exact ⟨rfl, rfl⟩
  case rest =>
    obtain ⟨rfl, rfl⟩ := hcut
    go_upto_if 27 with fail
    go_cut [3] (fun s3 wx => s3 = .int .i64 (i : Int) ∧ w = wx)
    case first =>
      have hpi : (pp = true ∧ i = 1) ∨ (pp = false ∧ i = 0) := by
        rw [HPP.out]
        by_cases h : i = 1
        · left; simp [h]
        · right; exact ⟨by simp [h], by omega⟩
      rcases hpi with ⟨rfl, hi⟩ | ⟨rfl, hi⟩
      · clear HPP HAT HF
        go_wp2_with fail
        go_meet
        exact ⟨by rw [hi]; rfl, rfl⟩
      · clear HPP HAT HF
        go_wp2_with fail
        go_meet
        exact ⟨by rw [hi]; rfl, rfl⟩
    case rest =>
    obtain ⟨rfl, rfl⟩ := hcut
    clear HF HPP
    go_wp2_with fail
    go_loopw [4, 5, 6, 7, 8] (fun v4 v5 v6 v7 v8 wr => ∃ (j n p : Nat) (x : UInt8) (r : Bool), j ≤ U.length ∧ v8 = .int .i64 ((i + j : Nat) : Int) ∧ v4 = .int .i64 (n : Int) ∧ v5 = .int .i64 (p : Int) ∧ v6 = .int .u8 (x.toNat : Int) ∧ v7 = .bool r ∧ (U.take j).foldl stepN (0, 0, 0, true) = (n, p, x, r) ∧ n ≤ j ∧ p ≤ j ∧ w = wr) (fun _ _ _ _ v8 _ => s.size - (intOf v8).toNat)
    case atStart => exact ⟨0, 0, 0, 0, true, Nat.zero_le _, rfl, rfl, rfl, rfl, rfl, rfl, Nat.le_refl _, Nat.le_refl _, rfl⟩
    case round =>
      obtain ⟨j, n, p, x, r, hj, rfl, rfl, rfl, rfl, rfl, hst, hn, hp, rfl⟩ := hrel
      by_cases hlt : i + j < s.size
      · obtain ⟨k, hk⟩ : ∃ k, k = i + j := ⟨_, rfl⟩
        have hat := HAT.out j hlt
        rw [← hk] at hlt
        obtain ⟨c, hc⟩ : ∃ c, s[k] = c := ⟨_, rfl⟩
        have hts : (U.take (j + 1)).foldl stepN (0, 0, 0, true) = stepN (n, p, x, r) c := by
          subst hk
          rw [hc] at hat
          rw [List.take_add_one, hat, List.foldl_append, hst]; rfl
        have hj1 : j + 1 ≤ U.length := by have := HUL.out; omega
        rw [← hk]
        have HK := hide hk
        clear hat hst hk
        have hw1 : IntKind.i64.wrap ((k : Int) + 1) = (k : Int) + 1 := IntWalk.i64_in _ (by omega)
        cases hd : dig c
        · cases h4 : (c == 46)
          · rw [stepN_bad _ _ _ _ _ hd h4] at hts
            have HTS := hide hts
            have k4 : ((c.toNat : Int) == 46) = false := beq_eq_false_iff_ne.2 fun e => (by rw [beq_eq_false_iff_ne] at h4; exact h4 (UInt8.toNat_inj.1 (by show c.toNat = 46; omega)))
            unfold dig at hd
            rw [Bool.and_eq_false_iff] at hd
            clear hts h4
            by_cases h48 : 48 ≤ (c.toNat : Int)
            · have h57 : ¬ (c.toNat : Int) ≤ 57 := by rcases hd with e | e <;> simp at e <;> omega
              clear hd
              go_wp2_with fail
              go_roundw
              case rel => exact ⟨j + 1, n, p, c, false, hj1, by rw [HK.out]; go_num, rfl, rfl, rfl, rfl, HTS.out, by omega, by omega, trivial⟩
              case measure => simp [intOf]; omega
            · clear hd
              go_wp2_with fail
              go_roundw
              case rel => exact ⟨j + 1, n, p, c, false, hj1, by rw [HK.out]; go_num, rfl, rfl, rfl, rfl, HTS.out, by omega, by omega, trivial⟩
              case measure => simp [intOf]; omega
          · rw [stepN_dot _ _ _ _ _ hd h4] at hts
            have HTS := hide hts
            have hc46 : c = 46 := by simpa using h4
            have k4 : ((c.toNat : Int) == 46) = true := by rw [hc46]; rfl
            have h48 : ¬ 48 ≤ (c.toNat : Int) := by rw [hc46]; decide
            clear hts h4 hd hc46
            go_wp2_with fail
            go_roundw
            case rel => exact ⟨j + 1, n, p + 1, c, r, hj1, by rw [HK.out]; go_num, rfl, by go_num, rfl, rfl, HTS.out, by omega, by omega, trivial⟩
            case measure => simp [intOf]; omega
        · rw [stepN_dig _ _ _ _ _ hd] at hts
          have HTS := hide hts
          unfold dig at hd
          rw [Bool.and_eq_true, decide_eq_true_eq, decide_eq_true_eq] at hd
          obtain ⟨h48, h57⟩ := hd
          clear hts
          go_wp2_with fail
          go_roundw
          case rel => exact ⟨j + 1, n + 1, p, c, r, hj1, by rw [HK.out]; go_num, by go_num, rfl, rfl, rfl, HTS.out, by omega, by omega, trivial⟩
          case measure => simp [intOf]; omega
      · have hje : j = U.length := by have := HUL.out; omega
        rw [hje, List.take_length, foldN] at hst
        have hst' := Prod.mk.inj hst
        have hst2 := Prod.mk.inj hst'.2
        have hst3 := Prod.mk.inj hst2.2
        obtain ⟨bd, hbd⟩ : ∃ bd, bd = refuN U := ⟨_, rfl⟩
        have hbd2 : bd = (!r || (n == 0) || decide (1 < p) || (x == 46)) := by
          rw [hbd]; unfold refuN
          rw [← hst'.1, ← hst2.1, ← hst3.1, ← hst3.2]
          simp
        have hE : numE s.data.toList = if bd = true then 4 else if 18 < n then 5 else 0 := by
          rw [numE_bad, ← HU.out, hbd, ← hst'.1, Nat.zero_add]
        have HBD := hide hbd2
        have HE := hide hE
        have hn18 : n ≤ 60 := by have := HUL.out; omega
        clear hst hst' hst2 hst3 hbd hbd2 hE hje HAT
        obtain ⟨k, hk⟩ : ∃ k, k = i + j := ⟨_, rfl⟩
        rw [← hk] at hlt ⊢
        clear hk
        go_upto_region 18 with fail
        go_cut [65] (fun s65 wx => s65 = .bool bd ∧ w = wx)
        case first =>
          clear HE HLi HLv
          cases r
          · have HQ : Hid (bd = true) := by unfold Hid; rw [HBD.out]; rfl
            clear HBD
            go_wp2_with fail
            go_meet
            exact ⟨by rw [HQ.out], rfl⟩
          · by_cases hn0 : n = 0
            · have HQ : Hid (bd = true) := by unfold Hid; rw [HBD.out, hn0]; rfl
              have k0 : ((n : Int) == 0) = true := by rw [hn0]; rfl
              clear HBD hn0
              go_wp2_with fail
              go_meet
              exact ⟨by rw [HQ.out], rfl⟩
            · have k0 : ((n : Int) == 0) = false := beq_eq_false_iff_ne.2 (by omega)
              have k0' : (n == 0) = false := beq_eq_false_iff_ne.2 hn0
              by_cases hp1 : 1 < p
              · have HQ : Hid (bd = true) := by unfold Hid; rw [HBD.out, k0', decide_eq_true hp1]; rfl
                have k1 : (1 : Int) < (p : Int) := by omega
                clear HBD hn0 k0' hp1
                go_wp2_with fail
                go_meet
                exact ⟨by rw [HQ.out], rfl⟩
              · have k1 : ¬ (1 : Int) < (p : Int) := by omega
                by_cases hx : x = 46
                · have HQ : Hid (bd = true) := by unfold Hid; rw [HBD.out, k0', decide_eq_false hp1, hx]; rfl
                  have k2 : ((x.toNat : Int) == 46) = true := by rw [hx]; rfl
                  clear HBD hn0 k0' hp1 hx
                  go_wp2_with fail
                  go_meet
                  exact ⟨by rw [HQ.out], rfl⟩
                · have k2' : (x == 46) = false := beq_eq_false_iff_ne.2 hx
                  have HQ : Hid (bd = false) := by unfold Hid; rw [HBD.out, k0', decide_eq_false hp1, k2']; rfl
                  have k2 : ((x.toNat : Int) == 46) = false := beq_eq_false_iff_ne.2 fun e => hx (UInt8.toNat_inj.1 (by show x.toNat = 46; omega))
                  clear HBD hn0 k0' hp1 hx k2'
                  go_wp2_with fail
                  go_meet
                  exact ⟨by rw [HQ.out], rfl⟩
        case rest =>
          obtain ⟨rfl, rfl⟩ := hcut
          clear HBD
          obtain ⟨E, hEE⟩ : ∃ E, E = numE s.data.toList := ⟨_, rfl⟩
          have HEE := hide hEE
          clear hEE
          go_upto_if 65 with fail
          go_cut [9] (fun s9 wx => s9 = .int .i64 E ∧ w = wx)
          case first =>
            clear HLi HLv
            cases bd
            · by_cases h18 : 18 < n
              · have HQ : Hid (E = 5) := by unfold Hid; rw [HEE.out, HE.out, if_neg (by simp), if_pos h18]
                have k18 : (18 : Int) < (n : Int) := by omega
                clear HE HEE h18
                go_wp2_with fail
                go_meet
                exact ⟨by rw [HQ.out], rfl⟩
              · have HQ : Hid (E = 0) := by unfold Hid; rw [HEE.out, HE.out, if_neg (by simp), if_neg h18]
                have k18 : ¬ (18 : Int) < (n : Int) := by omega
                clear HE HEE h18
                go_wp2_with fail
                go_meet
                exact ⟨by rw [HQ.out], rfl⟩
            · have HQ : Hid (E = 4) := by unfold Hid; rw [HEE.out, HE.out, if_pos rfl]
              clear HE HEE
              go_wp2_with fail
              go_meet
              exact ⟨by rw [HQ.out], rfl⟩
          case rest =>
            obtain ⟨rfl, rfl⟩ := hcut
            clear HE
            go_wp2_with fail
            refine HLi.out.mono ?_
            rintro e W1 h
            by_cases hE0 : E = 0
            · obtain ⟨hok, hpos⟩ := numR_bytes s.data.toList (by rw [← HEE.out]; exact hE0)
              obtain ⟨g, rfl, hg, hrow, hb1⟩ := h.ok (show litR 2 s.data.toList = _ from hok)
              obtain ⟨m, hm⟩ : ∃ m, m = (zonedL (dgL s.data.toList) (sgL s.data.toList)).length := ⟨_, rfl⟩
              obtain ⟨P, hP⟩ : ∃ P, P = mk (picL s.data.toList) := ⟨_, rfl⟩
              obtain ⟨d1, hd1⟩ : ∃ d1, d1 = (((dgL s.data.toList).length : Nat) : Int) := ⟨_, rfl⟩
              obtain ⟨d2, hd2⟩ : ∃ d2, d2 = (((bhL s.data.toList).length : Nat) : Int) := ⟨_, rfl⟩
              obtain ⟨sg, hsg⟩ : ∃ sg, sg = !(sgL s.data.toList).isEmpty := ⟨_, rfl⟩
              simp only [← hm, ← hP, ← hd1, ← hd2, ← hsg]
              rw [← hm] at hpos
              have hpi : (0 : Int) < (m : Int) := by omega
              have HB1 := hide hb1
              have hb1z := hb1.size
              have HBA : Hid (Below w.heap.size w (W1.alloc (.cells (shapeV 4 P d1 d2 sg m ++ [Value.slice (some ⟨g, 0, none⟩) m m]).toArray 55))) := hb1.alloc hb1z _
              subst hE0
              clear hok h hrow hg hm hP hd1 hd2 hsg hb1 hb1z HEE HB1
              unfold fieldV
              unfold shapeV at HBA ⊢
              simp only [List.cons_append, List.nil_append] at HBA ⊢
              go_wp2_with fail
              refine (HLv.out _ HBA.out).mono ?_
              rintro e W2 ⟨rfl, hb2⟩
              have HB2 := hide (HBA.out.trans (hb2.mono HBA.out.size))
              clear hb2
              go_wp2_with fail
              go_ret
              exact ⟨rfl, HB2.out⟩
            · obtain ⟨rfl, hb1⟩ := h.err (show litR 2 s.data.toList = .error E by show numR _ = _; unfold numR; rw [← HEE.out, if_neg hE0])
              have hb1z := hb1.size
              have HBA : Hid (Below w.heap.size w (W1.alloc (.cells (shapeV 0 ⟨#[]⟩ 0 0 false 0 ++ [Value.slice none 0 0]).toArray 55))) := hb1.alloc hb1z _
              have k0 : (E == 0) = false := by simpa using hE0
              clear h hb1 hb1z HEE hE0
              unfold fieldZ fieldV
              unfold shapeV at HBA ⊢
              simp only [List.cons_append, List.nil_append] at HBA ⊢
              go_wp2_with fail
              refine (HLv.out _ HBA.out).mono ?_
              rintro e W2 ⟨rfl, hb2⟩
              have HB2 := hide (HBA.out.trans (hb2.mono HBA.out.size))
              clear hb2
              go_wp2_with fail
              go_ret
              exact ⟨rfl, HB2.out⟩
end Go.Proofs.YtghnffdjdjlomaaDoor
