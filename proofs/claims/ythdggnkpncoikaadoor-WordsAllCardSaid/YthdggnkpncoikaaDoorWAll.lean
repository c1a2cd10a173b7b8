/-
  THE LAW WordsAll, walked (layer 5, words).
-/
import Derived.Test.YthdggnkpncoikaaDoorAllC
import Derived.Test.YthdggnkpncoikaaDoorInW
namespace Go.Proofs.YthdggnkpncoikaaDoor
open Go.RowKit Go.Shelf
set_option maxRecDepth 100000
theorem wd_in : wdS.all (fun s => (Lib.fields allS.data.toList).contains s) = true := by decide +kernel
theorem wd_all262 : (Lib.fields allS.data.toList).length = 262 := by decide +kernel
theorem asc_at : ∀ (l : List (List UInt8)), ascL l = true → ∀ i a b, l[i]? = some a → l[i + 1]? = some b → Op.bytesLess a b = true
  | [], _, i, a, b, h, _ => by simp at h
  | [_], _, i, a, b, _, h => by simp at h
  | x :: y :: r, h, 0, a, b, ha, hb => by
    simp only [ascL, Bool.and_eq_true] at h
    simp at ha hb
    rw [← ha, ← hb]; exact h.1
  | x :: y :: r, h, i + 1, a, b, ha, hb => by
    simp only [ascL, Bool.and_eq_true] at h
    exact asc_at (y :: r) h.2 i a b (by rw [List.getElem?_cons_succ] at ha; exact ha) (by rw [List.getElem?_cons_succ] at hb; exact hb)
theorem wordF (s : List UInt8) (h : s ∈ wdS) : wordB s = true ∧ 1 ≤ s.length ∧ s.length ≤ 30 ∧ classL s ≠ 0 ∧ s ∈ Lib.fields allS.data.toList := by
  have h1 := List.all_eq_true.1 wdS_word s h
  have h2 := List.all_eq_true.1 wdS_short s h
  have h3 := List.all_eq_true.1 wdS_class s h
  have h4 := List.all_eq_true.1 wd_in s h
  simp only [Bool.and_eq_true, decide_eq_true_eq] at h2 h3
  exact ⟨h1, h2.1, h2.2, h3, by simpa using h4⟩
set_option maxHeartbeats 4000000 in
theorem AllLaw (n : Int) (w : World) (hn0 : 0 ≤ n) (hn1 : n ≤ 65535) (hasc : AscS w) (hmx : MaxW w) :
    Calls Tryd.prog 4 #[.int .u16 n] w fun e w' => e = .returned (.bool true) ∧ Below w.heap.size w w' := by
  have HLv : Hid (∀ W, Below w.heap.size w W → Calls Tryd.prog 18 #[] W fun e w' => e = .returned (.bool true) ∧ Below W.heap.size W w') := fun W hb => livesW_c W (hasc.below (.inl (Nat.le_refl _)) hb) (hmx.below hb)
  have HA := hide (All_c w hasc)
  have HFd : Hid (∀ W, Below w.heap.size w W → Calls Tryd.prog 15 #[.string allS] W fun e w' => e = .returned (.slice (some ⟨W.heap.size, 0, none⟩) 262 262) ∧ Below W.heap.size W w') := fun W hb => by
    refine (Fields_c allS W all_size all_asc (hasc.below (.inl (Nat.le_refl _)) hb)).mono ?_
    rintro e w' ⟨rfl, rfl⟩
    exact ⟨by rw [wd_all262], (Below.refl _ W).alloc (Nat.le_refl _) _⟩
  have HOf : Hid (∀ (x : ByteArray) W, x.size ≤ maxLen → Below w.heap.size w W → Calls Tryd.prog 16 #[.string x] W fun e w' => e = .returned (.int .u8 (classL x.data.toList)) ∧ Below W.heap.size W w') := fun x W hx hb => Of_c x W hx (hasc.below (.inl (Nat.le_refl _)) hb)
  have HIn : Hid (∀ x W, Below w.heap.size w W → Calls Tryd.prog 17 #[.string x, .string allS] W fun e w' => e = .returned (.int .i64 (inI x.data.toList (Lib.fields allS.data.toList))) ∧ Below W.heap.size W w') := fun x W hb => in_c x allS W all_size all_asc (by rw [wd_all262]; decide) (hasc.below (.inl (Nat.le_refl _)) hb)
  clear hasc hmx
  go_enter Tryd.func4, Tryd.ntmps4
  go_wp2_with fail
  refine HA.out.mono ?_
  rintro e w1 ⟨g, rfl, hg, hrow, hb1⟩
  have HR1 := hide hrow
  have HB1 := hide hb1
  clear hrow hb1 HA
  go_wp2_with fail
  refine (HFd.out w1 HB1.out).mono ?_
  rintro e w2 ⟨rfl, hb2⟩
  have HR2 := hide (HR1.out.below hb2)
  have HB2 : Hid (Below w.heap.size w w2) := HB1.out.trans (hb2.mono HB1.out.size)
  clear hb2 HR1 HFd
  go_wp2_with fail
  go_loopw [5] (fun iv wr => ∃ i : Nat, iv = .int .i64 (i : Int) ∧ 1 ≤ i ∧ i ≤ 262 ∧ Hid (RowS wr g wdS) ∧ Hid (Below w.heap.size w wr)) (fun iv _ => 262 - (intOf iv).toNat)
  case atStart => exact ⟨1, rfl, by omega, by omega, HR2.out, HB2.out⟩
  case round =>
    obtain ⟨i, rfl, hi1, hi2, hr, hb⟩ := hrel
    obtain ⟨W, rfl⟩ : ∃ W, W = wr := ⟨_, rfl⟩
    by_cases hlt : i < 262
    · obtain ⟨a, ha⟩ : ∃ a, wdS[i - 1]? = some a := ⟨_, List.getElem?_eq_getElem (by rw [wdS_len]; omega)⟩
      obtain ⟨b, hbb⟩ : ∃ b, wdS[i]? = some b := ⟨_, List.getElem?_eq_getElem (by rw [wdS_len]; omega)⟩
      have hless := asc_at wdS wdS_asc (i - 1) a b ha (by rw [show i - 1 + 1 = i by omega]; exact hbb)
      have c1 := hr.out _ _ ha
      have c2 := hr.out _ _ hbb
      obtain ⟨A, hA⟩ : ∃ A, A = mk a := ⟨_, rfl⟩
      obtain ⟨B, hB⟩ : ∃ B, B = mk b := ⟨_, rfl⟩
      rw [← hA] at c1
      rw [← hB] at c2
      have hbl : Op.bytesLess A.toList B.toList = true := by rw [hA, hB, ByteArray.toList_eq, ByteArray.toList_eq]; exact hless
      have p1 : (1 : Int) ≤ (i : Int) := by omega
      have q1 : (i : Int) - 1 < 262 := by omega
      have q0 : (i : Int) < 262 := by omega
      clear hA hB hless ha hbb
      go_wp2_with fail
      go_quiet (fail)
      have HBq : Hid (Below w.heap.size w (W.drewN nq)) := below_drewN' hb.out _
      have HRq : Hid (RowS (W.drewN nq) g wdS) := hr.out
      clear c1 c2 hbl
      go_wp2_with fail
      exact ⟨⟨i + 1, by go_num, by omega, by omega, HRq.out, HBq.out⟩, by simp [intOf]; omega⟩
    · clear hi1 hi2
      have hm : (n % 262).toNat < 262 := by omega
      have hm0 : 0 ≤ n % 262 := Int.emod_nonneg _ (by decide)
      have hm1 : n % 262 < 262 := Int.emod_lt_of_pos _ (by decide)
      obtain ⟨x, hx⟩ : ∃ x, wdS[(n % 262).toNat]? = some x := ⟨_, List.getElem?_eq_getElem (by rw [wdS_len]; exact hm)⟩
      obtain ⟨hw1, hw2, hw3, hw4, hw5⟩ := wordF x (List.mem_of_getElem? hx)
      have cx := hr.out _ _ hx
      obtain ⟨S, hS⟩ : ∃ S, S = mk x := ⟨_, rfl⟩
      have hSd : S.data.toList = x := by rw [hS]; rfl
      have hSz : S.size = x.length := by rw [← hSd]; exact (len_data S).symm
      have hS30 : S.size ≤ 30 := by omega
      have HOf2 : Hid (∀ W, Below w.heap.size w W → Calls Tryd.prog 16 #[.string S] W fun e w' => e = .returned (.int .u8 (classL x)) ∧ Below W.heap.size W w') := fun W hb => by
        have := HOf.out S W (by unfold maxLen; omega) hb
        rw [hSd] at this; exact this
      have HIn2 : Hid (∀ W, Below w.heap.size w W → Calls Tryd.prog 17 #[.string S, .string allS] W fun e w' => e = .returned (.int .i64 (inI x (Lib.fields allS.data.toList))) ∧ Below W.heap.size W w') := fun W hb => by
        have := HIn.out S W hb
        rw [hSd] at this; exact this
      obtain ⟨k, hk⟩ : ∃ k, k = inI x (Lib.fields allS.data.toList) := ⟨_, rfl⟩
      have hk0 : 0 ≤ k := by rw [hk]; exact (inI_mem _ _).2 hw5
      rw [← hk] at HIn2
      obtain ⟨cl, hcl⟩ : ∃ cl, cl = classL x := ⟨_, rfl⟩
      rw [← hcl] at HOf2 hw4
      have hclb : (cl != 0) = true := by rw [bne_iff_ne]; exact hw4
      have HAT : Hid (∀ (j : Nat) (h : j < S.size) (c : UInt8), S[j] = c → x[j]? = some c) := fun j h c hc => by
        have := Lib.data_getElem? S j h
        rw [hc, hSd] at this; exact this
      unfold wordB at hw1
      simp only [Bool.and_eq_true, List.any_eq_true, List.all_eq_true] at hw1
      obtain ⟨⟨lc, hlm, hlc⟩, hall⟩ := hw1
      have HLT : Hid (∃ j, j < S.size ∧ ∃ c, x[j]? = some c ∧ 65 ≤ c.toNat ∧ c.toNat ≤ 90) := by
        obtain ⟨j, hj⟩ := List.mem_iff_getElem?.1 hlm
        simp only [decide_eq_true_eq] at hlc
        exact ⟨j, by rw [hSz]; exact (List.getElem?_eq_some_iff.1 hj).1, lc, hj, hlc.1, hlc.2⟩
      have HALL := hide hall
      rw [← hS] at cx
      clear hS hSd hk hcl hw2 hw3 hw4 hw5 hx hlm hlc hall hSz HOf HIn
      go_wp2_with fail
      clear cx
      go_loopw [7, 8] (fun kv iv wr => ∃ j K : Nat, iv = .int .i64 (j : Int) ∧ kv = .int .i64 (K : Int) ∧ j ≤ S.size ∧ K ≤ j ∧ Hid (∀ t c, t < j → x[t]? = some c → 65 ≤ c.toNat → c.toNat ≤ 90 → 0 < K) ∧ Hid (Below w.heap.size w wr)) (fun _ iv _ => S.size - (intOf iv).toNat)
      case atStart => exact ⟨0, 0, rfl, rfl, by omega, by omega, fun t c ht => by omega, hb.out⟩
      case round =>
        obtain ⟨j, K, rfl, rfl, hj, hK, hlet, hb⟩ := hrel
        obtain ⟨V, rfl⟩ : ∃ V, V = wr := ⟨_, rfl⟩
        by_cases hjl : j < S.size
        · obtain ⟨c, hc⟩ : ∃ c, S[j] = c := ⟨_, rfl⟩
          have hcx := HAT.out j hjl c hc
          have hca := HALL.out c (List.mem_of_getElem? hcx)
          simp only [Bool.or_eq_true, Bool.and_eq_true, decide_eq_true_eq] at hca
          have HCX := hide hcx
          clear hcx
          by_cases hlet2 : 65 ≤ c.toNat ∧ c.toNat ≤ 90
          · have hb1 : decide ((65 : Int) ≤ (c.toNat : Int)) = true := decide_eq_true (by omega)
            have hb2 : decide ((c.toNat : Int) ≤ 90) = true := decide_eq_true (by omega)
            have HN : Hid (∀ t c, t < j + 1 → x[t]? = some c → 65 ≤ c.toNat → c.toNat ≤ 90 → 0 < K + 1) := fun t c _ _ _ _ => by omega
            clear hca hlet2
            go_wp2_with fail
            exact ⟨⟨j + 1, K + 1, rfl, rfl, by omega, by omega, HN.out, hb.out⟩, by simp [intOf]; omega⟩
          · have HN : Hid (∀ t c, t < j + 1 → x[t]? = some c → 65 ≤ c.toNat → c.toNat ≤ 90 → 0 < K) := fun t c' ht hc' h1 h2 => by
              by_cases e : t = j
              · rw [e, HCX.out] at hc'
                cases hc'
                exact absurd ⟨h1, h2⟩ hlet2
              · exact hlet.out t c' (by omega) hc' h1 h2
            have h57 : c.toNat ≤ 57 := by omega
            have hb1 : decide ((65 : Int) ≤ (c.toNat : Int)) = false := decide_eq_false (by omega)
            by_cases h45 : c.toNat = 45
            · have hb45 : ((c.toNat : Int) != 45) = false := by rw [h45]; rfl
              have H45 := hide h45
              clear hca hlet2 h45
              go_wp2_with fail
              exact ⟨⟨j + 1, K, rfl, rfl, by omega, by omega, HN.out, hb.out⟩, by simp [intOf]; omega⟩
            · have hb45 : ((c.toNat : Int) != 45) = true := by rw [bne_iff_ne]; omega
              have h48 : 48 ≤ c.toNat := by omega
              have hb48 : decide ((c.toNat : Int) < 48) = false := decide_eq_false (by omega)
              have hb57 : decide ((57 : Int) < (c.toNat : Int)) = false := decide_eq_false (by omega)
              clear hca hlet2
              go_wp2_with fail
              exact ⟨⟨j + 1, K, rfl, rfl, by omega, by omega, HN.out, hb.out⟩, by simp [intOf]; omega⟩
        · have hK0 : 0 < K := by
            obtain ⟨t, ht, c, hc, h1, h2⟩ := HLT.out
            exact hlet.out t c (by omega) hc h1 h2
          have hdK : decide ((0 : Int) < (K : Int)) = true := decide_eq_true (by omega)
          go_wp2_with fail
          refine (HOf2.out V hb.out).mono ?_
          rintro e w5 ⟨rfl, hb5⟩
          have HB5 : Hid (Below w.heap.size w w5) := hb.out.trans (hb5.mono hb.out.size)
          clear hb5
          go_wp2_with fail
          refine (HIn2.out w5 HB5.out).mono ?_
          rintro e w6 ⟨rfl, hb6⟩
          have HB6 : Hid (Below w.heap.size w w6) := HB5.out.trans (hb6.mono HB5.out.size)
          clear hb6
          go_wp2_with fail
          refine (HLv.out w6 HB6.out).mono ?_
          rintro e w7 ⟨rfl, hb7⟩
          go_wp2_with fail
          go_ret
          exact ⟨rfl, HB6.out.trans (hb7.mono HB6.out.size)⟩
end Go.Proofs.YthdggnkpncoikaaDoor
