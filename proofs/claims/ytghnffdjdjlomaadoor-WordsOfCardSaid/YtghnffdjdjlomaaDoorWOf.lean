/-
  THE LAW WordsOf, walked (layer 5, words).
-/
import Derived.Test.YtghnffdjdjlomaaDoorInW
namespace Go.Proofs.YtghnffdjdjlomaaDoor
open Go.RowKit Go.Shelf

theorem OfLaw_far (s : ByteArray) (n : Int) (w : World) (hs : s.size ≤ maxLen) (h : 60 < s.size) (hasc : AscS w) (hmx : MaxW w) :
    Calls Tryd.prog 4 #[.string s, .int .u16 n] w fun e w' => e = .returned (.bool true) ∧ Below w.heap.size w w' := by
  unfold maxLen at hs
  have HL := hide (livesW_c w hasc hmx)
  clear hasc hmx
  go_enter Tryd.func4, Tryd.ntmps4
  go_wp2_with fail
  refine HL.out.mono ?_
  rintro e w1 ⟨rfl, hb⟩
  go_wp2_with fail
  go_ret
  exact ⟨rfl, hb⟩
/-- the bytes of the constants, by their places -/
def bytesS : List UInt8 := [48, 48, 48, 32, 32, 255, 255, 0, 0, 34, 34]
theorem byteL_in (x : List UInt8) : (byteB x = decide (0 ≤ inI x figsL)) ∧ (byteB x = false → byteN x = 0) ∧ (byteB x = true → ∃ k : Nat, inI x figsL = k ∧ k < 11 ∧ byteN x = (((bytesS.getD k 0).toNat : Nat) : Int)) := by
  rw [← figT_map]
  by_cases h : x ∈ figT.map (·.1)
  · have hall : ∀ y ∈ figT.map (·.1), byteB y = true ∧ (0 ≤ inI y (figT.map (·.1))) ∧ (inI y (figT.map (·.1))).toNat < 11 ∧ byteN y = (((bytesS.getD (inI y (figT.map (·.1))).toNat 0).toNat : Nat) : Int) := by decide +kernel
    obtain ⟨h1, h2, h3, h4⟩ := hall x h
    refine ⟨by rw [h1, decide_eq_true h2], fun e => (by rw [h1] at e; cases e), fun _ => ⟨(inI x (figT.map (·.1))).toNat, by omega, h3, h4⟩⟩
  · have h0 : ¬ 0 ≤ inI x (figT.map (·.1)) := fun e => h ((inI_mem _ _).1 e)
    have hn : byteL x = none := by
      unfold byteL
      rw [List.find?_eq_none.2 (fun p hp => by
        have : p.1 ∈ figT.map (·.1) := List.mem_map_of_mem hp
        simp only [beq_iff_eq]
        exact fun e => h (e ▸ this))]
      rfl
    have hb : byteB x = false := by unfold byteB; rw [hn]; rfl
    exact ⟨by rw [hb, decide_eq_false h0], fun _ => (by unfold byteN; rw [hn]; rfl), fun e => (by rw [hb] at e; cases e)⟩

set_option maxRecDepth 100000 in
set_option maxHeartbeats 4000000 in
theorem OfLaw_near (s : ByteArray) (n : Int) (w : World) (hs : s.size ≤ 60) (hn0 : 0 ≤ n) (hn1 : n ≤ 65535) (hasc : AscS w) (hmx : MaxW w) :
    Calls Tryd.prog 4 #[.string s, .int .u16 n] w fun e w' => e = .returned (.bool true) ∧ Below w.heap.size w w' := by
  have HLv : Hid (∀ W, Below w.heap.size w W → Calls Tryd.prog 17 #[] W fun e w' => e = .returned (.bool true) ∧ Below W.heap.size W w') := fun W hb => livesW_c W (hasc.below (.inl (Nat.le_refl _)) hb) (hmx.below hb)
  have h60 : ¬ (60 : Int) < (s.size : Int) := by omega
  have HFd := hide (Fields_c allS w all_size all_asc hasc)
  have HIk : Hid (∀ x W, Below w.heap.size w W → Calls Tryd.prog 19 #[.string x, .string keysS] W fun e w' => e = .returned (.int .i64 (inI x.data.toList keysL)) ∧ Below W.heap.size W w') := fun x W hb => by
    have := in_c x keysS W keysS_size keysS_asc (by rw [keysS_eq]; exact keys_len) (hasc.below (.inl (Nat.le_refl _)) hb)
    rw [keysS_eq] at this; exact this
  have HIv : Hid (∀ x W, Below w.heap.size w W → Calls Tryd.prog 19 #[.string x, .string verbsS] W fun e w' => e = .returned (.int .i64 (inI x.data.toList verbsL)) ∧ Below W.heap.size W w') := fun x W hb => by
    have := in_c x verbsS W verbsS_size verbsS_asc (by rw [verbsS_eq]; exact verbs_len) (hasc.below (.inl (Nat.le_refl _)) hb)
    rw [verbsS_eq] at this; exact this
  have HIc : Hid (∀ x W, Below w.heap.size w W → Calls Tryd.prog 19 #[.string x, .string consS] W fun e w' => e = .returned (.int .i64 (inI x.data.toList figsL)) ∧ Below W.heap.size W w') := fun x W hb => by
    have := in_c x consS W consS_size consS_asc (by rw [consS_eq]; exact figs_len) (hasc.below (.inl (Nat.le_refl _)) hb)
    rw [consS_eq] at this; exact this
  have HOf : Hid (∀ (x : ByteArray) W, x.size ≤ maxLen → Below w.heap.size w W → Calls Tryd.prog 21 #[.string x] W fun e w' => e = .returned (.int .u8 (classL x.data.toList)) ∧ Below W.heap.size W w') := fun x W hx hb => Of_c x W hx (hasc.below (.inl (Nat.le_refl _)) hb)
  have HBy := hide (fun x W => Byte_c x W)
  obtain ⟨L, hL⟩ : ∃ L, L = Lib.fields allS.data.toList := ⟨_, rfl⟩
  have hLl := all_len
  rw [← hL] at HFd hLl
  have HLS : Hid (∀ y ∈ L, y.length ≤ 10000) := fun y hy => by
    rw [hL] at hy
    have h1 := fieldsGo_len _ _ _ hy
    have h2 := all_size
    rw [len_data] at h1
    simp at h1; omega
  obtain ⟨hLp, hL1⟩ := hLl
  clear hasc hmx hL
  go_enter Tryd.func4, Tryd.ntmps4
  go_wp2_with fail
  refine HFd.out.mono ?_
  rintro e w' ⟨rfl, hw'⟩
  have hblk : w'.heap[w.heap.size]? = some (.cells (L.map fun l => Value.string (mk l)).toArray 9 (0, 0)) := by rw [hw']; exact heap_alloc_new w _
  have HBB : Hid (Below w.heap.size w w') := by unfold Hid; rw [hw']; exact (Below.refl _ w).alloc (Nat.le_refl _) _
  have HBK := hide hblk
  clear hw' hblk HFd
  obtain ⟨W, rfl⟩ : ∃ W, W = w' := ⟨_, rfl⟩
  obtain ⟨q, hq⟩ : ∃ q : Nat, n % (L.length : Int) = q := ⟨(n % (L.length : Int)).toNat, by have := Int.emod_nonneg n (show (L.length : Int) ≠ 0 by omega); omega⟩
  have hql : q < L.length := by have := Int.emod_lt_of_pos n (show (0 : Int) < (L.length : Int) by omega); omega
  obtain ⟨y, hy⟩ : ∃ y, y = mk L[q] := ⟨_, rfl⟩
  have hcy : W.cell? ⟨w.heap.size, q, none⟩ = some (.string y) := by
    rw [cell_of_row W w.heap.size q _ _ _ HBK.out, hy, List.getElem?_toArray, List.getElem?_map, List.getElem?_eq_getElem hql]; rfl
  have hys : y.size ≤ 10000 := by rw [hy, mk_sz]; exact HLS.out _ (List.getElem_mem hql)
  clear hy
  go_wp2_with fail
  obtain ⟨V, hV⟩ : ∃ V, V = W.alloc (.cells #[.string s, .string y] 9) := ⟨_, rfl⟩
  have hVb : V.heap[W.heap.size]? = some (.cells #[.string s, .string y] 9 (0, 0)) := by rw [hV]; exact heap_alloc_new W _
  have HVB : Hid (Below w.heap.size w V) := by unfold Hid; rw [hV]; exact HBB.out.alloc HBB.out.size _
  have HVC := hide hVb
  rw [← hV]
  clear hVb hV hcy HBK
  obtain ⟨tb, htb⟩ : ∃ tb, tb = W.heap.size := ⟨_, rfl⟩
  rw [← htb] at HVC ⊢
  clear htb
  try rw [hq]
  clear hq
  go_loopw [7] (fun v wr => ∃ k : Nat, k ≤ 2 ∧ v = .int .i64 (k : Int) ∧ Below V.heap.size V wr) (fun v _ => 2 - (intOf v).toNat)
  case atStart => exact ⟨0, by omega, rfl, Below.refl _ _⟩
  case round =>
    obtain ⟨k, hk, rfl, hb⟩ := hrel
    obtain ⟨X0, rfl⟩ : ∃ X, X = wr := ⟨_, rfl⟩
    have HX0 := hide hb
    clear hb
    by_cases hlt : k < 2
    · obtain ⟨x, hx, hxs⟩ : ∃ x : ByteArray, (#[Value.string s, Value.string y] : Array Value)[k]? = some (.string x) ∧ x.size ≤ 10000 := by
        match k, hlt with
        | 0, _ => exact ⟨s, rfl, by omega⟩
        | 1, _ => exact ⟨y, rfl, hys⟩
      have HC : Hid (∀ X, Below V.heap.size V X → X.cell? ⟨tb, k, none⟩ = some (.string x)) := fun X hb => by
        have h1 := hb.block tb (Array.getElem?_eq_some_iff.1 HVC.out).1
        rw [cell_of_row X tb k _ _ _ (h1.trans HVC.out)]; exact hx
      clear hx
      obtain ⟨K1, hK1⟩ : ∃ K1, K1 = inI x.data.toList keysL := ⟨_, rfl⟩
      obtain ⟨K2, hK2⟩ : ∃ K2, K2 = inI x.data.toList verbsL := ⟨_, rfl⟩
      obtain ⟨K3, hK3⟩ : ∃ K3, K3 = inI x.data.toList figsL := ⟨_, rfl⟩
      have hi1 := hide (HIk.out x)
      have hi2 := hide (HIv.out x)
      have hi3 := hide (HIc.out x)
      have hof := hide (fun W => HOf.out x W (by unfold maxLen; omega))
      have hby := hide (HBy.out x)
      have hcl : classL x.data.toList = if 0 ≤ K3 then 3 else if 0 ≤ K2 then 2 else if 0 ≤ K1 then 1 else 0 := by
        unfold classL
        rw [hK1, hK2, hK3]
        simp only [inI_mem]
      have hbl := byteL_in x.data.toList
      rw [← hK3] at hbl
      have hg3 : -1 ≤ K3 := by rw [hK3]; exact inI_ge _ _
      have hg4 : K3 ≤ 1000 := by
        rcases Int.lt_or_le K3 0 with h | h
        · omega
        · cases hb : byteB x.data.toList
          · rw [hbl.1] at hb; simp at hb; omega
          · obtain ⟨k3, h1, h2, _⟩ := hbl.2.2 hb; omega
      rw [← hK1] at hi1
      rw [← hK2] at hi2
      rw [← hK3] at hi3
      rw [hcl] at hof
      obtain ⟨BN, hBN⟩ : ∃ BN, BN = byteN x.data.toList := ⟨_, rfl⟩
      obtain ⟨BB, hBB⟩ : ∃ BB, BB = byteB x.data.toList := ⟨_, rfl⟩
      rw [← hBN, ← hBB] at hby hbl
      have HBL := hide hbl
      clear hK1 hK2 hK3 hcl hbl hBN hBB
      have c0 := HC.out X0 HX0.out
      go_upto_region 9 with fail
      go_wp2_with fail
      refine (hi1.out _ (HVB.out.trans (HX0.out.mono HVB.out.size))).mono ?_
      rintro e X1 ⟨rfl, hb⟩
      have HX1 := hide (HX0.out.trans (hb.mono HX0.out.size))
      clear hb c0
      have c1 := HC.out X1 HX1.out
      obtain ⟨d1, hd1⟩ : ∃ c : Int, c = if 0 ≤ K1 then 1 else 0 := ⟨_, rfl⟩
      have Hd1 := hide hd1
      clear hd1
      go_upto_if 36 with fail
      go_cut [8] (fun s8 wx => s8 = .int .u8 d1 ∧ X1 = wx)
      case first =>
        by_cases hk : 0 ≤ K1
        · have HQ : Hid (d1 = 1) := by unfold Hid; rw [Hd1.out, if_pos hk]
          clear Hd1
          go_wp2_with fail
          go_meet
          exact ⟨by rw [HQ.out], rfl⟩
        · have HQ : Hid (d1 = 0) := by unfold Hid; rw [Hd1.out, if_neg hk]
          clear Hd1
          go_wp2_with fail
          go_meet
          exact ⟨by rw [HQ.out], rfl⟩
      case rest =>
      obtain ⟨rfl, rfl⟩ := hcut
      go_wp2_with fail
      refine (hi2.out _ (HVB.out.trans (HX1.out.mono HVB.out.size))).mono ?_
      rintro e X2 ⟨rfl, hb⟩
      have HX2 := hide (HX1.out.trans (hb.mono HX1.out.size))
      clear hb c1
      have c2 := HC.out X2 HX2.out
      obtain ⟨d2, hd2⟩ : ∃ c : Int, c = if 0 ≤ K2 then 2 else d1 := ⟨_, rfl⟩
      have Hd2 := hide hd2
      clear hd2
      go_upto_if 42 with fail
      go_cut [8] (fun s8 wx => s8 = .int .u8 d2 ∧ X2 = wx)
      case first =>
        by_cases hk : 0 ≤ K2
        · have HQ : Hid (d2 = 2) := by unfold Hid; rw [Hd2.out, if_pos hk]
          clear Hd2
          go_wp2_with fail
          go_meet
          exact ⟨by rw [HQ.out], rfl⟩
        · have HQ : Hid (d2 = d1) := by unfold Hid; rw [Hd2.out, if_neg hk]
          clear Hd2
          go_wp2_with fail
          go_meet
          exact ⟨by rw [HQ.out], rfl⟩
      case rest =>
      obtain ⟨rfl, rfl⟩ := hcut
      go_wp2_with fail
      refine (hi3.out _ (HVB.out.trans (HX2.out.mono HVB.out.size))).mono ?_
      rintro e X3 ⟨rfl, hb⟩
      have HX3 := hide (HX2.out.trans (hb.mono HX2.out.size))
      clear hb c2
      have c3 := HC.out X3 HX3.out
      obtain ⟨d3, hd3⟩ : ∃ c : Int, c = if 0 ≤ K3 then 3 else d2 := ⟨_, rfl⟩
      have Hd3 := hide hd3
      clear hd3
      go_upto_if 49 with fail
      go_cut [8] (fun s8 wx => s8 = .int .u8 d3 ∧ X3 = wx)
      case first =>
        by_cases hk : 0 ≤ K3
        · have HQ : Hid (d3 = 3) := by unfold Hid; rw [Hd3.out, if_pos hk]
          clear Hd3
          go_wp2_with fail
          go_meet
          exact ⟨by rw [HQ.out], rfl⟩
        · have HQ : Hid (d3 = d2) := by unfold Hid; rw [Hd3.out, if_neg hk]
          clear Hd3
          go_wp2_with fail
          go_meet
          exact ⟨by rw [HQ.out], rfl⟩
      case rest =>
      obtain ⟨rfl, rfl⟩ := hcut
      go_wp2_with fail
      refine (hby.out _).mono ?_
      rintro e w' ⟨rfl, rfl⟩
      go_upto_region 17 with fail
      have hof2 : Hid (∀ W, Below w.heap.size w W → Calls Tryd.prog 21 #[.string x] W fun e w' => e = .returned (.int .u8 d3) ∧ Below W.heap.size W w') := by
        unfold Hid
        rw [Hd3.out, Hd2.out, Hd1.out]
        exact hof.out
      have hbe : BB = false → BN = 0 := HBL.out.2.1
      have HBE := hide hbe
      clear hbe
      go_cut [87] (fun s87 wx => s87 = .bool false ∧ Below V.heap.size V wx)
      case first =>
        clear Hd1 Hd2 Hd3 hof hi1 hi2 hi3 hby HLv HIk HIv HIc HOf HBy
        go_wp2_with fail
        refine (hof2.out _ (HVB.out.trans (HX3.out.mono HVB.out.size))).mono ?_
        rintro e X4 ⟨rfl, hb⟩
        have HX4 := hide (HX3.out.trans (hb.mono HX3.out.size))
        have HBA := hide HBL.out.1
        have HBC := hide HBL.out.2.2
        clear hb c3 hof2 HBL HC HVC
        cases BB
        · have hq := HBA.out
          have k3 : ¬ 0 ≤ K3 := fun e => by rw [decide_eq_true e] at hq; cases hq
          obtain rfl : BN = 0 := HBE.out rfl
          clear HBE HBC HBA hq
          go_wp2_with fail
          go_meet
          exact ⟨by rw [decide_eq_false (by omega : ¬ 0 ≤ K3)], HX4.out⟩
        · obtain ⟨k3, h1, h2, h3⟩ := HBC.out rfl
          subst h1
          clear HBE HBC HBA hg3 hg4
          have hk3 : k3 = 0 ∨ k3 = 1 ∨ k3 = 2 ∨ k3 = 3 ∨ k3 = 4 ∨ k3 = 5 ∨ k3 = 6 ∨ k3 = 7 ∨ k3 = 8 ∨ k3 = 9 ∨ k3 = 10 := by omega
          clear h2
          rcases hk3 with rfl | rfl | rfl | rfl | rfl | rfl | rfl | rfl | rfl | rfl | rfl
          · have hbn : BN = 48 := by rw [h3]; rfl
            clear h3
            subst hbn
            go_wp2_with fail
            go_meet
            first | exact ⟨rfl, HX4.out⟩ | exact ⟨trivial, HX4.out⟩ | exact HX4.out
          · have hbn : BN = 48 := by rw [h3]; rfl
            clear h3
            subst hbn
            go_wp2_with fail
            go_meet
            first | exact ⟨rfl, HX4.out⟩ | exact ⟨trivial, HX4.out⟩ | exact HX4.out
          · have hbn : BN = 48 := by rw [h3]; rfl
            clear h3
            subst hbn
            go_wp2_with fail
            go_meet
            first | exact ⟨rfl, HX4.out⟩ | exact ⟨trivial, HX4.out⟩ | exact HX4.out
          · have hbn : BN = 32 := by rw [h3]; rfl
            clear h3
            subst hbn
            go_wp2_with fail
            go_meet
            first | exact ⟨rfl, HX4.out⟩ | exact ⟨trivial, HX4.out⟩ | exact HX4.out
          · have hbn : BN = 32 := by rw [h3]; rfl
            clear h3
            subst hbn
            go_wp2_with fail
            go_meet
            first | exact ⟨rfl, HX4.out⟩ | exact ⟨trivial, HX4.out⟩ | exact HX4.out
          · have hbn : BN = 255 := by rw [h3]; rfl
            clear h3
            subst hbn
            go_wp2_with fail
            go_meet
            first | exact ⟨rfl, HX4.out⟩ | exact ⟨trivial, HX4.out⟩ | exact HX4.out
          · have hbn : BN = 255 := by rw [h3]; rfl
            clear h3
            subst hbn
            go_wp2_with fail
            go_meet
            first | exact ⟨rfl, HX4.out⟩ | exact ⟨trivial, HX4.out⟩ | exact HX4.out
          · have hbn : BN = 0 := by rw [h3]; rfl
            clear h3
            subst hbn
            go_wp2_with fail
            go_meet
            first | exact ⟨rfl, HX4.out⟩ | exact ⟨trivial, HX4.out⟩ | exact HX4.out
          · have hbn : BN = 0 := by rw [h3]; rfl
            clear h3
            subst hbn
            go_wp2_with fail
            go_meet
            first | exact ⟨rfl, HX4.out⟩ | exact ⟨trivial, HX4.out⟩ | exact HX4.out
          · have hbn : BN = 34 := by rw [h3]; rfl
            clear h3
            subst hbn
            go_wp2_with fail
            go_meet
            first | exact ⟨rfl, HX4.out⟩ | exact ⟨trivial, HX4.out⟩ | exact HX4.out
          · have hbn : BN = 34 := by rw [h3]; rfl
            clear h3
            subst hbn
            go_wp2_with fail
            go_meet
            first | exact ⟨rfl, HX4.out⟩ | exact ⟨trivial, HX4.out⟩ | exact HX4.out
      case rest =>
      obtain ⟨rfl, hb⟩ := hcut
      have HXR := hide hb
      clear hb c3 Hd1 Hd2 Hd3 hof hof2 HBL HBE hi1 hi2 hi3 hby HLv HIk HIv HIc HOf HBy HC
      go_wp2_with fail
      go_roundw
      case rel => first | exact ⟨k + 1, hlt, by go_num, HXR.out⟩ | ((repeat apply Exists.intro); exact ⟨⟨k + 1, hlt, by go_num, HXR.out⟩, rfl⟩)
      case measure => simp [intOf]; omega
    · obtain rfl : k = 2 := by omega
      go_wp2_with fail
      refine (HLv.out _ (HVB.out.trans (HX0.out.mono HVB.out.size))).mono ?_
      rintro e X5 ⟨rfl, hb⟩
      have HX5 := hide ((HVB.out.trans (HX0.out.mono HVB.out.size)).trans (hb.mono (HVB.out.trans (HX0.out.mono HVB.out.size)).size))
      clear hb
      go_wp2_with fail
      go_ret
      exact ⟨rfl, HX5.out⟩
end Go.Proofs.YtghnffdjdjlomaaDoor
