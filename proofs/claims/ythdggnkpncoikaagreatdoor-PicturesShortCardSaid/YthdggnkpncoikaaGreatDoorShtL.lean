/-
  THE LAW PicturesShort (layer 6, pictures).
-/
import Derived.Test.YthdggnkpncoikaaGreatDoorLvP
import Derived.Test.YthdggnkpncoikaaGreatDoorShtE
namespace Go.Proofs.YthdggnkpncoikaaGreatDoor
open Go.RowKit Go.Shelf

theorem byte_at (G : ByteArray) (j : Nat) (h : j < G.size) (x : UInt8) (hx : G[j] = x) : G.data.toList[j]? = some x := by
  have := Lib.data_getElem? G j h
  rw [hx] at this
  exact this
theorem u8_eq (x y : UInt8) (h : ((x.toNat : Int) == (y.toNat : Int)) = true) : x = y := by
  have := eq_of_beq h
  apply UInt8.toNat_inj.1
  omega
/-- no opening parenthesis ahead of a zero among the first -/
def NoZ (l : List UInt8) (n : Nat) : Prop := ∀ j, j + 1 < n → ¬ (l[j]? = some 40 ∧ l[j + 1]? = some 48)
theorem noz_step (l : List UInt8) (m : Nat) (h : NoZ l (m + 1)) (hx : ¬ (l[m]? = some 40 ∧ l[m + 1]? = some 48)) : NoZ l (m + 2) := fun j hj => by
  by_cases e : j = m
  · rw [e]; exact hx
  · exact h j (by omega)
theorem noz_all (l : List UInt8) (h : NoZ l l.length) : ¬ Pic.zeroB l := by
  rintro ⟨i, h1, h2⟩
  have := (List.getElem?_eq_some_iff.1 h2).1
  exact h i this ⟨h1, h2⟩
theorem hid_ft {P : Prop} : Hid (true = false → P) := by unfold Hid; intro h; cases h
theorem hid_ff {Q : Prop} (h : Q) : Hid (false = false → Q) := by unfold Hid; exact fun _ => h
def LawPost (w : World) (e : Ending) (w' : World) : Prop := e = .returned (.bool true) ∧ Below w.heap.size w w'
set_option maxRecDepth 100000 in
theorem ShtLaw_far (s : ByteArray) (w : World) (hs : s.size ≤ maxLen) (he : EnvP w) (h : 300 < s.size) :
    Calls Tryz.prog 5 #[.string s] w (LawPost w) := by
  unfold maxLen at hs
  have HL := hide (livesP_c w he)
  clear he
  go_enter Tryz.func5, Tryz.ntmps5
  go_wp2_with fail
  refine HL.out.mono ?_
  rintro e w' ⟨rfl, hb⟩
  go_wp2_with fail
  go_ret
  exact ⟨rfl, hb⟩
set_option maxRecDepth 100000 in
theorem ShtLaw_bad (s : ByteArray) (w : World) (hs : s.size ≤ 300) (he : EnvP w) (hE : (Pic.expL s.data.toList).2 ≠ 0) :
    Calls Tryz.prog 5 #[.string s] w (LawPost w) := by
  have HE : Hid (∀ W, Below w.heap.size w W → EnvP W) := fun W hb => he.below hb
  have HLv : Hid (∀ W, Below w.heap.size w W → Calls Tryz.prog 7 #[] W fun e w' => e = .returned (.bool true) ∧ Below W.heap.size W w') := fun W hb => livesP_c W (he.below hb)
  have h0 := (expL_err s.data.toList hE).1
  obtain ⟨E, hE2⟩ : ∃ E, E = (Pic.expL s.data.toList).2 := ⟨_, rfl⟩
  rw [← hE2] at hE
  have HX : Hid (∀ W, Below w.heap.size w W → Calls Tryz.prog 9 #[.string s] W fun e w' => e = .returned (.tuple #[.string ⟨#[]⟩, .int .i64 E]) ∧ Below W.heap.size W w') := fun W hb => by
    have := Expand_c s W (by omega) (he.below hb)
    rw [← hE2, h0] at this
    exact this
  have HS : Hid (∀ W, Below w.heap.size w W → Calls Tryz.prog 12 #[.string s] W fun e w' => e = .returned (.tuple #[.string ⟨#[]⟩, .int .i64 E]) ∧ Below W.heap.size W w') := fun W hb => by
    have := Short_c s W (by omega) (he.below hb)
    rw [← hE2, h0] at this
    exact this
  have hEb : (E != 0) = true := by rw [bne_iff_ne]; exact hE
  clear he h0 hE2 hE
  go_enter Tryz.func5, Tryz.ntmps5
  go_wp2_with fail
  refine (HX.out w (Below.refl _ _)).mono ?_
  rintro e w1 ⟨rfl, hb1⟩
  have HB1 := hide hb1
  clear hb1
  go_wp2_with fail
  refine (HS.out w1 HB1.out).mono ?_
  rintro e w2 ⟨rfl, hb2⟩
  have HB2 : Hid (Below w.heap.size w w2) := HB1.out.trans (hb2.mono HB1.out.size)
  clear hb2
  go_wp2_with fail
  refine (HLv.out w2 HB2.out).mono ?_
  rintro e w3 ⟨rfl, hb3⟩
  go_wp2_with fail
  go_ret
  exact ⟨rfl, HB2.out.trans (hb3.mono HB2.out.size)⟩
set_option maxRecDepth 100000 in
set_option maxHeartbeats 4000000 in
theorem ShtLaw_ok (s : ByteArray) (p : List UInt8) (w : World) (hs : s.size ≤ 300) (he : EnvP w) (hE : Pic.expL s.data.toList = (p, 0)) :
    Calls Tryz.prog 5 #[.string s] w (LawPost w) := by
  have HLv : Hid (∀ W, Below w.heap.size w W → Calls Tryz.prog 7 #[] W fun e w' => e = .returned (.bool true) ∧ Below W.heap.size W w') := fun W hb => livesP_c W (he.below hb)
  have hsl := len_data s
  obtain ⟨hne, _, hpn, hp256, _⟩ := expL_ok _ _ hE
  have hs1 : 1 ≤ s.size := by
    rw [← hsl]
    exact List.length_pos_iff.2 hne
  obtain ⟨P, hP⟩ : ∃ P, P = mk p := ⟨_, rfl⟩
  obtain ⟨G, hG⟩ : ∃ G, G = mk (Pic.shoL p) := ⟨_, rfl⟩
  have hPd : P.data.toList = p := by rw [hP]; rfl
  have hGd : G.data.toList = Pic.shoL p := by rw [hG]; rfl
  have hPs : P.size ≤ 256 := by rw [hP, mk_sz]; exact hp256
  have hGs : G.size ≤ 1536 := by rw [hG, mk_sz]; have := sho_6 _ p (Nat.le_refl _) hp256; omega
  have hid := exp_id _ _ hE
  have hsh := exp_sho _ _ hE
  have HX : Hid (∀ W, Below w.heap.size w W → Calls Tryz.prog 9 #[.string s] W fun e w' => e = .returned (.tuple #[.string P, .int .i64 0]) ∧ Below W.heap.size W w') := fun W hb => by
    have := Expand_c s W (by omega) (he.below hb)
    rw [hE, ← hP] at this
    exact this
  have HS : Hid (∀ W, Below w.heap.size w W → Calls Tryz.prog 12 #[.string s] W fun e w' => e = .returned (.tuple #[.string G, .int .i64 0]) ∧ Below W.heap.size W w') := fun W hb => by
    have := Short_c s W (by omega) (he.below hb)
    rw [hE, ← hG] at this
    exact this
  have HXG : Hid (∀ W, Below w.heap.size w W → Calls Tryz.prog 9 #[.string G] W fun e w' => e = .returned (.tuple #[.string P, .int .i64 0]) ∧ Below W.heap.size W w') := fun W hb => by
    have := Expand_c G W (by omega) (he.below hb)
    rw [hGd, hsh, ← hP] at this
    exact this
  have HSP : Hid (∀ W, Below w.heap.size w W → Calls Tryz.prog 12 #[.string P] W fun e w' => e = .returned (.tuple #[.string G, .int .i64 0]) ∧ Below W.heap.size W w') := fun W hb => by
    have := Short_c P W (by omega) (he.below hb)
    rw [hPd, hid, ← hG] at this
    exact this
  have H5 : Hid (Pic.noFive G.data.toList) := by unfold Hid; rw [hGd]; exact sho_five _ _ hE
  have HLN : Hid (¬ Pic.zeroB s.data.toList → G.size ≤ s.size) := fun hz => by
    rw [hG, mk_sz, ← hsl]
    exact sho_len _ _ hE hz
  have HSL := hide hsl
  clear he hE hne hpn hp256 hP hG hPd hGd hid hsh hsl
  go_enter Tryz.func5, Tryz.ntmps5
  go_wp2_with fail
  refine (HX.out w (Below.refl _ _)).mono ?_
  rintro e w1 ⟨rfl, hb1⟩
  have HB1 := hide hb1
  clear hb1
  go_wp2_with fail
  refine (HS.out w1 HB1.out).mono ?_
  rintro e w2 ⟨rfl, hb2⟩
  have HB2 : Hid (Below w.heap.size w w2) := HB1.out.trans (hb2.mono HB1.out.size)
  clear hb2
  go_wp2_with fail
  refine (HXG.out w2 HB2.out).mono ?_
  rintro e w3 ⟨rfl, hb3⟩
  have HB3 : Hid (Below w.heap.size w w3) := HB2.out.trans (hb3.mono HB2.out.size)
  clear hb3
  go_wp2_with fail
  refine (HSP.out w3 HB3.out).mono ?_
  rintro e w4 ⟨rfl, hb4⟩
  have HB4 : Hid (Below w.heap.size w w4) := HB3.out.trans (hb4.mono HB3.out.size)
  clear hb4 HX HS HXG HSP
  go_wp2_with fail
  go_loopw [11, 12] (fun zv iv wr => ∃ (m : Nat) (z : Bool), zv = .bool z ∧ iv = .int .i64 ((m : Int) + 1) ∧ m + 1 ≤ s.size ∧ Hid (z = false → NoZ s.data.toList (m + 1)) ∧ Hid (Below w.heap.size w wr)) (fun _ iv _ => s.size - (intOf iv).toNat)
  case atStart => exact ⟨0, false, rfl, rfl, hs1, fun _ j hj => by omega, HB4.out⟩
  case round =>
    obtain ⟨m, z, rfl, rfl, hm, hz, hb⟩ := hrel
    obtain ⟨W, rfl⟩ : ∃ W, W = wr := ⟨_, rfl⟩
    by_cases hlt : m + 1 < s.size
    · obtain ⟨x, hx⟩ : ∃ x, s[m + 1] = x := ⟨_, rfl⟩
      obtain ⟨y, hy⟩ : ∃ y, s[m] = y := ⟨_, rfl⟩
      have HLx := hide (byte_at s (m + 1) hlt x hx)
      have HLy := hide (byte_at s m (by omega) y hy)
      have hml : m < s.size := by omega
      cases z with
      | true =>
        go_wp2_with fail
        exact ⟨⟨m + 1, true, rfl, rfl, by omega, hid_ft, hb.out⟩, by simp [intOf]; omega⟩
      | false =>
        have HZ := hide (hz.out rfl)
        cases h48 : ((x.toNat : Int) == 48) with
        | false =>
          have HN : Hid (NoZ s.data.toList (m + 2)) := noz_step _ _ HZ.out (fun h => by
            have := HLx.out.symm.trans h.2
            cases this
            revert h48; decide)
          go_wp2_with fail
          exact ⟨⟨m + 1, false, rfl, rfl, by omega, hid_ff HN.out, hb.out⟩, by simp [intOf]; omega⟩
        | true =>
          cases h40 : ((y.toNat : Int) == 40) with
          | false =>
            have HN : Hid (NoZ s.data.toList (m + 2)) := noz_step _ _ HZ.out (fun h => by
              have := HLy.out.symm.trans h.1
              cases this
              revert h40; decide)
            go_wp2_with fail
            exact ⟨⟨m + 1, false, rfl, rfl, by omega, hid_ff HN.out, hb.out⟩, by simp [intOf]; omega⟩
          | true =>
            go_wp2_with fail
            exact ⟨⟨m + 1, true, rfl, rfl, by omega, hid_ft, hb.out⟩, by simp [intOf]; omega⟩
    · have hme : m + 1 = s.size := by omega
      have HZL : Hid (z = false → G.size ≤ s.size) := fun h => HLN.out (noz_all _ (by
        rw [HSL.out, ← hme]; exact hz.out h))
      have HM := hide hme
      clear hz hme
      go_wp2_with fail
      clear HM
      go_loopw [13] (fun iv wr => ∃ k : Nat, iv = .int .i64 (k : Int) ∧ 4 ≤ k ∧ k ≤ 1540 ∧ Hid (Below w.heap.size w wr)) (fun iv _ => G.size - (intOf iv).toNat)
      case atStart => exact ⟨4, rfl, by omega, by omega, hb.out⟩
      case round =>
        obtain ⟨k, rfl, hk4, hk, hb⟩ := hrel
        obtain ⟨V, rfl⟩ : ∃ V, V = wr := ⟨_, rfl⟩
        by_cases hlg : k < G.size
        · have l1 : k - 1 < G.size := by omega
          have l2 : k - 2 < G.size := by omega
          have l3 : k - 3 < G.size := by omega
          have l4 : k - 4 < G.size := by omega
          obtain ⟨x4, h4⟩ : ∃ x, G[k] = x := ⟨_, rfl⟩
          obtain ⟨x3, h3⟩ : ∃ x, G[k - 1] = x := ⟨_, rfl⟩
          obtain ⟨x2, h2⟩ : ∃ x, G[k - 2] = x := ⟨_, rfl⟩
          obtain ⟨x1, h1⟩ : ∃ x, G[k - 3] = x := ⟨_, rfl⟩
          obtain ⟨x0, h0⟩ : ∃ x, G[k - 4] = x := ⟨_, rfl⟩
          have L4 : Hid (G.data.toList[k - 4 + 4]? = some x4) := by unfold Hid; rw [show k - 4 + 4 = k by omega]; exact byte_at G k hlg x4 h4
          have L3 : Hid (G.data.toList[k - 4 + 3]? = some x3) := by unfold Hid; rw [show k - 4 + 3 = k - 1 by omega]; exact byte_at G (k - 1) l1 x3 h3
          have L2 : Hid (G.data.toList[k - 4 + 2]? = some x2) := by unfold Hid; rw [show k - 4 + 2 = k - 2 by omega]; exact byte_at G (k - 2) l2 x2 h2
          have L1 : Hid (G.data.toList[k - 4 + 1]? = some x1) := by unfold Hid; rw [show k - 4 + 1 = k - 3 by omega]; exact byte_at G (k - 3) l3 x1 h1
          have L0 : Hid (G.data.toList[k - 4]? = some x0) := byte_at G (k - 4) l4 x0 h0
          have p1 : (1 : Int) ≤ (k : Int) := by omega
          have p2 : (2 : Int) ≤ (k : Int) := by omega
          have p3 : (3 : Int) ≤ (k : Int) := by omega
          have p4 : (4 : Int) ≤ (k : Int) := by omega
          have q1 : (k : Int) - 1 < (G.size : Int) := by omega
          have q2 : (k : Int) - 2 < (G.size : Int) := by omega
          have q3 : (k : Int) - 3 < (G.size : Int) := by omega
          have q4 : (k : Int) - 4 < (G.size : Int) := by omega
          cases b3 : ((x4.toNat : Int) == (x3.toNat : Int)) with
          | false =>
            go_wp2_with fail
            go_quiet (fail)
            have HBq : Hid (Below w.heap.size w (V.drewN nq)) := below_drewN' hb.out _
            go_wp2_with fail
            exact ⟨⟨k + 1, by go_num, by omega, by omega, HBq.out⟩, by simp [intOf]; omega⟩
          | true =>
            cases b2 : ((x4.toNat : Int) == (x2.toNat : Int)) with
            | false =>
              go_wp2_with fail
              go_quiet (fail)
              have HBq : Hid (Below w.heap.size w (V.drewN nq)) := below_drewN' hb.out _
              go_wp2_with fail
              exact ⟨⟨k + 1, by go_num, by omega, by omega, HBq.out⟩, by simp [intOf]; omega⟩
            | true =>
              cases b1 : ((x4.toNat : Int) == (x1.toNat : Int)) with
              | false =>
                go_wp2_with fail
                go_quiet (fail)
                have HBq : Hid (Below w.heap.size w (V.drewN nq)) := below_drewN' hb.out _
                go_wp2_with fail
                exact ⟨⟨k + 1, by go_num, by omega, by omega, HBq.out⟩, by simp [intOf]; omega⟩
              | true =>
                cases b0 : ((x4.toNat : Int) == (x0.toNat : Int)) with
                | false =>
                  go_wp2_with fail
                  go_quiet (fail)
                  have HBq : Hid (Below w.heap.size w (V.drewN nq)) := below_drewN' hb.out _
                  go_wp2_with fail
                  exact ⟨⟨k + 1, by go_num, by omega, by omega, HBq.out⟩, by simp [intOf]; omega⟩
                | true =>
                  exact absurd ⟨L0.out.trans (congrArg some (u8_eq _ _ b0).symm), L1.out.trans (congrArg some (u8_eq _ _ b1).symm), L2.out.trans (congrArg some (u8_eq _ _ b2).symm), L3.out.trans (congrArg some (u8_eq _ _ b3).symm), L4.out⟩ (H5.out (k - 4) x4)
        · cases z with
          | true =>
            go_wp2_with fail
            refine (HLv.out V hb.out).mono ?_
            rintro e w9 ⟨rfl, hb9⟩
            go_wp2_with fail
            go_ret
            exact ⟨rfl, hb.out.trans (hb9.mono hb.out.size)⟩
          | false =>
            have hgl := HZL.out rfl
            have hdl : decide ((G.size : Int) ≤ (s.size : Int)) = true := decide_eq_true (by omega)
            go_wp2_with fail
            refine (HLv.out V hb.out).mono ?_
            rintro e w9 ⟨rfl, hb9⟩
            go_wp2_with fail
            go_ret
            exact ⟨rfl, hb.out.trans (hb9.mono hb.out.size)⟩
theorem ShtLaw (s : ByteArray) (w : World) (hs : s.size ≤ maxLen) (he : EnvP w) :
    Calls Tryz.prog 5 #[.string s] w (LawPost w) := by
  by_cases h : 300 < s.size
  · exact ShtLaw_far s w hs he h
  · by_cases hE : (Pic.expL s.data.toList).2 = 0
    · exact ShtLaw_ok s (Pic.expL s.data.toList).1 w (by omega) he (by rw [← hE])
    · exact ShtLaw_bad s w (by omega) he hE
end Go.Proofs.YthdggnkpncoikaaGreatDoor
