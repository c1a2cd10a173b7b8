/-
  Scm Pos Skp Nxt (layer 3, tokens), in one text.
-/
import Derived.Test.YtghnffdjdjlomaaGreatDoorTkA
import Derived.Test.YtghnffdjdjlomaaGreatDoorTkB
import Derived.Test.YtghnffdjdjlomaaGreatDoorHlp
import Derived.Deep.LoopGhost
import Derived.RegionTactic
import Derived.ChangeAlike
/-! CONTRACTS of the scanner's methods that only look (layer 3, tokens): ends, separated, before. -/
namespace Go.Proofs.YtghnffdjdjlomaaGreatDoor
open Go.RowKit Go.Shelf

theorem drop_get (l : List UInt8) (j : Nat) (h : j < l.length) : l.drop j = l[j] :: l.drop (j + 1) := List.drop_eq_getElem_cons h
theorem beq_n {a b : Nat} (h : a ≠ b) : ((a : Int) == (b : Int)) = false := by
  have : (a : Int) ≠ b := by omega
  simpa using this
theorem byte_beq (c n : UInt8) : ((c.toNat : Int) == (n.toNat : Int)) = (c == n) := by
  by_cases h : c = n
  · subst h; simp
  · rw [show (c == n) = false by simpa using h]; exact beq_n (fun e => h (UInt8.toNat_inj.1 e))
theorem byte_eq (c : UInt8) (n : UInt8) (h : c = n) : ((c.toNat : Int) == (n.toNat : Int)) = true := by rw [h]; simp
theorem byte_ne (c : UInt8) (n : UInt8) (h : c ≠ n) : ((c.toNat : Int) == (n.toNat : Int)) = false := beq_n (fun e => h (UInt8.toNat_inj.1 e))

set_option maxHeartbeats 1000000 in
theorem ends_c {B br : Nat} {w : World} {c : CardL} {A : Option Addr} {cap i m : Nat} {ts : List TokL} {TA : Option Addr} {tc : Nat} (h : ScAt B br w c A cap i m ts TA tc) (ht : c.text.length ≤ 2000000) (j : Nat) (hj : j ≤ c.text.length) :
    Calls Tryz.prog 105 #[.pointer (some ⟨br, 0, none⟩), .int .i64 (j : Int)] w fun e w' => e = .returned (.bool (endsL (c.text.drop j))) ∧ Below w.heap.size w w' := by
  have k1 := h.blk.cell 1
  have hbr := h.blk.lt
  obtain ⟨S, hS⟩ : ∃ S, S = mk c.text := ⟨_, rfl⟩
  have hSs : S.size = c.text.length := by rw [hS]; exact mk_size _
  replace k1 : w.cell? ⟨br, 1, none⟩ = some (.string S) := by rw [hS]; exact k1
  obtain ⟨r, hr⟩ : ∃ r, r = endsL (c.text.drop j) := ⟨_, rfl⟩
  rw [← hr]
  by_cases he : j = c.text.length
  · have HR : Hid (r = true) := by unfold Hid; rw [hr, he, List.drop_length]; rfl
    have hb : ((j : Int) == (S.size : Int)) = true := by rw [hSs, he]; simp
    have hb2 : (j == S.size) = true := by rw [hSs, he]; simp
    have hjs : j ≤ S.size := by omega
    clear h hS hSs hr he hj
    go_enter Tryz.func105, Tryz.ntmps105
    go_wp2_with fail
    go_ret
    exact ⟨ret_bool HR.out.symm, Below.refl _ _⟩
  · have hlt : j < S.size := by omega
    have hSj : S[j] = c.text[j]'(by omega) := by subst hS; rfl
    have HR : Hid (r = (S[j] == 32)) := by unfold Hid; rw [hr, drop_get _ _ (by omega), hSj]; rfl
    have hb : ((j : Int) == (S.size : Int)) = false := beq_n (by omega)
    have hb2 : (j == S.size) = false := by simp; omega
    clear h hS hSs hr he hj hSj
    go_enter Tryz.func105, Tryz.ntmps105
    go_wp2_with fail
    go_ret
    exact ⟨ret_bool (by rw [HR.out]; exact byte_beq _ 32), Below.refl _ _⟩

set_option maxHeartbeats 1000000 in
theorem separated_c {B br : Nat} {w : World} {c : CardL} {A : Option Addr} {cap i m : Nat} {ts : List TokL} {TA : Option Addr} {tc : Nat} (h : ScAt B br w c A cap i m ts TA tc) (ht : c.text.length ≤ 2000000) (hi : i < c.text.length) :
    Calls Tryz.prog 111 #[.pointer (some ⟨br, 0, none⟩)] w fun e w' => e = .returned (.bool (sepL c.text i)) ∧ Below w.heap.size w w' := by
  have k1 := h.blk.cell 1
  have k3 : w.cell? ⟨br, 3, none⟩ = some (.int .i64 (i : Int)) := h.blk.cell 3
  have hbr := h.blk.lt
  obtain ⟨S, hS⟩ : ∃ S, S = mk c.text := ⟨_, rfl⟩
  have hSs : S.size = c.text.length := by rw [hS]; exact mk_size _
  replace k1 : w.cell? ⟨br, 1, none⟩ = some (.string S) := by rw [hS]; exact k1
  obtain ⟨r, hr⟩ : ∃ r, r = sepL c.text i := ⟨_, rfl⟩
  rw [← hr]
  by_cases he : i = 0
  · have HR : Hid (r = true) := by unfold Hid; rw [hr, he]; rfl
    have hb : ((i : Int) == 0) = true := by rw [he]; rfl
    have his : i < S.size := by omega
    clear h hS hSs hr he hi
    go_enter Tryz.func111, Tryz.ntmps111
    go_wp2_with fail
    go_quiet (fail)
    go_wp2_with fail
    go_ret
    exact ⟨ret_bool HR.out.symm, below_drewN (Below.refl _ _) _⟩
  · obtain ⟨k, rfl⟩ : ∃ k, i = k + 1 := ⟨i - 1, by omega⟩
    have hlt : k < S.size := by omega
    have hSj : S[k] = c.text[k]'(by omega) := by subst hS; rfl
    have hg : c.text.getD (k + 1 - 1) 0 = c.text[k]'(by omega) := by rw [Nat.add_sub_cancel, List.getD_eq_getElem?_getD, List.getElem?_eq_getElem (by omega), Option.getD_some]
    have HR : Hid (r = (S[k] == 32 || S[k] == 40)) := by unfold Hid; rw [hr]; unfold sepL; rw [hg, hSj, show (k + 1 == 0) = false by simp]; rfl
    have hb : ((k : Int) + 1 == 0) = false := by
      have : (k : Int) + 1 ≠ 0 := by omega
      simpa using this
    replace k3 : w.cell? ⟨br, 3, none⟩ = some (.int .i64 ((k : Int) + 1)) := k3
    have hw : IntKind.i64.wrap (k : Int) = (k : Int) := IntWalk.i64_in _ (by omega)
    have H40 : Hid (((S[k].toNat : Int) == 40) = (S[k] == 40)) := byte_beq _ 40
    clear h hS hSs hr he hi hSj hg
    by_cases h32 : S[k] = 32
    · have hc : ((S[k].toNat : Int) == 32) = true := byte_eq _ 32 h32
      have HR2 : Hid (r = true) := by unfold Hid; rw [HR.out, h32]; rfl
      clear h32 HR
      go_enter Tryz.func111, Tryz.ntmps111
      go_wp2_with fail
      go_quiet (fail)
      go_wp2_with fail
      go_ret
      exact ⟨ret_bool HR2.out.symm, below_drewN (Below.refl _ _) _⟩
    · have hc : ((S[k].toNat : Int) == 32) = false := byte_ne _ 32 h32
      have HR2 : Hid (r = (S[k] == 40)) := by unfold Hid; rw [HR.out, show (S[k] == 32) = false by simpa using h32]; rfl
      clear h32 HR
      go_enter Tryz.func111, Tryz.ntmps111
      go_wp2_with fail
      go_quiet (fail)
      go_wp2_with fail
      go_ret
      exact ⟨ret_bool (by rw [HR2.out]; exact H40.out), below_drewN (Below.refl _ _) _⟩

set_option maxHeartbeats 1000000 in
theorem before_c {B br : Nat} {w : World} {c : CardL} {A : Option Addr} {cap i m : Nat} {ts : List TokL} {TA : Option Addr} {tc : Nat} (h : ScAt B br w c A cap i m ts TA tc) (ht : ts.length ≤ 2000000) (n : Nat) (hn : 1 ≤ n) (hn2 : n ≤ 2) :
    Calls Tryz.prog 127 #[.pointer (some ⟨br, 0, none⟩), .int .i64 (n : Int)] w fun e w' => e = .returned (.string (mk (befL ts n))) ∧ Below w.heap.size w w' := by
  have k5 : w.cell? ⟨br, 5, none⟩ = some (.slice TA ts.length tc) := h.blk.cell 5
  have hbr := h.blk.lt
  obtain ⟨R, hR⟩ : ∃ R, R = mk (befL ts n) := ⟨_, rfl⟩
  obtain ⟨L, hL⟩ : ∃ L, L = ts.length := ⟨_, rfl⟩
  rw [← hR]
  by_cases hlt : L < n
  · have HR : Hid (R = ⟨#[]⟩) := by unfold Hid; rw [hR]; unfold befL; rw [if_pos (by omega)]; rfl
    rw [← hL] at k5 ht
    clear h hR hL
    go_enter Tryz.func127, Tryz.ntmps127
    go_wp2_with fail
    go_quiet (fail)
    go_wp2_with fail
    go_ret
    exact ⟨by rw [HR.out]; rfl, below_drewN (Below.refl _ _) _⟩
  · obtain ⟨k, hk⟩ : ∃ k, L = k + n := ⟨L - n, by omega⟩
    have hkl : k < ts.length := by omega
    obtain ⟨g, rfl, hg, t0, t1⟩ := h.tok k hkl
    have hget : ts[ts.length - n]? = some ts[k] := by rw [← hL, hk, Nat.add_sub_cancel, List.getElem?_eq_getElem hkl]
    have HR : Hid (R = if ts[k].kind = 1 then mk ts[k].text else ⟨#[]⟩) := by
      unfold Hid; rw [hR]; unfold befL; rw [if_neg (by omega), hget]
      show mk (if ts[k].kind = 1 then ts[k].text else []) = _
      split <;> rfl
    obtain ⟨K, hK⟩ : ∃ K, K = ts[k].kind := ⟨_, rfl⟩
    obtain ⟨X, hX⟩ : ∃ X, X = mk ts[k].text := ⟨_, rfl⟩
    rw [← hK, ← hX] at HR
    rw [← hK] at t0
    rw [← hX] at t1
    rw [← hL] at k5 ht
    subst hk
    have hw : IntKind.i64.wrap (k : Int) = (k : Int) := IntWalk.i64_in _ (by omega)
    have hd : decide ((k : Int) + (n : Int) < (n : Int)) = false := decide_eq_false (by omega)
    clear h hR hget hK hX hL hkl
    by_cases h1 : K = 1
    · have HR2 : Hid (R = X) := by unfold Hid; rw [HR.out, if_pos h1]
      have hb : (K != 1) = false := by rw [h1]; rfl
      clear HR h1
      go_enter Tryz.func127, Tryz.ntmps127
      go_wp2_with fail
      go_quiet (fail)
      go_wp2_with fail
      go_quiet (fail)
      go_wp2_with fail
      go_ret
      exact ⟨by rw [HR2.out]; rfl, below_drewN (below_drewN (Below.refl _ _) _) _⟩
    · have HR2 : Hid (R = ⟨#[]⟩) := by unfold Hid; rw [HR.out, if_neg h1]
      have hb : (K != 1) = true := by simpa using h1
      clear HR h1
      go_enter Tryz.func127, Tryz.ntmps127
      go_wp2_with fail
      go_quiet (fail)
      go_wp2_with fail
      go_ret
      exact ⟨by rw [HR2.out]; rfl, below_drewN (Below.refl _ _) _⟩

set_option maxHeartbeats 1000000 in
theorem announces_c {B br : Nat} {w : World} {c : CardL} {A : Option Addr} {cap i m : Nat} {ts : List TokL} {TA : Option Addr} {tc : Nat} (h : ScAt B br w c A cap i m ts TA tc) (ht : ts.length ≤ 2000000) (n : Nat) (hn : 1 ≤ n) (hn2 : n ≤ 2) :
    Calls Tryz.prog 126 #[.pointer (some ⟨br, 0, none⟩), .int .i64 (n : Int)] w fun e w' => e = .returned (.bool (annL ts n)) ∧ Below w.heap.size w w' := by
  have HB := hide (before_c h ht n hn hn2)
  obtain ⟨X, hX⟩ : ∃ X, X = mk (befL ts n) := ⟨_, rfl⟩
  obtain ⟨p1, hp1⟩ : ∃ p1, p1 = (befL ts n == [80, 73, 67]) := ⟨_, rfl⟩
  obtain ⟨p2, hp2⟩ : ∃ p2, p2 = (befL ts n == [80, 73, 67, 84, 85, 82, 69]) := ⟨_, rfl⟩
  have he1 : (X.toList == [80, 73, 67]) = p1 := by rw [hX, hp1, ByteArray.toList_eq]; rfl
  have he2 : (X.toList == [80, 73, 67, 84, 85, 82, 69]) = p2 := by rw [hX, hp2, ByteArray.toList_eq]; rfl
  have HR : Hid (annL ts n = (p1 || p2)) := by unfold annL Hid; rw [hp1, hp2]
  obtain ⟨r, hr⟩ : ∃ r, r = annL ts n := ⟨_, rfl⟩
  rw [← hr] at HR ⊢
  rw [← hX] at HB
  clear h hX hp1 hp2 hr
  have HE1 := hide he1
  have HE2 := hide he2
  clear he1 he2
  go_enter Tryz.func126, Tryz.ntmps126
  go_wp2_with fail
  refine HB.out.mono ?_
  rintro e w1 ⟨rfl, hb⟩
  go_wp2_with fail
  all_goals go_ret
  all_goals exact ⟨ret_bool (by rw [HR.out, ← HE1.out, ← HE2.out]; all_goals simp [*]), hb⟩

/-- a picture begins: what the test computes -/
theorem picL_eq (ts : List TokL) (rest : List UInt8) (p a1 b1 a2 : Bool) (hp : Lib.hasPrefix rest [61, 61] = p) (ha1 : annL ts 1 = a1) (hb1 : (befL ts 1 == [73, 83]) = b1) (ha2 : annL ts 2 = a2) :
    picL ts rest = if p then false else if a1 then !((rest.take (lenL rest wrdS)).map up == [73, 83]) else b1 && a2 := by
  unfold picL; rw [hp, ha1, hb1, ha2]

set_option maxHeartbeats 2000000 in
theorem atPicture_c {B br : Nat} {w : World} {c : CardL} {A : Option Addr} {cap i m : Nat} {ts : List TokL} {TA : Option Addr} {tc : Nat} (h : ScAt B br w c A cap i m ts TA tc) (ht : ts.length ≤ 2000000) (hc : c.text.length ≤ 2000000) (hi : i ≤ c.text.length) :
    Calls Tryz.prog 106 #[.pointer (some ⟨br, 0, none⟩)] w fun e w' => e = .returned (.bool (picL ts (c.text.drop i))) ∧ Below w.heap.size w w' := by
  have k1 := h.blk.cell 1
  have k3 : w.cell? ⟨br, 3, none⟩ = some (.int .i64 (i : Int)) := h.blk.cell 3
  have hbr := h.blk.lt
  obtain ⟨S, hS⟩ : ∃ S, S = mk c.text := ⟨_, rfl⟩
  have hSs : S.size = c.text.length := by rw [hS]; exact mk_size _
  replace k1 : w.cell? ⟨br, 1, none⟩ = some (.string S) := by rw [hS]; exact k1
  have hSd : (S.extract i S.size).data.toList = c.text.drop i := by rw [drop_ext, hS]; rfl
  have his : i ≤ S.size := by omega
  obtain ⟨rest, hrest⟩ : ∃ rest, rest = c.text.drop i := ⟨_, rfl⟩
  obtain ⟨T, hT⟩ : ∃ T, T = S.extract i S.size := ⟨_, rfl⟩
  rw [← hT, ← hrest] at hSd
  have hTs : T.size ≤ 2000000 := by rw [hT, ext_size]; omega
  have HT : Hid (S.extract i S.size = T) := hT.symm
  obtain ⟨p, hp⟩ : ∃ p, Lib.hasPrefix rest [61, 61] = p := ⟨_, rfl⟩
  obtain ⟨a1, ha1⟩ : ∃ a1, annL ts 1 = a1 := ⟨_, rfl⟩
  obtain ⟨a2, ha2⟩ : ∃ a2, annL ts 2 = a2 := ⟨_, rfl⟩
  obtain ⟨b1, hb1⟩ : ∃ b1, (befL ts 1 == [73, 83]) = b1 := ⟨_, rfl⟩
  have HP : Hid (∀ w1, Calls Tryz.prog 61 #[.string T, .string ⟨#[61, 61]⟩] w1 fun e w' => e = .returned (.bool p) ∧ w1 = w') := fun w1 => by
    rw [← hp, ← hSd]; exact (Tryz.strings_HasPrefix T ⟨#[61, 61]⟩ w1).mono fun _ _ h => ⟨h.1, h.2.symm⟩
  have HA1 : Hid (∀ w1, Below w.heap.size w w1 → Calls Tryz.prog 126 #[.pointer (some ⟨br, 0, none⟩), .int .i64 1] w1 fun e w' => e = .returned (.bool a1) ∧ Below w1.heap.size w1 w') := fun w1 hb => by
    rw [← ha1]; exact announces_c (h.below hb) ht 1 (by omega) (by omega)
  have HA2 : Hid (∀ w1, Below w.heap.size w w1 → Calls Tryz.prog 126 #[.pointer (some ⟨br, 0, none⟩), .int .i64 2] w1 fun e w' => e = .returned (.bool a2) ∧ Below w1.heap.size w1 w') := fun w1 hb => by
    rw [← ha2]; exact announces_c (h.below hb) ht 2 (by omega) (by omega)
  obtain ⟨X, hX⟩ : ∃ X, X = mk (befL ts 1) := ⟨_, rfl⟩
  have hXe : (X.toList == [73, 83]) = b1 := by rw [hX, ← hb1, ByteArray.toList_eq]; rfl
  have HB1 : Hid (∀ w1, Below w.heap.size w w1 → Calls Tryz.prog 127 #[.pointer (some ⟨br, 0, none⟩), .int .i64 1] w1 fun e w' => e = .returned (.string X) ∧ Below w1.heap.size w1 w') := fun w1 hb => by
    rw [hX]; exact before_c (h.below hb) ht 1 (by omega) (by omega)
  obtain ⟨n, hn⟩ : ∃ n, lenL rest wrdS = n := ⟨_, rfl⟩
  have hnl : n ≤ T.size := by rw [← hn, ← hSd, ← len_data]; exact lenL_le _ _
  have HL : Hid (∀ w1, Calls Tryz.prog 113 #[.string T, .string wrdB] w1 fun e w' => e = .returned (.int .i64 (n : Int)) ∧ Below w1.heap.size w1 w') := fun w1 => by
    rw [← hn, ← hSd]; exact wrd_c T w1 hTs
  obtain ⟨U, hU⟩ : ∃ U, U = mk ((rest.take n).map up) := ⟨_, rfl⟩
  have HF : Hid (∀ w1, Calls Tryz.prog 115 #[.string (T.extract 0 n)] w1 fun e w' => e = .returned (.string U) ∧ Below w1.heap.size w1 w') := fun w1 => by
    have := Fold_c (T.extract 0 n) w1 (by unfold maxLen; simp; omega)
    rw [ext_data, List.drop_zero, Nat.sub_zero, hSd] at this
    rw [hU]; exact this
  obtain ⟨u, hu⟩ : ∃ u, ((rest.take n).map up == [73, 83]) = u := ⟨_, rfl⟩
  have hUe : (U.toList == [73, 83]) = u := by rw [hU, ← hu, ByteArray.toList_eq]; rfl
  have HR : Hid (picL ts rest = if p then false else if a1 then !u else b1 && a2) := by
    unfold Hid; rw [picL_eq ts rest p a1 b1 a2 hp ha1 hb1 ha2, hn, hu]
  obtain ⟨r, hr⟩ : ∃ r, r = picL ts rest := ⟨_, rfl⟩
  rw [← hrest, ← hr]
  rw [← hr] at HR
  have HXe := hide hXe
  have HUe := hide hUe
  clear h hS hSd hrest hT hp ha1 ha2 hb1 hX hXe hn hU hu hUe hr hSs
  go_enter Tryz.func106, Tryz.ntmps106
  go_wp2_with fail
  go_quiet (fail)
  go_wp2_with fail
  rw [HT.out]
  have HW0 := hide (below_drewN (Below.refl w.heap.size w) nq)
  refine (HP.out _).mono ?_
  rintro e w1 ⟨rfl, rfl⟩
  cases p
  · go_wp2_with fail
    refine (HA1.out _ HW0.out).mono ?_
    rintro e w1 ⟨rfl, hb1⟩
    have HW1 := hide (HW0.out.trans (hb1.mono HW0.out.size))
    clear hb1
    cases a1
    · go_wp2_with fail
      refine (HB1.out _ HW1.out).mono ?_
      rintro e w2 ⟨rfl, hb2⟩
      have HW2 := hide (HW1.out.trans (hb2.mono HW1.out.size))
      clear hb2
      cases b1
      · have hx : (X.toList == [73, 83]) = false := HXe.out
        have hx2 : ¬ X.toList = [73, 83] := by simpa using hx
        go_wp2_with fail
        go_ret
        exact ⟨ret_bool (by rw [HR.out]; first | rfl | simp [hx2]), HW2.out⟩
      · have hx : (X.toList == [73, 83]) = true := HXe.out
        go_wp2_with fail
        refine (HA2.out _ HW2.out).mono ?_
        rintro e w3 ⟨rfl, hb3⟩
        have HW3 := hide (HW2.out.trans (hb3.mono HW2.out.size))
        clear hb3
        go_wp2_with fail
        go_ret
        exact ⟨ret_bool (by rw [HR.out]; rfl), HW3.out⟩
    · go_wp2_with fail
      refine (HL.out _).mono ?_
      rintro e w2 ⟨rfl, hb2⟩
      have HW2 := hide (HW1.out.trans (hb2.mono HW1.out.size))
      clear hb2
      go_wp2_with fail
      refine (HF.out _).mono ?_
      rintro e w3 ⟨rfl, hb3⟩
      have HW3 := hide (HW2.out.trans (hb3.mono HW2.out.size))
      clear hb3
      go_wp2_with fail
      go_ret
      exact ⟨ret_bool (by rw [HR.out]; simp [← HUe.out]), HW3.out⟩
  · go_wp2_with fail
    go_ret
    exact ⟨ret_bool (by rw [HR.out]; rfl), HW0.out⟩
end Go.Proofs.YtghnffdjdjlomaaGreatDoor

/-! CONTRACT of position (layer 3, tokens). -/
namespace Go.Proofs.YtghnffdjdjlomaaGreatDoor
open Go.RowKit Go.Shelf

theorem ScAt.setc {B br : Nat} {w : World} {c : CardL} {A : Option Addr} {cap i m : Nat} {ts : List TokL} {TA : Option Addr} {tc : Nat} (h : ScAt B br w c A cap i m ts TA tc) (m' : Nat) :
    ScAt B br (w.setCell ⟨br, 4, none⟩ (.int .i64 (m' : Int))) c A cap i m' ts TA tc := by
  have hm : Mods (· = br) w (w.setCell ⟨br, 4, none⟩ (.int .i64 (m' : Int))) := (Mods.refl _ w).set br 4 _ (fun _ => rfl)
  refine ⟨h.blk.set 4 _, own_kept h.own hm (fun k hk e => ?_), h.marks.mods hm (fun j hj e => by omega) (by have := h.low; have := h.size; omega) (Nat.le_refl _), h.low, by have := hm.size; have := h.size; omega⟩
  have := h.own.lt k hk
  have := h.low
  omega
theorem ScAt.seti {B br : Nat} {w : World} {c : CardL} {A : Option Addr} {cap i m : Nat} {ts : List TokL} {TA : Option Addr} {tc : Nat} (h : ScAt B br w c A cap i m ts TA tc) (i' : Nat) :
    ScAt B br (w.setCell ⟨br, 3, none⟩ (.int .i64 (i' : Int))) c A cap i' m ts TA tc := by
  have hm : Mods (· = br) w (w.setCell ⟨br, 3, none⟩ (.int .i64 (i' : Int))) := (Mods.refl _ w).set br 3 _ (fun _ => rfl)
  refine ⟨h.blk.set 3 _, own_kept h.own hm (fun k hk e => ?_), h.marks.mods hm (fun j hj e => by omega) (by have := h.low; have := h.size; omega) (Nat.le_refl _), h.low, by have := hm.size; have := h.size; omega⟩
  have := h.own.lt k hk
  have := h.low
  omega
theorem ScAt.drewN {B br : Nat} {w : World} {c : CardL} {A : Option Addr} {cap i m : Nat} {ts : List TokL} {TA : Option Addr} {tc : Nat} (h : ScAt B br w c A cap i m ts TA tc) (n : Nat) : ScAt B br (w.drewN n) c A cap i m ts TA tc := h.below (below_drewN (Below.refl _ _) n)
theorem ScAt.alloc {B br : Nat} {w : World} {c : CardL} {A : Option Addr} {cap i m : Nat} {ts : List TokL} {TA : Option Addr} {tc : Nat} (h : ScAt B br w c A cap i m ts TA tc) (o : Obj) : ScAt B br (w.alloc o) c A cap i m ts TA tc := h.below ((Below.refl _ _).alloc (Nat.le_refl _) o)
/-- only the scanner's block has turned -/
def ModS (br : Nat) (w w' : World) : Prop := Mods (· = br) w w'
theorem ModS.below {br : Nat} {a b c : World} (h : ModS br a b) (k : Below b.heap.size b c) : ModS br a c := Mods.below h k
theorem ModS.trans {br : Nat} {a b c : World} (h : ModS br a b) (k : ModS br b c) : ModS br a c := Mods.trans h k
theorem ModS.set {br : Nat} {a b : World} (h : ModS br a b) (j : Nat) (v : Value) : ModS br a (b.setCell ⟨br, j, none⟩ v) := Mods.set h br j v (fun _ => rfl)
theorem ModS.refl (br : Nat) (a : World) : ModS br a a := Mods.refl _ a
theorem ModS.alloc {br : Nat} {a b : World} (h : ModS br a b) (o : Obj) : ModS br a (b.alloc o) := Mods.alloc h o
theorem ModS.drewN {br : Nat} {a b : World} (h : ModS br a b) (n : Nat) : ModS br a (b.drewN n) := Mods.drewN h n
theorem ModS.blk {br : Nat} {w w' : World} {b : Nat} {cs : Array Value} {T : TypeId} (h : Blk w b cs T) (k : ModS br w w') (hb : b ≠ br) : Blk w' b cs T := h.mods k hb
/-- a store into a block behind the start's -/
theorem ModS.far {br : Nat} {a b : World} (h : ModS br a b) (blk j : Nat) (v : Value) (hb : a.heap.size ≤ blk) : ModS br a (b.setCell ⟨blk, j, none⟩ v) := Mods.set h blk j v (fun e => by omega)

set_option maxHeartbeats 2000000 in
theorem position_c {B br : Nat} {w : World} {c : CardL} {A : Option Addr} {cap i m : Nat} {ts : List TokL} {TA : Option Addr} {tc : Nat} (h : ScAt B br w c A cap i m ts TA tc) (hc : c.text.length ≤ 2000000) (hi : i ≤ c.text.length) (hl : c.marks.length ≤ 2000000)
    (hv : validL c = true) (hm : m < c.marks.length) (hmi : c.marks[m].1 ≤ (i : Int)) :
    Calls Tryz.prog 85 #[.pointer (some ⟨br, 0, none⟩)] w fun e w' => e = .returned (.agg #[.int .i64 (posL c i).1, .int .i64 (posL c i).2]) ∧
      (∃ m', ScAt B br w' c A cap i m' ts TA tc ∧ ∃ h' : m' < c.marks.length, c.marks[m'].1 ≤ (i : Int)) ∧ ModS br w w' := by
  obtain ⟨P1, P2, hP⟩ : ∃ P1 P2, posL c i = (P1, P2) := ⟨_, _, rfl⟩
  rw [hP]
  have hmk : marksOk (c.text.length : Int) (-1) c.marks = true := by
    unfold validL at hv
    simp only [Bool.and_eq_true] at hv
    exact hv.2.2.2
  have hPk : Hid (∀ k (hk : k < c.marks.length), c.marks[k].1 ≤ (i : Int) → (∀ h : k + 1 < c.marks.length, (i : Int) < c.marks[k + 1].1) → P1 = c.marks[k].2.1 ∧ P2 = c.marks[k].2.2 + i - c.marks[k].1) := fun k hk h1 h2 => by
    have := lastM_at (c.text.length : Int) (-1) i c.marks (c.marks.getD 0 (0, 0, 0)) hmk k hk h1 h2
    unfold posL at hP
    rw [this] at hP
    injection hP with e1 e2
    exact ⟨e1.symm, e2.symm⟩
  have hin := hide (marks_in _ _ _ hmk)
  have H0 := hide (h.alloc (.cells #[.int .i64 0, .int .i64 0] 26))
  have HR := hide (blk_new w #[.int .i64 0, .int .i64 0] 26)
  have HM0 := hide ((ModS.refl br w).alloc (.cells #[.int .i64 0, .int .i64 0] 26))
  have hbw := h.blk.lt
  have hTok : Hid (∀ k, (Value.slice TA ts.length tc).ownBlock = some k → k < w.heap.size) := fun k hk => (h.own.lt k hk).2
  have HMI := hide hmi
  clear h hP hmk hv hmi
  go_enter Tryz.func85, Tryz.ntmps85
  go_wp2_with fail
  go_loopg [] (c.marks.length - m) (fun k wr => ∃ m' : Nat, k = c.marks.length - m' ∧ ScAt B br wr c A cap i m' ts TA tc ∧ (∃ h' : m' < c.marks.length, c.marks[m'].1 ≤ (i : Int)) ∧ ModS br w wr ∧ Blk wr w.heap.size #[.int .i64 0, .int .i64 0] 26)
  case atStart => exact ⟨m, rfl, H0.out, ⟨hm, HMI.out⟩, HM0.out, HR.out⟩
  case round =>
    obtain ⟨m', rfl, hs, ⟨hm', hmi'⟩, hmod, hres⟩ := hrel
    have k2 : wr.cell? ⟨br, 2, none⟩ = some (.slice A c.marks.length cap) := hs.blk.cell 2
    have k3 : wr.cell? ⟨br, 3, none⟩ = some (.int .i64 (i : Int)) := hs.blk.cell 3
    have k4 : wr.cell? ⟨br, 4, none⟩ = some (.int .i64 (m' : Int)) := hs.blk.cell 4
    have f4 := hs.blk.free 4
    have hbr := hs.blk.lt
    have HS := hide hs
    have HMO := hide hmod
    have HRS := hide hres
    have HMI' := hide hmi'
    have hw : IntKind.i64.wrap ((m' : Int) + 1) = (m' : Int) + 1 := IntWalk.i64_in _ (by omega)
    clear hs hmod hmi' hres
    obtain ⟨b, off, rfl, hb, p0, p1, p2⟩ := MarksAt.at_ HS.out.marks m' hm'
    have HP := hide (And.intro p0 (And.intro p1 p2))
    clear p0 p1 p2
    by_cases h1 : m' + 1 < c.marks.length
    · obtain ⟨b2, off2, hA, -, q0, q1, q2⟩ := MarksAt.at_ HS.out.marks (m' + 1) h1
      injection hA with hA
      injection hA with hA1 hA2
      subst hA1
      subst hA2
      have hb2 : b < wr.heap.size := by omega
      have hd : decide ((m' : Int) + 1 < (c.marks.length : Int)) = true := decide_eq_true (by omega)
      obtain ⟨F, hF⟩ : ∃ F, F = c.marks[m' + 1].1 := ⟨_, rfl⟩
      rw [← hF] at q0
      clear q1 q2
      by_cases h2 : F ≤ (i : Int)
      · have HF2 : Hid (∃ h' : m' + 1 < c.marks.length, c.marks[m' + 1].1 ≤ (i : Int)) := ⟨h1, by rw [← hF]; exact h2⟩
        clear hF
        go_wp2_with fail
        go_quiet (fail)
        go_wp2_with fail
        go_roundg (c.marks.length - (m' + 1))
        case measure => omega
        case rel => exact ⟨m' + 1, rfl, (HS.out.drewN _).setc (m' + 1), HF2.out, (HMO.out.drewN _).set 4 _, (HRS.out.mods (((Mods.refl (· = br) wr).drewN nq).set br 4 _ (fun _ => rfl)) (by omega))⟩
      · have hPe : Hid (P1 = c.marks[m'].2.1 ∧ P2 = c.marks[m'].2.2 + i - c.marks[m'].1) := hPk.out m' hm' HMI'.out (fun _ => by rw [← hF]; omega)
        clear hF
        go_wp2_with fail
        go_quiet (fail)
        go_wp2_with fail
        have HS2 := hide (HS.out.drewN nq)
        have HMO2 := hide (HMO.out.drewN nq)
        have HRS2 := hide (HRS.out.mods ((Mods.refl (fun _ => False) wr).drewN nq) (fun e => e))
        obtain ⟨W, hW⟩ : ∃ W, W = wr.drewN nq := ⟨_, rfl⟩
        rw [← hW] at HS2 HMO2 HRS2 ⊢
        clear HS HMO HRS k2 k3 k4 f4 hw hbr
        obtain ⟨p0, p1, p2⟩ := HP.out
        replace p0 : W.cell? ⟨b, off + m' * 3, none⟩ = some (.int .i64 c.marks[m'].1) := by rw [hW]; exact p0
        replace p1 : W.cell? ⟨b, off + m' * 3 + 1, none⟩ = some (.int .i64 c.marks[m'].2.1) := by rw [hW]; exact p1
        replace p2 : W.cell? ⟨b, off + m' * 3 + 2, none⟩ = some (.int .i64 c.marks[m'].2.2) := by rw [hW]; exact p2
        clear hW
        have hbW : b < W.heap.size := by have := HS2.out.blk.lt; omega
        have k2 : W.cell? ⟨br, 2, none⟩ = some (.slice (some ⟨b, off, none⟩) c.marks.length cap) := HS2.out.blk.cell 2
        have k3 : W.cell? ⟨br, 3, none⟩ = some (.int .i64 (i : Int)) := HS2.out.blk.cell 3
        have k4 : W.cell? ⟨br, 4, none⟩ = some (.int .i64 (m' : Int)) := HS2.out.blk.cell 4
        have hbr := HS2.out.blk.lt
        obtain ⟨X, hX⟩ : ∃ X, X = c.marks[m'].1 := ⟨_, rfl⟩
        obtain ⟨Y, hY⟩ : ∃ Y, Y = c.marks[m'].2.1 := ⟨_, rfl⟩
        obtain ⟨Z, hZ⟩ : ∃ Z, Z = c.marks[m'].2.2 := ⟨_, rfl⟩
        have hbd := hin.out c.marks[m'] (List.getElem_mem hm')
        rw [← hX, ← hY] at hPe
        rw [← hZ] at hPe
        rw [← hX] at p0 hbd
        rw [← hY] at p1 hbd
        rw [← hZ] at p2 hbd
        obtain ⟨b1, b2, -, b4, b5⟩ := hbd
        have HMX : Hid (c.marks[m'].1 ≤ (i : Int)) := HMI'.out
        have hXi : X ≤ (i : Int) := by rw [hX]; exact HMX.out
        clear hX hY hZ HP HMI'
        go_region
        have HS3 := hide ((HS2.out.alloc (.cells #[.int .i64 X, .int .i64 Y, .int .i64 Z] 57)).drewN 1)
        have HMO3 := hide ((HMO2.out.alloc (.cells #[.int .i64 X, .int .i64 Y, .int .i64 Z] 57)).drewN 1)
        have HRS3 := hide ((HRS2.out.alloc (.cells #[.int .i64 X, .int .i64 Y, .int .i64 Z] 57)).mods ((Mods.refl (fun _ => False) _).drewN 1) (fun e => e))
        have HQ3 := hide ((blk_new W #[.int .i64 X, .int .i64 Y, .int .i64 Z] 57).mods ((Mods.refl (fun _ => False) _).drewN 1) (fun e => e))
        have hsz : W.heap.size < ((W.alloc (.cells #[.int .i64 X, .int .i64 Y, .int .i64 Z] 57)).drew).heap.size := HQ3.out.lt
        obtain ⟨W2, hW2⟩ : ∃ W2, W2 = (W.alloc (.cells #[.int .i64 X, .int .i64 Y, .int .i64 Z] 57)).drew := ⟨_, rfl⟩
        have HS4 : Hid (ScAt B br W2 c (some ⟨b, off, none⟩) cap i m' ts TA tc) := by rw [hW2]; exact HS3.out
        have HMO4 : Hid (ModS br w W2) := by rw [hW2]; exact HMO3.out
        have HRS4 : Hid (Blk W2 w.heap.size #[.int .i64 0, .int .i64 0] 26) := by rw [hW2]; exact HRS3.out
        have HQ4 : Hid (Blk W2 W.heap.size #[.int .i64 X, .int .i64 Y, .int .i64 Z] 57) := by rw [hW2]; exact HQ3.out
        rw [← hW2] at hsz ⊢
        clear hW2 HS3 HMO3 HRS3 HQ3 HS2 HMO2 HRS2 k2 k3 k4 hbr p0 p1 p2
        have k3 : W2.cell? ⟨br, 3, none⟩ = some (.int .i64 (i : Int)) := HS4.out.blk.cell 3
        have q0 : W2.cell? ⟨W.heap.size, 0, none⟩ = some (.int .i64 X) := HQ4.out.cell 0
        have q1 : W2.cell? ⟨W.heap.size, 1, none⟩ = some (.int .i64 Y) := HQ4.out.cell 1
        have q2 : W2.cell? ⟨W.heap.size, 2, none⟩ = some (.int .i64 Z) := HQ4.out.cell 2
        have r0 : W2.cell? ⟨w.heap.size, 0, none⟩ = some (.int .i64 0) := HRS4.out.cell 0
        have r1 : W2.cell? ⟨w.heap.size, 1, none⟩ = some (.int .i64 0) := HRS4.out.cell 1
        have g0 := HRS4.out.free 0
        have g1 := HRS4.out.free 1
        have hrl := HRS4.out.lt
        have hbr := HS4.out.blk.lt
        have hw1 : IntKind.i64.wrap (Z + (i : Int)) = Z + (i : Int) := IntWalk.i64_in _ (by omega)
        have hw2 : IntKind.i64.wrap (Z + (i : Int) - X) = Z + (i : Int) - X := IntWalk.i64_in _ (by omega)
        have HPe := hide hPe
        clear hPe
        go_wp2_with fail
        go_region
        go_wp2_with fail
        refine bodyPost_ret (v := .agg #[.int .i64 Y, .int .i64 (Z + (i : Int) - X)]) (by simp [results, Tryz.results85, go_sem, r0, r1, hrl]) rfl ⟨by rw [HPe.out.1, HPe.out.2], ⟨m', ?_, hm', HMX.out⟩, ?_⟩
        · exact HS4.out.mods ((((Mods.refl (· = w.heap.size) W2).set _ 0 _ (fun _ => rfl)).set _ 1 _ (fun _ => rfl)).drewN 1) (fun j hj e => by omega) (fun k hk e => by have := hTok.out k hk; omega)
        · exact ((HMO4.out.far _ 0 _ (Nat.le_refl _)).far _ 1 _ (Nat.le_refl _)).drewN 1
    · have hd : decide ((m' : Int) + 1 < (c.marks.length : Int)) = false := decide_eq_false (by omega)
      have hPe : Hid (P1 = c.marks[m'].2.1 ∧ P2 = c.marks[m'].2.2 + i - c.marks[m'].1) := hPk.out m' hm' HMI'.out (fun h => absurd h h1)
      go_wp2_with fail
      go_quiet (fail)
      go_wp2_with fail
      have HS2 := hide (HS.out.drewN nq)
      have HMO2 := hide (HMO.out.drewN nq)
      have HRS2 := hide (HRS.out.mods ((Mods.refl (fun _ => False) wr).drewN nq) (fun e => e))
      obtain ⟨W, hW⟩ : ∃ W, W = wr.drewN nq := ⟨_, rfl⟩
      rw [← hW] at HS2 HMO2 HRS2 ⊢
      clear HS HMO HRS k2 k3 k4 f4 hw hbr
      obtain ⟨p0, p1, p2⟩ := HP.out
      replace p0 : W.cell? ⟨b, off + m' * 3, none⟩ = some (.int .i64 c.marks[m'].1) := by rw [hW]; exact p0
      replace p1 : W.cell? ⟨b, off + m' * 3 + 1, none⟩ = some (.int .i64 c.marks[m'].2.1) := by rw [hW]; exact p1
      replace p2 : W.cell? ⟨b, off + m' * 3 + 2, none⟩ = some (.int .i64 c.marks[m'].2.2) := by rw [hW]; exact p2
      clear hW
      have hbW : b < W.heap.size := by have := HS2.out.blk.lt; omega
      have k2 : W.cell? ⟨br, 2, none⟩ = some (.slice (some ⟨b, off, none⟩) c.marks.length cap) := HS2.out.blk.cell 2
      have k3 : W.cell? ⟨br, 3, none⟩ = some (.int .i64 (i : Int)) := HS2.out.blk.cell 3
      have k4 : W.cell? ⟨br, 4, none⟩ = some (.int .i64 (m' : Int)) := HS2.out.blk.cell 4
      have hbr := HS2.out.blk.lt
      obtain ⟨X, hX⟩ : ∃ X, X = c.marks[m'].1 := ⟨_, rfl⟩
      obtain ⟨Y, hY⟩ : ∃ Y, Y = c.marks[m'].2.1 := ⟨_, rfl⟩
      obtain ⟨Z, hZ⟩ : ∃ Z, Z = c.marks[m'].2.2 := ⟨_, rfl⟩
      have hbd := hin.out c.marks[m'] (List.getElem_mem hm')
      rw [← hX, ← hY] at hPe
      rw [← hZ] at hPe
      rw [← hX] at p0 hbd
      rw [← hY] at p1 hbd
      rw [← hZ] at p2 hbd
      obtain ⟨b1, b2, -, b4, b5⟩ := hbd
      have HMX : Hid (c.marks[m'].1 ≤ (i : Int)) := HMI'.out
      have hXi : X ≤ (i : Int) := by rw [hX]; exact HMX.out
      clear hX hY hZ HP HMI'
      go_region
      have HS3 := hide ((HS2.out.alloc (.cells #[.int .i64 X, .int .i64 Y, .int .i64 Z] 57)).drewN 1)
      have HMO3 := hide ((HMO2.out.alloc (.cells #[.int .i64 X, .int .i64 Y, .int .i64 Z] 57)).drewN 1)
      have HRS3 := hide ((HRS2.out.alloc (.cells #[.int .i64 X, .int .i64 Y, .int .i64 Z] 57)).mods ((Mods.refl (fun _ => False) _).drewN 1) (fun e => e))
      have HQ3 := hide ((blk_new W #[.int .i64 X, .int .i64 Y, .int .i64 Z] 57).mods ((Mods.refl (fun _ => False) _).drewN 1) (fun e => e))
      have hsz : W.heap.size < ((W.alloc (.cells #[.int .i64 X, .int .i64 Y, .int .i64 Z] 57)).drew).heap.size := HQ3.out.lt
      obtain ⟨W2, hW2⟩ : ∃ W2, W2 = (W.alloc (.cells #[.int .i64 X, .int .i64 Y, .int .i64 Z] 57)).drew := ⟨_, rfl⟩
      have HS4 : Hid (ScAt B br W2 c (some ⟨b, off, none⟩) cap i m' ts TA tc) := by rw [hW2]; exact HS3.out
      have HMO4 : Hid (ModS br w W2) := by rw [hW2]; exact HMO3.out
      have HRS4 : Hid (Blk W2 w.heap.size #[.int .i64 0, .int .i64 0] 26) := by rw [hW2]; exact HRS3.out
      have HQ4 : Hid (Blk W2 W.heap.size #[.int .i64 X, .int .i64 Y, .int .i64 Z] 57) := by rw [hW2]; exact HQ3.out
      rw [← hW2] at hsz ⊢
      clear hW2 HS3 HMO3 HRS3 HQ3 HS2 HMO2 HRS2 k2 k3 k4 hbr p0 p1 p2
      have k3 : W2.cell? ⟨br, 3, none⟩ = some (.int .i64 (i : Int)) := HS4.out.blk.cell 3
      have q0 : W2.cell? ⟨W.heap.size, 0, none⟩ = some (.int .i64 X) := HQ4.out.cell 0
      have q1 : W2.cell? ⟨W.heap.size, 1, none⟩ = some (.int .i64 Y) := HQ4.out.cell 1
      have q2 : W2.cell? ⟨W.heap.size, 2, none⟩ = some (.int .i64 Z) := HQ4.out.cell 2
      have r0 : W2.cell? ⟨w.heap.size, 0, none⟩ = some (.int .i64 0) := HRS4.out.cell 0
      have r1 : W2.cell? ⟨w.heap.size, 1, none⟩ = some (.int .i64 0) := HRS4.out.cell 1
      have g0 := HRS4.out.free 0
      have g1 := HRS4.out.free 1
      have hrl := HRS4.out.lt
      have hbr := HS4.out.blk.lt
      have hw1 : IntKind.i64.wrap (Z + (i : Int)) = Z + (i : Int) := IntWalk.i64_in _ (by omega)
      have hw2 : IntKind.i64.wrap (Z + (i : Int) - X) = Z + (i : Int) - X := IntWalk.i64_in _ (by omega)
      have HPe := hide hPe
      clear hPe
      go_wp2_with fail
      go_region
      go_wp2_with fail
      refine bodyPost_ret (v := .agg #[.int .i64 Y, .int .i64 (Z + (i : Int) - X)]) (by simp [results, Tryz.results85, go_sem, r0, r1, hrl]) rfl ⟨by rw [HPe.out.1, HPe.out.2], ⟨m', ?_, hm', HMX.out⟩, ?_⟩
      · exact HS4.out.mods ((((Mods.refl (· = w.heap.size) W2).set _ 0 _ (fun _ => rfl)).set _ 1 _ (fun _ => rfl)).drewN 1) (fun j hj e => by omega) (fun k hk e => by have := hTok.out k hk; omega)
      · exact ((HMO4.out.far _ 0 _ (Nat.le_refl _)).far _ 1 _ (Nat.le_refl _)).drewN 1
end Go.Proofs.YtghnffdjdjlomaaGreatDoor

/-! CONTRACT of skip (layer 3, tokens). -/
namespace Go.Proofs.YtghnffdjdjlomaaGreatDoor
open Go.RowKit Go.Shelf

theorem skipN_sp (ts : List TokL) (r : List UInt8) : skipN ts (32 :: r) = skipN ts r + 1 := by
  conv => lhs; unfold skipN
  rw [if_pos rfl]
theorem skipN_yes (ts : List TokL) (c : UInt8) (r : List UInt8) (h : c ≠ 32) (hc : c = 44 ∨ c = 59) (hb : (endsL r && !picL ts (c :: r)) = true) : skipN ts (c :: r) = skipN ts r + 1 := by
  conv => lhs; unfold skipN
  rw [if_neg h, if_pos hc, if_pos hb]
theorem skipN_no (ts : List TokL) (c : UInt8) (r : List UInt8) (h : c ≠ 32) (hc : c = 44 ∨ c = 59) (hb : (endsL r && !picL ts (c :: r)) = false) : skipN ts (c :: r) = 0 := by
  unfold skipN
  rw [if_neg h, if_pos hc, if_neg (by rw [hb]; decide)]
theorem skipN_other (ts : List TokL) (c : UInt8) (r : List UInt8) (h : c ≠ 32) (hc : ¬ (c = 44 ∨ c = 59)) : skipN ts (c :: r) = 0 := by
  unfold skipN
  rw [if_neg h, if_neg hc]

set_option maxHeartbeats 2000000 in
theorem skip_c {B br : Nat} {w : World} {c : CardL} {A : Option Addr} {cap i m : Nat} {ts : List TokL} {TA : Option Addr} {tc : Nat} (h : ScAt B br w c A cap i m ts TA tc) (hc : c.text.length ≤ 2000000) (ht : ts.length ≤ 2000000) (hi : i ≤ c.text.length) :
    Calls Tryz.prog 83 #[.pointer (some ⟨br, 0, none⟩)] w fun e w' => e = .returned (.tuple #[]) ∧
      ScAt B br w' c A cap (i + skipN ts (c.text.drop i)) m ts TA tc ∧ ModS br w w' := by
  obtain ⟨J, hJ⟩ : ∃ J, J = i + skipN ts (c.text.drop i) := ⟨_, rfl⟩
  rw [← hJ]
  obtain ⟨S, hS⟩ : ∃ S, S = mk c.text := ⟨_, rfl⟩
  have hSs : S.size = c.text.length := by rw [hS]; exact mk_size _
  have HS := hide hS
  have H0 := hide h
  have HJ := hide hJ
  have HR0 := hide (ModS.refl br w)
  clear h hS hJ
  go_enter Tryz.func83, Tryz.ntmps83
  go_wp2_with fail
  go_step3
  go_wp2_with fail
  go_step3
  go_wp2_with fail
  go_loopg [] (c.text.length - i) (fun k wr => ∃ j : Nat, k = c.text.length - j ∧ j ≤ c.text.length ∧ Hid (J = j + skipN ts (c.text.drop j)) ∧ ScAt B br wr c A cap j m ts TA tc ∧ ModS br w wr)
  case atStart => exact ⟨i, rfl, hi, HJ.out, H0.out, HR0.out⟩
  case round =>
    obtain ⟨j, rfl, hj, hJ, hs, hmod⟩ := hrel
    have k1 : wr.cell? ⟨br, 1, none⟩ = some (.string S) := by rw [HS.out]; exact hs.blk.cell 1
    have k3 : wr.cell? ⟨br, 3, none⟩ = some (.int .i64 (j : Int)) := hs.blk.cell 3
    have f3 := hs.blk.free 3
    have hbr := hs.blk.lt
    have HSC := hide hs
    have HMO := hide hmod
    clear hs hmod
    by_cases hlt : j < S.size
    · have hd : decide ((j : Int) < (S.size : Int)) = true := decide_eq_true (by omega)
      obtain ⟨b, hb⟩ : ∃ b, b = S[j] := ⟨_, rfl⟩
      have hdr : Hid (c.text.drop j = b :: c.text.drop (j + 1)) := by
        have : b = c.text[j]'(by omega) := by rw [hb]; have := HS.out; subst this; rfl
        unfold Hid; rw [this]; exact drop_get _ _ (by omega)
      by_cases h32 : b = 32
      · have hq : ((S[j].toNat : Int) == 32) = true := by rw [← hb]; exact byte_eq _ 32 h32
        have HJ2 : Hid (J = (j + 1) + skipN ts (c.text.drop (j + 1))) := by unfold Hid; rw [hJ.out, hdr.out, h32, skipN_sp]; omega
        clear h32 hb hdr hJ
        go_wp2_with fail
        go_quiet (fail)
        go_wp2_with fail
        go_quiet (fail)
        go_wp2_with fail
        go_roundg (c.text.length - (j + 1))
        case measure => omega
        case rel => exact ⟨j + 1, rfl, by omega, HJ2.out, (HSC.out.drewN _).seti (j + 1), (HMO.out.drewN _).set 3 _⟩
      · have hq : ((S[j].toNat : Int) == 32) = false := by rw [← hb]; exact byte_ne _ 32 h32
        by_cases hcs : b = 44 ∨ b = 59
        · have HE : Hid (∀ w1, Below wr.heap.size wr w1 → Calls Tryz.prog 105 #[.pointer (some ⟨br, 0, none⟩), .int .i64 ((j : Int) + 1)] w1 fun e w' => e = .returned (.bool (endsL (c.text.drop (j + 1)))) ∧ Below w1.heap.size w1 w') := fun w1 hb1 => ends_c (HSC.out.below hb1) hc (j + 1) (by omega)
          have HP : Hid (∀ w1, Below wr.heap.size wr w1 → Calls Tryz.prog 106 #[.pointer (some ⟨br, 0, none⟩)] w1 fun e w' => e = .returned (.bool (picL ts (c.text.drop j))) ∧ Below w1.heap.size w1 w') := fun w1 hb1 => atPicture_c (HSC.out.below hb1) ht hc hj
          obtain ⟨en, hen⟩ : ∃ en, en = endsL (c.text.drop (j + 1)) := ⟨_, rfl⟩
          obtain ⟨pc, hpc⟩ : ∃ pc, pc = picL ts (c.text.drop j) := ⟨_, rfl⟩
          rw [← hen] at HE
          rw [← hpc] at HP
          have HEN := hide hen
          have HPC := hide hpc
          have H44 : Hid (b = 44 ∨ b = 59) := hcs
          have hcases : ((S[j].toNat : Int) == 44) = true ∨ ((S[j].toNat : Int) == 44) = false ∧ ((S[j].toNat : Int) == 59) = true := by
            rw [← hb]
            rcases hcs with e | e
            · exact .inl (byte_eq _ 44 e)
            · exact .inr ⟨by rw [e]; rfl, byte_eq _ 59 e⟩
          have H32 := hide h32
          clear hen hpc hcs hb h32
          rcases hcases with q44 | ⟨q44, q59⟩
          · skip
            go_wp2_with fail
            go_quiet (fail)
            go_wp2_with fail
            go_quiet (fail)
            go_wp2_with fail
            refine (HE.out _ (below_drewN (Below.refl _ _) _)).mono ?_
            rintro e w2 ⟨rfl, hb2⟩
            have HB2 : Hid (Below wr.heap.size wr w2) := (below_drewN (Below.refl wr.heap.size wr) _).trans hb2
            clear hb2
            cases en
            · have HJ2 : Hid (J = j) := by
                unfold Hid; rw [hJ.out, hdr.out, skipN_no _ _ _ H32.out H44.out (by rw [← HEN.out]; rfl)]; omega
              go_wp2_with fail
              rw [Exit.noGoto_normal]
              go_end0
              exact ⟨rfl, by rw [HJ2.out]; exact HSC.out.below HB2.out, HMO.out.below HB2.out⟩
            · go_wp2_with fail
              refine (HP.out _ HB2.out).mono ?_
              rintro e w3 ⟨rfl, hb3⟩
              have HB3 : Hid (Below wr.heap.size wr w3) := HB2.out.trans (hb3.mono HB2.out.size)
              clear hb3
              cases pc
              · have HJ2 : Hid (J = (j + 1) + skipN ts (c.text.drop (j + 1))) := by
                  unfold Hid; rw [hJ.out, hdr.out, skipN_yes _ _ _ H32.out H44.out (by rw [← HEN.out, ← hdr.out, ← HPC.out]; rfl)]; omega
                have k3' : w3.cell? ⟨br, 3, none⟩ = some (.int .i64 (j : Int)) := (HSC.out.below HB3.out).blk.cell 3
                have f3' := (HSC.out.below HB3.out).blk.free 3
                have hbr' := (HSC.out.below HB3.out).blk.lt
                go_wp2_with fail
                go_roundg (c.text.length - (j + 1))
                case measure => omega
                case rel => exact ⟨j + 1, rfl, by omega, HJ2.out, (HSC.out.below HB3.out).seti (j + 1), (HMO.out.below HB3.out).set 3 _⟩
              · have HJ2 : Hid (J = j) := by
                  unfold Hid; rw [hJ.out, hdr.out, skipN_no _ _ _ H32.out H44.out (by rw [← HEN.out, ← hdr.out, ← HPC.out]; rfl)]; omega
                go_wp2_with fail
                rw [Exit.noGoto_normal]
                go_end0
                exact ⟨rfl, by rw [HJ2.out]; exact HSC.out.below HB3.out, HMO.out.below HB3.out⟩
          · skip
            go_wp2_with fail
            go_quiet (fail)
            go_wp2_with fail
            go_quiet (fail)
            go_wp2_with fail
            refine (HE.out _ (below_drewN (Below.refl _ _) _)).mono ?_
            rintro e w2 ⟨rfl, hb2⟩
            have HB2 : Hid (Below wr.heap.size wr w2) := (below_drewN (Below.refl wr.heap.size wr) _).trans hb2
            clear hb2
            cases en
            · have HJ2 : Hid (J = j) := by
                unfold Hid; rw [hJ.out, hdr.out, skipN_no _ _ _ H32.out H44.out (by rw [← HEN.out]; rfl)]; omega
              go_wp2_with fail
              rw [Exit.noGoto_normal]
              go_end0
              exact ⟨rfl, by rw [HJ2.out]; exact HSC.out.below HB2.out, HMO.out.below HB2.out⟩
            · go_wp2_with fail
              refine (HP.out _ HB2.out).mono ?_
              rintro e w3 ⟨rfl, hb3⟩
              have HB3 : Hid (Below wr.heap.size wr w3) := HB2.out.trans (hb3.mono HB2.out.size)
              clear hb3
              cases pc
              · have HJ2 : Hid (J = (j + 1) + skipN ts (c.text.drop (j + 1))) := by
                  unfold Hid; rw [hJ.out, hdr.out, skipN_yes _ _ _ H32.out H44.out (by rw [← HEN.out, ← hdr.out, ← HPC.out]; rfl)]; omega
                have k3' : w3.cell? ⟨br, 3, none⟩ = some (.int .i64 (j : Int)) := (HSC.out.below HB3.out).blk.cell 3
                have f3' := (HSC.out.below HB3.out).blk.free 3
                have hbr' := (HSC.out.below HB3.out).blk.lt
                go_wp2_with fail
                go_roundg (c.text.length - (j + 1))
                case measure => omega
                case rel => exact ⟨j + 1, rfl, by omega, HJ2.out, (HSC.out.below HB3.out).seti (j + 1), (HMO.out.below HB3.out).set 3 _⟩
              · have HJ2 : Hid (J = j) := by
                  unfold Hid; rw [hJ.out, hdr.out, skipN_no _ _ _ H32.out H44.out (by rw [← HEN.out, ← hdr.out, ← HPC.out]; rfl)]; omega
                go_wp2_with fail
                rw [Exit.noGoto_normal]
                go_end0
                exact ⟨rfl, by rw [HJ2.out]; exact HSC.out.below HB3.out, HMO.out.below HB3.out⟩
        · have q44 : ((S[j].toNat : Int) == 44) = false := by rw [← hb]; exact byte_ne _ 44 (fun e => hcs (.inl e))
          have q59 : ((S[j].toNat : Int) == 59) = false := by rw [← hb]; exact byte_ne _ 59 (fun e => hcs (.inr e))
          have HJ2 : Hid (J = j) := by unfold Hid; rw [hJ.out, hdr.out, skipN_other _ _ _ h32 hcs]; omega
          clear h32 hcs hb hdr hJ
          go_wp2_with fail
          go_quiet (fail)
          go_wp2_with fail
          go_quiet (fail)
          go_wp2_with fail
          rw [Exit.noGoto_normal]
          go_end0
          exact ⟨rfl, by rw [HJ2.out]; exact HSC.out.drewN _, HMO.out.drewN _⟩
    · have hd : decide ((j : Int) < (S.size : Int)) = false := decide_eq_false (by omega)
      obtain rfl : j = c.text.length := by omega
      have HJ2 : Hid (J = c.text.length) := by unfold Hid; rw [hJ.out, List.drop_length]; rfl
      clear hJ
      go_wp2_with fail
      go_quiet (fail)
      go_wp2_with fail
      rw [Exit.noGoto_normal]
      go_end0
      exact ⟨rfl, by rw [HJ2.out]; exact HSC.out.drewN _, HMO.out.drewN _⟩
end Go.Proofs.YtghnffdjdjlomaaGreatDoor

/-! CONTRACT of next (layer 3, tokens). -/
namespace Go.Proofs.YtghnffdjdjlomaaGreatDoor
open Go.RowKit Go.Shelf

theorem resN_shape (r : NextL) : ∃ K X N E, resN r = tokR K X N E := by
  cases r with
  | error e => exact ⟨0, ⟨#[]⟩, 0, e, rfl⟩
  | ok t => obtain ⟨k, x, n⟩ := t; exact ⟨k, mk x, (n : Nat), 0, rfl⟩
theorem wrd_ascii (b : UInt8) (h : wrdS.contains b = true) : (up b).toNat < 128 := by
  have : b ∈ wrdS := by simpa using h
  revert this
  unfold wrdS up
  simp only [List.mem_cons, List.not_mem_nil, or_false]
  intro h
  rcases h with rfl | rfl | rfl | rfl | rfl | rfl | rfl | rfl | rfl | rfl | rfl | rfl | rfl | rfl | rfl | rfl | rfl | rfl | rfl | rfl | rfl | rfl | rfl | rfl | rfl | rfl | rfl | rfl | rfl | rfl | rfl | rfl | rfl | rfl | rfl | rfl | rfl | rfl | rfl | rfl | rfl | rfl | rfl | rfl | rfl | rfl | rfl | rfl | rfl | rfl | rfl | rfl | rfl | rfl | rfl | rfl | rfl | rfl | rfl | rfl | rfl | rfl | rfl <;> decide
theorem lenL_take (l cs : List UInt8) : ∀ b ∈ l.take (lenL l cs), cs.contains b = true := by
  unfold lenL Lib.trimLeftS
  induction l with
  | nil => simp
  | cons c r ih =>
    intro b hb
    by_cases hc : cs.contains c = true
    · rw [List.dropWhile_cons_of_pos hc] at hb
      have h1 := (List.dropWhile_suffix (cs.contains ·) (l := r)).length_le
      rw [show (c :: r).length - (r.dropWhile (cs.contains ·)).length = (r.length - (r.dropWhile (cs.contains ·)).length) + 1 by rw [List.length_cons]; omega, List.take_succ_cons] at hb
      rcases List.mem_cons.1 hb with rfl | hb
      · exact hc
      · exact ih b hb
    · rw [List.dropWhile_cons_of_neg hc, Nat.sub_self] at hb
      simp at hb

set_option maxHeartbeats 1000000 in
set_option maxRecDepth 100000 in
theorem next_c {B br : Nat} {w : World} {c : CardL} {A : Option Addr} {cap i m : Nat} {ts : List TokL} {TA : Option Addr} {tc : Nat} (h : ScAt B br w c A cap i m ts TA tc) (hc : c.text.length ≤ 2000000) (ht : ts.length ≤ 2000000) (hi : i < c.text.length)
    (hsp : c.text.getD i 0 ≠ 32) (hm : MaxI w) :
    Calls Tryz.prog 84 #[.pointer (some ⟨br, 0, none⟩)] w fun e w' => e = .returned (resN (nextL ts c.text i)) ∧ Below w.heap.size w w' := by
  obtain ⟨R, hR⟩ : ∃ R, R = resN (nextL ts c.text i) := ⟨_, rfl⟩
  rw [← hR]
  have HB := hide (blk_new w #[.int .u8 0, .string ⟨#[]⟩, .int .i64 0, .int .i64 0, .bool false] 49)
  have HW := hide (below1 w tz)
  have H1 := hide (h.alloc tz)
  have HM1 := hide (hm.below (below1 w tz))
  obtain ⟨W0, hW0⟩ : ∃ W0, W0 = w.alloc tz := ⟨_, rfl⟩
  have hW0' : W0 = w.alloc (.cells #[.int .u8 0, .string ⟨#[]⟩, .int .i64 0, .int .i64 0, .bool false] 49) := hW0
  rw [← hW0'] at HB
  rw [← hW0] at HW H1 HM1
  obtain ⟨S, hS⟩ : ∃ S, S = mk c.text := ⟨_, rfl⟩
  have hSs : S.size = c.text.length := by rw [hS]; exact mk_size _
  have k1 : W0.cell? ⟨br, 1, none⟩ = some (.string S) := by rw [hS]; exact H1.out.blk.cell 1
  have k3 : W0.cell? ⟨br, 3, none⟩ = some (.int .i64 (i : Int)) := H1.out.blk.cell 3
  have hbr := H1.out.blk.lt
  have his : i ≤ S.size := by omega
  have hib : i ≤ 2000000 := by omega
  obtain ⟨rest, hrest⟩ : ∃ rest, rest = c.text.drop i := ⟨_, rfl⟩
  obtain ⟨T, hT⟩ : ∃ T, T = S.extract i S.size := ⟨_, rfl⟩
  have hTd : T.data.toList = rest := by rw [hT, drop_ext, hrest, hS]; rfl
  have hTs : T.size = c.text.length - i := by rw [hT, ext_size, hSs]
  have hT0 : 0 < T.size := by omega
  have hTl : T.size ≤ 2000000 := by omega
  have HT : Hid (S.extract i S.size = T) := hT.symm
  have hg0 : rest.getD 0 0 = T[0] := by rw [← hTd]; exact getD_at T 0 hT0
  have hc0 : rest.getD 0 0 ≠ 32 := by rw [hrest]; simpa [List.getD_eq_getElem?_getD] using hsp
  obtain ⟨pc, hpc⟩ : ∃ pc, pc = picL ts rest := ⟨_, rfl⟩
  have HPC : Hid (∀ w1, Below W0.heap.size W0 w1 → Calls Tryz.prog 106 #[.pointer (some ⟨br, 0, none⟩)] w1 fun e w' => e = .returned (.bool pc) ∧ Below w1.heap.size w1 w') := fun w1 hb => by
    rw [hpc, hrest]; exact atPicture_c (H1.out.below hb) ht hc (by omega)
  obtain ⟨c0, hc0'⟩ : ∃ c0, c0 = T[0] := ⟨_, rfl⟩
  obtain ⟨pp, hpp⟩ : ∃ pp, pp = Lib.hasPrefix rest [46] := ⟨_, rfl⟩
  have HPP : Hid (∀ w1, Calls Tryz.prog 61 #[.string T, .string ⟨#[46]⟩] w1 fun e w' => e = .returned (.bool pp) ∧ w1 = w') := fun w1 => by
    rw [hpp, ← hTd]; exact (Tryz.strings_HasPrefix T ⟨#[46]⟩ w1).mono fun _ _ h => ⟨h.1, h.2.symm⟩
  obtain ⟨en, hen⟩ : ∃ en, en = endsL (c.text.drop (i + 1)) := ⟨_, rfl⟩
  have HEN : Hid (∀ w1, Below W0.heap.size W0 w1 → Calls Tryz.prog 105 #[.pointer (some ⟨br, 0, none⟩), .int .i64 ((i : Int) + 1)] w1 fun e w' => e = .returned (.bool en) ∧ Below w1.heap.size w1 w') := fun w1 hb => by
    rw [hen]; exact ends_c (H1.out.below hb) hc (i + 1) (by omega)
  obtain ⟨pe, hpe⟩ : ∃ pe, pe = Lib.hasPrefix rest [61, 61] := ⟨_, rfl⟩
  have HPE : Hid (∀ w1, Calls Tryz.prog 61 #[.string T, .string ⟨#[61, 61]⟩] w1 fun e w' => e = .returned (.bool pe) ∧ w1 = w') := fun w1 => by
    rw [hpe, ← hTd]; exact (Tryz.strings_HasPrefix T ⟨#[61, 61]⟩ w1).mono fun _ _ h => ⟨h.1, h.2.symm⟩
  obtain ⟨sp, hsp'⟩ : ∃ sp, sp = sepL c.text i := ⟨_, rfl⟩
  have HSP : Hid (∀ w1, Below W0.heap.size W0 w1 → Calls Tryz.prog 111 #[.pointer (some ⟨br, 0, none⟩)] w1 fun e w' => e = .returned (.bool sp) ∧ Below w1.heap.size w1 w') := fun w1 hb => by
    rw [hsp']; exact separated_c (H1.out.below hb) hc hi
  obtain ⟨n1, hn1⟩ : ∃ n1, n1 = numN rest sp := ⟨_, rfl⟩
  have hn1l : n1 ≤ T.size := by rw [hn1, ← len_data, hTd]; exact numN_le _ _
  have HN1 : Hid (∀ w1, Calls Tryz.prog 110 #[.string T, .bool sp] w1 fun e w' => e = .returned (.int .i64 (n1 : Int)) ∧ Below w1.heap.size w1 w') := fun w1 => by
    rw [hn1, ← hTd]; exact numberLength_c T sp w1 hTl hT0
  obtain ⟨n2, hn2⟩ : ∃ n2, n2 = lenL rest wrdS := ⟨_, rfl⟩
  have hn2l : n2 ≤ T.size := by rw [hn2, ← len_data, hTd]; exact lenL_le _ _
  have HN2 : Hid (∀ w1, Calls Tryz.prog 113 #[.string T, .string wrdB] w1 fun e w' => e = .returned (.int .i64 (n2 : Int)) ∧ Below w1.heap.size w1 w') := fun w1 => by
    rw [hn2, ← hTd]; exact wrd_c T w1 hTl
  have HRR : Hid (R = resN (if pc then pictureL rest else if c0 = 34 then quoteL rest else if pp && en then .ok (6, [46], 1) else if pe then .ok (7, [61, 61], 2) else if 0 < n1 then numberL (rest.take n1) (rest.drop n1) else if 0 < n2 ∧ c0 ≠ 45 then wordL ((rest.take n2).map up) else signL rest)) := by
    unfold Hid; rw [hR]; unfold nextL; simp only [← hrest, ← hpc, hg0, ← hc0', ← hpp, ← hen, ← hpe, ← hsp', ← hn1, ← hn2]
  have HTD := hide hTd
  have HC0 := hide hc0
  have HN2D := hide hn2
  clear h hR hm hS hSs hrest hT hTd hTs hpc hpp hen hpe hsp' hn1 hn2 hg0 hc0 hsp hi ht
  go_enter Tryz.func84, Tryz.ntmps84
  go_wp2_with fail
  rw [← hW0']
  clear hW0 hW0'
  go_quiet (fail)
  go_wp2_with fail
  rw [HT.out]
  have HQ0 : Hid (Below W0.heap.size W0 (W0.drewN nq)) := below_drewN (Below.refl _ _) nq
  refine (HPC.out _ HQ0.out).mono ?_
  rintro e w1 ⟨rfl, hb1⟩
  have HQ1 : Hid (Below W0.heap.size W0 w1) := HQ0.out.trans (hb1.mono HQ0.out.size)
  clear hb1 k1 k3
  cases pc
  case true =>
    have HRx : Hid (R = resN (pictureL T.data.toList)) := by unfold Hid; rw [HRR.out, HTD.out]; rfl
    obtain ⟨K, X, N, E, hres⟩ := resN_shape (pictureL T.data.toList)
    have HRe : Hid (R = tokR K X N E) := by unfold Hid; rw [← hres]; exact HRx.out
    have HC := hide (fun (w1 : World) (hb1 : Below W0.heap.size W0 w1) => picture_c T w1 hTl (by rw [HTD.out]; exact HC0.out) hT0 (HM1.out.below hb1))
    rw [hres] at HC
    clear hres HRx
    go_wp2_with fail
    refine (HC.out _ HQ1.out).mono ?_
    rintro e wz ⟨rfl, hbz⟩
    obtain ⟨⟨k0, k1, k2, k3, k4⟩, ⟨f0, f1, f2, f3, f4⟩, hlt⟩ := (blk_kept hbz (HB.out.mods (Mods.of_below HQ1.out) (fun e => e))).five
    have HWz := hide (HW.out.trans ((HQ1.out.trans (hbz.mono HQ1.out.size)).mono HW.out.size))
    clear hbz
    go_wp2_with fail
    refine bodyPost_ret (v := tokR K X N E) (by simp [results, Tryz.results84, go_sem, k0, k1, k2, k3, k4, hlt]) rfl ⟨by rw [HRe.out], ?_⟩
    exact below_set5 HWz.out (Nat.le_refl _) _ _ _ _ _
  case false =>
    have HRR1 : Hid (R = resN (if c0 = 34 then quoteL rest else if pp && en then .ok (6, [46], 1) else if pe then .ok (7, [61, 61], 2) else if 0 < n1 then numberL (rest.take n1) (rest.drop n1) else if 0 < n2 ∧ c0 ≠ 45 then wordL ((rest.take n2).map up) else signL rest)) := HRR.out
    clear HRR
    by_cases h34 : c0 = 34
    · have HRx : Hid (R = resN (quoteL T.data.toList)) := by unfold Hid; rw [HRR1.out, if_pos h34, HTD.out]
      have hq : ((T[0].toNat : Int) == 34) = true := by rw [← hc0']; exact byte_eq _ 34 h34
      clear h34 HRR1 hc0'
      obtain ⟨K, X, N, E, hres⟩ := resN_shape (quoteL T.data.toList)
      have HRe : Hid (R = tokR K X N E) := by unfold Hid; rw [← hres]; exact HRx.out
      have HC := hide (fun (w1 : World) (hb1 : Below W0.heap.size W0 w1) => quote_c T w1 hTl hT0 (HM1.out.below hb1))
      rw [hres] at HC
      clear hres HRx
      go_wp2_with fail
      refine (HC.out _ HQ1.out).mono ?_
      rintro e wz ⟨rfl, hbz⟩
      obtain ⟨⟨k0, k1, k2, k3, k4⟩, ⟨f0, f1, f2, f3, f4⟩, hlt⟩ := (blk_kept hbz (HB.out.mods (Mods.of_below HQ1.out) (fun e => e))).five
      have HWz := hide (HW.out.trans ((HQ1.out.trans (hbz.mono HQ1.out.size)).mono HW.out.size))
      clear hbz
      go_wp2_with fail
      refine bodyPost_ret (v := tokR K X N E) (by simp [results, Tryz.results84, go_sem, k0, k1, k2, k3, k4, hlt]) rfl ⟨by rw [HRe.out], ?_⟩
      exact below_set5 HWz.out (Nat.le_refl _) _ _ _ _ _
    · have hq : ((T[0].toNat : Int) == 34) = false := by rw [← hc0']; exact byte_ne _ 34 h34
      have HRR2 : Hid (R = resN (if pp && en then .ok (6, [46], 1) else if pe then .ok (7, [61, 61], 2) else if 0 < n1 then numberL (rest.take n1) (rest.drop n1) else if 0 < n2 ∧ c0 ≠ 45 then wordL ((rest.take n2).map up) else signL rest)) := by unfold Hid; rw [HRR1.out, if_neg h34]
      have HC45 : Hid (c0 = T[0]) := hc0'
      clear h34 HRR1 hc0'
      obtain ⟨t35, ht35⟩ : ∃ t35, t35 = (pp && en) := ⟨_, rfl⟩
      rw [← ht35] at HRR2
      go_upto_region 6 with fail
      go_cut [35] (fun s35 wx => s35 = .bool t35 ∧ Below W0.heap.size W0 wx)
      case first =>
        cases pp
        · have HT35 : Hid (t35 = false) := by unfold Hid; rw [ht35]; rfl
          clear ht35
          go_wp2_with fail
          refine (HPP.out _).mono ?_
          rintro e w2 ⟨rfl, rfl⟩
          go_wp2_with fail
          go_meet
          exact ⟨by rw [HT35.out], HQ1.out⟩
        · have HT35 : Hid (t35 = en) := by unfold Hid; rw [ht35]; rfl
          have k3' : w1.cell? ⟨br, 3, none⟩ = some (.int .i64 (i : Int)) := (H1.out.below HQ1.out).blk.cell 3
          have hbr' := (H1.out.below HQ1.out).blk.lt
          clear ht35
          go_wp2_with fail
          refine (HPP.out _).mono ?_
          rintro e w2 ⟨rfl, rfl⟩
          go_wp2_with fail
          refine (HEN.out _ HQ1.out).mono ?_
          rintro e w2 ⟨rfl, hb2⟩
          have HQ2 : Hid (Below W0.heap.size W0 w2) := HQ1.out.trans (hb2.mono HQ1.out.size)
          clear hb2
          go_wp2_with fail
          go_meet
          exact ⟨by rw [HT35.out], HQ2.out⟩
      case rest =>
        obtain ⟨rfl, hbq⟩ := hcut
        have HQ2 : Hid (Below W0.heap.size W0 wc) := hbq
        clear hbq ht35 HPP HEN HQ1 HQ0
        cases t35
        case true =>
          have HRe : Hid (R = tokR 6 ⟨#[46]⟩ 1 0) := by unfold Hid; rw [HRR2.out]; rfl
          go_wp2_with fail
          refine (token_c 6 ⟨#[46]⟩ _ (by decide)).mono ?_
          rintro e wz ⟨rfl, hbz⟩
          obtain ⟨⟨k0, k1, k2, k3, k4⟩, ⟨f0, f1, f2, f3, f4⟩, hlt⟩ := (blk_kept hbz (HB.out.mods (Mods.of_below HQ2.out) (fun e => e))).five
          have HWz := hide (HW.out.trans ((HQ2.out.trans (hbz.mono HQ2.out.size)).mono HW.out.size))
          clear hbz
          go_wp2_with fail
          refine bodyPost_ret (v := tokR 6 ⟨#[46]⟩ 1 0) (by simp [results, Tryz.results84, go_sem, k0, k1, k2, k3, k4, hlt]) rfl ⟨by rw [HRe.out], ?_⟩
          exact below_set5 HWz.out (Nat.le_refl _) _ _ _ _ _
        case false =>
          have HRR3 : Hid (R = resN (if pe then .ok (7, [61, 61], 2) else if 0 < n1 then numberL (rest.take n1) (rest.drop n1) else if 0 < n2 ∧ c0 ≠ 45 then wordL ((rest.take n2).map up) else signL rest)) := HRR2.out
          clear HRR2
          go_wp2_with fail
          refine (HPE.out _).mono ?_
          rintro e w2 ⟨rfl, rfl⟩
          cases pe
          case true =>
            have HRe : Hid (R = tokR 7 ⟨#[61, 61]⟩ 2 0) := by unfold Hid; rw [HRR3.out]; rfl
            go_wp2_with fail
            refine (token_c 7 ⟨#[61, 61]⟩ _ (by decide)).mono ?_
            rintro e wz ⟨rfl, hbz⟩
            obtain ⟨⟨k0, k1, k2, k3, k4⟩, ⟨f0, f1, f2, f3, f4⟩, hlt⟩ := (blk_kept hbz (HB.out.mods (Mods.of_below HQ2.out) (fun e => e))).five
            have HWz := hide (HW.out.trans ((HQ2.out.trans (hbz.mono HQ2.out.size)).mono HW.out.size))
            clear hbz
            go_wp2_with fail
            refine bodyPost_ret (v := tokR 7 ⟨#[61, 61]⟩ 2 0) (by simp [results, Tryz.results84, go_sem, k0, k1, k2, k3, k4, hlt]) rfl ⟨by rw [HRe.out], ?_⟩
            exact below_set5 HWz.out (Nat.le_refl _) _ _ _ _ _
          case false =>
            have HRR4 : Hid (R = resN (if 0 < n1 then numberL (rest.take n1) (rest.drop n1) else if 0 < n2 ∧ c0 ≠ 45 then wordL ((rest.take n2).map up) else signL rest)) := HRR3.out
            clear HRR3
            go_wp2_with fail
            refine (HSP.out _ HQ2.out).mono ?_
            rintro e w3 ⟨rfl, hb3⟩
            have HQ3 : Hid (Below W0.heap.size W0 w3) := HQ2.out.trans (hb3.mono HQ2.out.size)
            clear hb3
            go_wp2_with fail
            refine (HN1.out _).mono ?_
            rintro e w4 ⟨rfl, hb4⟩
            have HQ4 : Hid (Below W0.heap.size W0 w4) := HQ3.out.trans (hb4.mono HQ3.out.size)
            clear hb4 HQ3 HPC HSP HN1 HPE
            by_cases h1 : 0 < n1
            · have HRx : Hid (R = resN (numberL (T.extract 0 n1).data.toList (T.extract n1 T.size).data.toList)) := by
                unfold Hid; rw [HRR4.out, if_pos h1, drop_ext, ext_data, List.drop_zero, Nat.sub_zero, HTD.out]
              clear HRR4
              obtain ⟨K, X, N, E, hres⟩ := resN_shape (numberL (T.extract 0 n1).data.toList (T.extract n1 T.size).data.toList)
              have HRe : Hid (R = tokR K X N E) := by unfold Hid; rw [← hres]; exact HRx.out
              have HC := hide (fun (w1 : World) (hb1 : Below W0.heap.size W0 w1) => number_c (T.extract 0 n1) (T.extract n1 T.size) w1 (by simp; omega) (by rw [ext_size]; omega))
              rw [hres] at HC
              clear hres HRx
              have hw4 : br < w4.heap.size := by have := HQ4.out.size; omega
              go_wp2_with fail
              go_region_with (go_at_call 112; refine (HC.out _ (below_drewN HQ4.out 1)).mono ?_; rintro e wz ⟨rfl, hbz⟩; obtain ⟨⟨k0, k1, k2, k3, k4⟩, ⟨f0, f1, f2, f3, f4⟩, hlt⟩ := (blk_kept hbz (HB.out.mods (Mods.of_below (below_drewN HQ4.out 1)) (fun e => e))).five)
              have HWz := hide (HW.out.trans (((below_drewN HQ4.out 1).trans (hbz.mono (below_drewN HQ4.out 1).size)).mono HW.out.size))
              clear hbz
              go_wp2_with fail
              refine bodyPost_ret (v := tokR K X N E) (by simp [results, Tryz.results84, go_sem, k0, k1, k2, k3, k4, hlt]) rfl ⟨by rw [HRe.out], ?_⟩
              exact below_set5 HWz.out (Nat.le_refl _) _ _ _ _ _
            · have HRR5 : Hid (R = resN (if 0 < n2 ∧ c0 ≠ 45 then wordL ((rest.take n2).map up) else signL rest)) := by unfold Hid; rw [HRR4.out, if_neg h1]
              obtain rfl : n1 = 0 := by omega
              clear HRR4
              go_wp2_with fail
              refine (HN2.out _).mono ?_
              rintro e w5 ⟨rfl, hb5⟩
              have HQ5 : Hid (Below W0.heap.size W0 w5) := HQ4.out.trans (hb5.mono HQ4.out.size)
              clear hb5 HN2
              obtain ⟨t82, ht82⟩ : ∃ t82, t82 = (decide (0 < n2) && (c0 != 45)) := ⟨_, rfl⟩
              have HRR6 : Hid (R = resN (if t82 then wordL ((rest.take n2).map up) else signL rest)) := by
                unfold Hid; rw [HRR5.out, ht82]; simp only [Bool.and_eq_true, decide_eq_true_eq, bne_iff_ne]
              clear HRR5
              go_upto_region 14 with fail
              go_cut [82] (fun s82 wx => s82 = .bool t82 ∧ w5 = wx)
              case first =>
                by_cases h2 : 0 < n2
                · have HT82 : Hid (t82 = ((T[0].toNat : Int) != 45)) := by
                    unfold Hid; rw [ht82, decide_eq_true h2, HC45.out, Bool.true_and, bne, bne]; congr 1; exact (byte_beq _ 45).symm
                  clear ht82 HC45
                  go_wp2_with fail
                  go_meet
                  exact ⟨by rw [HT82.out], rfl⟩
                · obtain rfl : n2 = 0 := by omega
                  have HT82 : Hid (t82 = false) := by unfold Hid; rw [ht82]; rfl
                  clear ht82 HC45
                  go_wp2_with fail
                  go_meet
                  exact ⟨by rw [HT82.out], rfl⟩
              case rest =>
                obtain ⟨rfl, rfl⟩ := hcut
                clear ht82 HC45
                cases t82
                case true =>
                  obtain ⟨U, hU⟩ : ∃ U, U = mk ((rest.take n2).map up) := ⟨_, rfl⟩
                  have hUs : U.size = n2 := by rw [hU, mk_size, List.length_map, List.length_take, ← HTD.out, len_data]; omega
                  have HF : Hid (∀ w1, Calls Tryz.prog 115 #[.string (T.extract 0 n2)] w1 fun e w' => e = .returned (.string U) ∧ Below w1.heap.size w1 w') := fun w1 => by
                    have := Fold_c (T.extract 0 n2) w1 (by unfold maxLen; simp; omega)
                    rw [ext_data, List.drop_zero, Nat.sub_zero, HTD.out] at this
                    rw [hU]; exact this
                  have hasc : ∀ (j : Nat) b, U.data.toList[j]? = some b → b.toNat < 128 := fun j b hb => by
                    have hmem := List.mem_of_getElem? hb
                    rw [hU, mk_data] at hmem
                    obtain ⟨a, ha, rfl⟩ := List.mem_map.1 hmem
                    rw [HN2D.out] at ha
                    exact wrd_ascii a (lenL_take rest wrdS a ha)
                  have HRx : Hid (R = resN (wordL U.data.toList)) := by unfold Hid; rw [HRR6.out, hU]; rfl
                  have HASC := hide hasc
                  clear HRR6 hU hasc
                  obtain ⟨K, X, N, E, hres⟩ := resN_shape (wordL U.data.toList)
                  have HRe : Hid (R = tokR K X N E) := by unfold Hid; rw [← hres]; exact HRx.out
                  have HC := hide (fun (w1 : World) (hb1 : Below W0.heap.size W0 w1) => word_c U w1 (by omega) HASC.out)
                  rw [hres] at HC
                  clear hres HRx
                  have HUS := hide hUs
                  clear hUs
                  go_wp2_with fail
                  refine (HF.out _).mono ?_
                  rintro e w6 ⟨rfl, hb6⟩
                  have HQ6 : Hid (Below W0.heap.size W0 w6) := HQ5.out.trans (hb6.mono HQ5.out.size)
                  clear hb6
                  go_wp2_with fail
                  refine (HC.out _ HQ6.out).mono ?_
                  rintro e wz ⟨rfl, hbz⟩
                  obtain ⟨⟨k0, k1, k2, k3, k4⟩, ⟨f0, f1, f2, f3, f4⟩, hlt⟩ := (blk_kept hbz (HB.out.mods (Mods.of_below HQ6.out) (fun e => e))).five
                  have HWz := hide (HW.out.trans ((HQ6.out.trans (hbz.mono HQ6.out.size)).mono HW.out.size))
                  clear hbz
                  go_wp2_with fail
                  refine bodyPost_ret (v := tokR K X N E) (by simp [results, Tryz.results84, go_sem, k0, k1, k2, k3, k4, hlt]) rfl ⟨by rw [HRe.out], ?_⟩
                  exact below_set5 HWz.out (Nat.le_refl _) _ _ _ _ _
                case false =>
                  have HRx : Hid (R = resN (signL T.data.toList)) := by unfold Hid; rw [HRR6.out, HTD.out]; rfl
                  clear HRR6
                  obtain ⟨K, X, N, E, hres⟩ := resN_shape (signL T.data.toList)
                  have HRe : Hid (R = tokR K X N E) := by unfold Hid; rw [← hres]; exact HRx.out
                  have HC := hide (fun (w1 : World) (hb1 : Below W0.heap.size W0 w1) => sign_c T w1 hTl hT0)
                  rw [hres] at HC
                  clear hres HRx
                  go_wp2_with fail
                  refine (HC.out _ HQ5.out).mono ?_
                  rintro e wz ⟨rfl, hbz⟩
                  obtain ⟨⟨k0, k1, k2, k3, k4⟩, ⟨f0, f1, f2, f3, f4⟩, hlt⟩ := (blk_kept hbz (HB.out.mods (Mods.of_below HQ5.out) (fun e => e))).five
                  have HWz := hide (HW.out.trans ((HQ5.out.trans (hbz.mono HQ5.out.size)).mono HW.out.size))
                  clear hbz
                  go_wp2_with fail
                  refine bodyPost_ret (v := tokR K X N E) (by simp [results, Tryz.results84, go_sem, k0, k1, k2, k3, k4, hlt]) rfl ⟨by rw [HRe.out], ?_⟩
                  exact below_set5 HWz.out (Nat.le_refl _) _ _ _ _ _
end Go.Proofs.YtghnffdjdjlomaaGreatDoor
