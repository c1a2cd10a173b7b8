/-
  CONTRACT of Short (layer 6, pictures).
-/
import Derived.Test.YteceealibfemjaaGreatDoorParP
namespace Go.Proofs.YteceealibfemjaaGreatDoor
open Go.RowKit Go.Shelf

theorem grown_below (w : World) (k : Nat) (os : Array Obj) : Below w.heap.size w (Sort.grow (w.drewN k) os) :=
  ⟨rfl, rfl, rfl, by simp [Sort.grow, World.drewN], fun i hi => by
    show (w.heap ++ os)[i]? = w.heap[i]?
    exact Array.getElem?_append_left hi⟩
theorem Itoa_c (n : Nat) (w : World) (hn : n ≤ 100000) (he : EnvP w) : Calls Tryz.prog 7 #[.int .i64 (n : Int)] w fun e w' => e = .returned (.string (mk (Lib.decDigits n))) ∧ Below w.heap.size w w' := by
  refine (Tryz.strconv_Itoa (n : Int) (by omega) (by omega) w he.pow).mono ?_
  rintro e w' ⟨rfl, k, os, rfl⟩
  refine ⟨?_, grown_below w k os⟩
  unfold Lib.itoa
  rw [if_neg (by omega)]; rfl
set_option maxRecDepth 100000 in
set_option maxHeartbeats 4000000 in
theorem Short_c (s : ByteArray) (w : World) (hs : s.size ≤ 1000000) (he : EnvP w) :
    Calls Tryz.prog 6 #[.string s] w fun e w' => e = .returned (.tuple #[.string (mk (Pic.shoL (Pic.expL s.data.toList).1)), .int .i64 (Pic.expL s.data.toList).2]) ∧ Below w.heap.size w w' := by
  obtain ⟨x, hx⟩ : ∃ x, x = Pic.expL s.data.toList := ⟨_, rfl⟩
  have HEX := hide (Expand_c s w hs he)
  have hpl : x.1.length ≤ 256 := by
    by_cases h : x.2 = 0
    · rw [hx] at h ⊢; exact expL_small _ h
    · rw [hx] at h ⊢; rw [(expL_err _ h).1]; simp
  rw [← hx] at HEX ⊢
  have HE : Hid (∀ W, Below w.heap.size w W → EnvP W) := fun W hb => he.below hb
  obtain ⟨p, err⟩ := x
  simp only [] at hpl
  obtain ⟨R, hR⟩ : ∃ R, R = Pic.shoL p := ⟨_, rfl⟩
  obtain ⟨P, hP⟩ : ∃ P, P = mk p := ⟨_, rfl⟩
  have HCV : Hid (∀ W, ∃ cap C, P.size ≤ cap ∧ (convert 9 22 (.string P)).run Tryz.prog W = .ok (.slice (some ⟨W.heap.size, 0, none⟩) P.size cap) (W.drew.alloc (.cells C 5 (C.size, C.size + 1))) ∧ CRow (W.drew.alloc (.cells C 5 (C.size, C.size + 1))) W.heap.size cap P.data.toList) := fun W => crow_of_string W P
  have HPM := hide hP
  have hPs : P.size = p.length := by rw [hP, mk_sz]
  have HPs := hide hPs
  have HRR := hide hR
  show Calls Tryz.prog 6 #[.string s] w fun e w' => e = .returned (.tuple #[.string (mk (Pic.shoL p)), .int .i64 err]) ∧ Below w.heap.size w w'
  rw [← hR]
  clear hx he hR hP hPs
  go_enter Tryz.func6, Tryz.ntmps6
  go_wp2_with fail
  refine HEX.out.mono ?_
  show ∀ e w', _ ∧ _ → _
  rintro e w1 ⟨rfl, hb1⟩
  have HB1 := hide hb1
  obtain ⟨cap, C, hcap, hconv, hrow⟩ := HCV.out w1
  obtain ⟨W2, hW2⟩ : ∃ W2, W2 = w1.drew.alloc (.cells C 5 (C.size, C.size + 1)) := ⟨_, rfl⟩
  have hb2 : Below w1.heap.size w1 W2 := by rw [hW2]; exact (Below.refl _ w1).drew.alloc (Nat.le_refl _) _
  rw [← hW2] at hconv hrow
  rw [HPM.out, mk_data] at hrow
  rw [HPs.out] at hconv hcap
  rw [HPM.out] at hconv
  have HR2 := hide hrow.at'
  have HB2 : Hid (Below w.heap.size w W2) := HB1.out.trans (hb2.mono HB1.out.size)
  have HGG : Hid (w.heap.size ≤ w1.heap.size) := HB1.out.size
  clear hb1 hb2 hW2 hrow HEX HCV HB1
  go_wp2_with fail
  obtain ⟨g, hg⟩ : ∃ g, g = w1.heap.size := ⟨_, rfl⟩
  rw [← hg] at HR2 HGG ⊢
  clear hg hconv
  go_loopw [6, 7] (fun sv rv wr => ∃ done rs off k, sv = .string (mk done) ∧ rv = .slice (some ⟨g, off, none⟩) rs.length k ∧ rs.length ≤ k ∧ Hid (R = done ++ Pic.shoL rs) ∧ done.length + 6 * rs.length ≤ 1536 ∧ Hid (RowAt wr g off rs) ∧ Hid (Below w.heap.size w wr)) (fun _ rv _ => match rv with | .slice _ n _ => n | _ => 0)
  case atStart => exact ⟨[], p, 0, cap, rfl, rfl, hcap, HRR.out, by show 0 + 6 * p.length ≤ 1536; omega, HR2.out, HB2.out⟩
  case round =>
    obtain ⟨done, rs, off, k, rfl, rfl, hk, hRx, hlen, hrow, hb⟩ := hrel
    obtain ⟨W, rfl⟩ : ∃ W, W = wr := ⟨_, rfl⟩
    obtain ⟨D, hD⟩ : ∃ D, D = mk done := ⟨_, rfl⟩
    rw [← hD]
    have hDs : D.size = done.length := by rw [hD, mk_sz]
    cases rs with
    | nil =>
      have HR1 : Hid (R = done) := by unfold Hid; rw [hRx.out]; simp [Pic.shoL, Pic.runs]
      have HD := hide hD
      clear hD hDs hRx
      go_wp2_with fail
      go_ret2
      exact ⟨by rw [HR1.out, ← HD.out]; rfl, hb.out⟩
    | cons c r =>
      obtain ⟨n, hn⟩ : ∃ n, n = Pic.leadN (· == c) (c :: r) := ⟨_, rfl⟩
      have hn1 : 1 ≤ n := by rw [hn]; simp [Pic.leadN]
      have hnl : n ≤ (c :: r).length := by rw [hn]; exact Pic.leadN_le _ _
      obtain ⟨N, hN⟩ : ∃ N, N = (c :: r).length := ⟨_, rfl⟩
      have hsh := Pic.shoL_lead c r
      rw [← hn] at hsh
      have HR1 : Hid (R = done ++ (Pic.piece (c, n) ++ Pic.shoL ((c :: r).drop n))) := by unfold Hid; rw [hRx.out, hsh]
      have hpl6 : (Pic.piece (c, n)).length ≤ 6 := by
        rw [Pic.piece_len]; unfold Pic.cost
        split
        · omega
        · have := Pic.nd_le 2 n (by omega); omega
      have HEQ := hide (equal_c c W)
      have HLE : Hid (∀ W', Below W.heap.size W W' → ∀ b, ByBox W' b c → Calls Tryz.prog 18 #[.slice (some ⟨g, off, none⟩) N k, .func (.func 43) #[] #[.pointer (some ⟨b, 0, none⟩)]] W' fun e w' => e = .returned (.int .i64 (n : Int)) ∧ Below W'.heap.size W' w') := fun W' hb' b hbx => by
        have := lead_eq b c (some ⟨g, off, none⟩) k W'.heap.size (c :: r) W' (by omega) (hrow.out.below hb').sl (Nat.le_refl _) hbx
        rw [← hn, ← hN] at this
        exact this
      have cb : W.cell? ⟨g, off, none⟩ = some (.int .u8 (c.toNat : Int)) := hrow.out.2 0 c rfl
      have hdl : ((c :: r).drop n).length = N - n := by rw [List.length_drop, hN]
      have HDL := hide hdl
      have HD := hide hD
      have hDs2 : D.size ≤ 1536 := by omega
      have HLN : Hid (done.length + 6 * N ≤ 1536) := by unfold Hid; rw [hN]; exact hlen
      have hN0 : 0 < N := by rw [hN]; simp
      have hni1 : (1 : Int) ≤ (N : Int) := by omega
      rw [← hN] at hk hnl ⊢
      have hN256 : N ≤ 256 := by have := HLN.out; omega
      have HRWD : Hid (∀ W', Below W.heap.size W W' → RowAt W' g (off + n) ((c :: r).drop n)) := fun W' hb' => (hrow.out.below hb').drop n
      have HCV : Hid (∀ W', Below W.heap.size W W' → (convert 22 9 (.slice (some ⟨g, off, none⟩) 1 k)).run Tryz.prog W' = .ok (.string ⟨#[c]⟩) W') := fun W' hb' => by
        have hs : Sl W' W'.heap.size (some ⟨g, off, none⟩) [c] := .inr ⟨g, off, rfl, (hrow.out.below hb').1, fun j u hu => by
          cases j with
          | zero => simp at hu; subst hu; exact (hrow.out.below hb').2 0 c rfl
          | succ j => simp at hu⟩
        exact hs.text 1 k rfl
      have HGW := hide (hrow.out.1)
      clear hD hDs hRx hn hsh hdl hN hlen hrow
      go_wp2_with fail
      refine HEQ.out.mono ?_
      rintro e w3 ⟨rfl, hbox, hb3, hz3⟩
      have HB3 := hide hb3
      have HBX := hide hbox
      clear hb3 hbox hz3 HEQ
      go_wp2_with fail
      refine (HLE.out w3 HB3.out _ HBX.out).mono ?_
      rintro e w4 ⟨rfl, hb4⟩
      have HB4 : Hid (Below W.heap.size W w4) := HB3.out.trans (hb4.mono HB3.out.size)
      have hcv := HCV.out w4 HB4.out
      clear hb4 HLE HBX HB3 HCV cb
      have HBB := hide (hb.out.trans (HB4.out.mono hb.out.size))
      by_cases h5 : n < 5
      · have hd5 : decide ((n : Int) < 5) = true := decide_eq_true (by omega)
        have HPC : Hid (Pic.piece (c, n) = List.replicate n c) := by unfold Hid Pic.piece; exact if_pos h5
        clear h5
        go_wp2_with fail
        refine (Repeat_c c n _ (by omega)).mono ?_
        rintro e w5 ⟨rfl, hb5⟩
        have HB5 : Hid (Below W.heap.size W w5) := HB4.out.trans (hb5.mono HB4.out.size)
        obtain ⟨T, hT⟩ : ∃ T, T = mk (List.replicate n c) := ⟨_, rfl⟩
        rw [← hT]
        have hTs : T.size ≤ 256 := by rw [hT, mk_sz, List.length_replicate]; omega
        have HDT : Hid (D ++ T = mk (done ++ Pic.piece (c, n))) := by unfold Hid; rw [HD.out, hT, app_mk, HPC.out]
        have HB5' := hide (hb.out.trans (HB5.out.mono hb.out.size))
        clear hb5 hT hcv
        by_cases hnk : n = k
        · have hz : ((c :: r).drop n).length = 0 := by rw [HDL.out]; omega
          have HZ := hide hz
          clear hz
          go_wp2_with fail
          exact ⟨⟨done ++ Pic.piece (c, n), (c :: r).drop n, off, 0, by rw [HDT.out], by rw [HZ.out], by rw [HZ.out]; omega, by rw [HR1.out, List.append_assoc]; exact rfl, by rw [HZ.out, List.length_append]; have := HLN.out; omega, (HRWD.out w5 HB5.out).nil (List.eq_nil_of_length_eq_zero HZ.out), HB5'.out⟩, by show 0 < N; omega⟩
        · go_wp2_with fail
          exact ⟨⟨done ++ Pic.piece (c, n), (c :: r).drop n, off + n, k - n, by rw [HDT.out], by rw [HDL.out], by rw [HDL.out]; omega, by rw [HR1.out, List.append_assoc]; exact rfl, by rw [HDL.out, List.length_append]; have := HLN.out; omega, HRWD.out w5 HB5.out, HB5'.out⟩, by show N - n < N; omega⟩
      · have hd5 : decide ((n : Int) < 5) = false := decide_eq_false (by omega)
        have HPC : Hid (Pic.piece (c, n) = c :: 40 :: (Lib.decDigits n ++ [41])) := by unfold Hid Pic.piece; exact if_neg h5
        clear h5
        go_wp2_with fail
        refine (Itoa_c n _ (by omega) (HE.out _ HBB.out)).mono ?_
        rintro e w5 ⟨rfl, hb5⟩
        have HB5 : Hid (Below W.heap.size W w5) := HB4.out.trans (hb5.mono HB4.out.size)
        obtain ⟨T, hT⟩ : ∃ T, T = mk (Lib.decDigits n) := ⟨_, rfl⟩
        rw [← hT]
        have hTs : T.size ≤ 3 := by rw [hT, mk_sz, Pic.decDigits_len]; exact Pic.nd_le 2 n (by omega)
        have HDT : Hid (D ++ (⟨#[c]⟩ ++ ⟨#[40]⟩ ++ T ++ ⟨#[41]⟩) = mk (done ++ Pic.piece (c, n))) := by
          unfold Hid
          rw [HD.out, hT, HPC.out, show (⟨#[c]⟩ : ByteArray) = mk [c] from rfl, show (⟨#[40]⟩ : ByteArray) = mk [40] from rfl, show (⟨#[41]⟩ : ByteArray) = mk [41] from rfl, app_mk, app_mk, app_mk, app_mk]
          simp
        have HB5' := hide (hb.out.trans (HB5.out.mono hb.out.size))
        clear hb5 hT hcv
        by_cases hnk : n = k
        · have hz : ((c :: r).drop n).length = 0 := by rw [HDL.out]; omega
          have HZ := hide hz
          clear hz
          go_wp2_with fail
          exact ⟨⟨done ++ Pic.piece (c, n), (c :: r).drop n, off, 0, by rw [HDT.out], by rw [HZ.out], by rw [HZ.out]; omega, by rw [HR1.out, List.append_assoc]; exact rfl, by rw [HZ.out, List.length_append]; have := HLN.out; omega, (HRWD.out w5 HB5.out).nil (List.eq_nil_of_length_eq_zero HZ.out), HB5'.out⟩, by show 0 < N; omega⟩
        · go_wp2_with fail
          exact ⟨⟨done ++ Pic.piece (c, n), (c :: r).drop n, off + n, k - n, by rw [HDT.out], by rw [HDL.out], by rw [HDL.out]; omega, by rw [HR1.out, List.append_assoc]; exact rfl, by rw [HDL.out, List.length_append]; have := HLN.out; omega, HRWD.out w5 HB5.out, HB5'.out⟩, by show N - n < N; omega⟩
end Go.Proofs.YteceealibfemjaaGreatDoor
