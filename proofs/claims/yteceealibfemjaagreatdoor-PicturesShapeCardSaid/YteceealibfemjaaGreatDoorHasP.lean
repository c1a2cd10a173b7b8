/-
  CONTRACT of has (layer 6, pictures): a picture has a form.
-/
import Derived.Test.YteceealibfemjaaGreatDoorExqP
import Derived.Test.YteceealibfemjaaGreatDoorPicF
namespace Go.Proofs.YteceealibfemjaaGreatDoor
open Go.RowKit Go.Shelf

/-- bytes in block g from place off on -/
def RowAt (w : World) (g off : Nat) (l : List UInt8) : Prop := g < w.heap.size ∧ ∀ (j : Nat) (u : UInt8), l[j]? = some u → w.cell? ⟨g, off + j, none⟩ = some (.int .u8 (u.toNat : Int))
theorem RowAt.below {w w' : World} {g off : Nat} {l : List UInt8} (h : RowAt w g off l) (hb : Below w.heap.size w w') : RowAt w' g off l :=
  ⟨Nat.lt_of_lt_of_le h.1 hb.size, fun j u hu => (hb.cell (p := ⟨g, off + j, none⟩) h.1).trans (h.2 j u hu)⟩
theorem RowAt.mods {M : Nat → Prop} {w w' : World} {g off : Nat} {l : List UInt8} (h : RowAt w g off l) (hm : Mods M w w') (hM : ¬ M g) : RowAt w' g off l :=
  ⟨Nat.lt_of_lt_of_le h.1 hm.size, fun j u hu => (hm.cell g (off + j) h.1 hM).trans (h.2 j u hu)⟩
theorem RowAt.drop {w : World} {g off : Nat} {l : List UInt8} (h : RowAt w g off l) (k : Nat) : RowAt w g (off + k) (l.drop k) :=
  ⟨h.1, fun j u hu => by rw [Nat.add_assoc]; exact h.2 (k + j) u (by rw [← List.getElem?_drop]; exact hu)⟩
theorem RowAt.sl {w : World} {g off : Nat} {l : List UInt8} (h : RowAt w g off l) : Sl w w.heap.size (some ⟨g, off, none⟩) l := .inr ⟨g, off, rfl, h.1, h.2⟩
theorem RowAt.nil {w : World} {g off off' : Nat} {l l' : List UInt8} (h : RowAt w g off l) (hl : l' = []) : RowAt w g off' l' := ⟨h.1, fun j u hu => by rw [hl] at hu; simp at hu⟩
theorem Row.at' {w : World} {g : Nat} {l : List UInt8} (h : Row w g l) : RowAt w g 0 l := ⟨h.1, fun j u hu => by rw [Nat.zero_add]; exact (h.2 j u hu).1⟩

theorem hasG_nil (f : Nat) (s : List UInt8) : Pic.hasG f [] s = s.isEmpty := by cases f <;> rfl
theorem trim_len (r p : List UInt8) : (Lib.trimPrefix r p).length ≤ r.length := by
  unfold Lib.trimPrefix
  split
  · rw [List.length_drop]; omega
  · exact Nat.le_refl _

set_option maxRecDepth 100000 in
set_option maxHeartbeats 4000000 in
theorem has_c (s form : ByteArray) (w : World) (hs : s.size ≤ 1000) (hf : form.size ≤ 1000) :
    Calls Tryz.prog 32 #[.string s, .string form] w fun e w' => e = .returned (.bool (Pic.hasL s.data.toList form.data.toList)) ∧ Below w.heap.size w w' := by
  obtain ⟨R, hR⟩ : ∃ R, R = Pic.hasL s.data.toList form.data.toList := ⟨_, rfl⟩
  rw [← hR]
  obtain ⟨sl, hsl⟩ : ∃ sl, sl = s.data.toList := ⟨_, rfl⟩
  obtain ⟨fl, hfl⟩ : ∃ fl, fl = form.data.toList := ⟨_, rfl⟩
  rw [← hsl, ← hfl] at hR
  obtain ⟨cap, C, hcap, hconv, hrow⟩ := row_of_string w s
  obtain ⟨W0, hW0⟩ : ∃ W0, W0 = w.drew.alloc (.cells C 5 (C.size, C.size + 1)) := ⟨_, rfl⟩
  have hb0 : Below w.heap.size w W0 := by rw [hW0]; exact (Below.refl _ w).drew.alloc (Nat.le_refl _) _
  have hr0 : RowAt W0 w.heap.size 0 sl := by rw [hW0, hsl]; exact hrow.at'
  have hfm : form = mk fl := by rw [hfl, mk_of]
  have hsz : s.size = sl.length := by rw [hsl, len_data]
  have hfz : fl.length ≤ 1000 := by rw [hfl, len_data]; exact hf
  have hsz' : sl.length ≤ 1000 := by omega
  rw [← hW0] at hconv
  rw [hsz] at hconv hcap
  have HB0 := hide hb0
  have HR0 := hide hr0
  have HFM := hide hfm
  have HRR := hide hR
  clear hb0 hr0 hfm hR hsl hfl hrow hW0 hsz hf hs
  go_enter Tryz.func32, Tryz.ntmps32
  go_wp2_with fail
  go_loopw [1, 5] (fun fv rv wr => ∃ fm rs f off k, fv = .string (mk fm) ∧ rv = .slice (some ⟨w.heap.size, off, none⟩) rs.length k ∧ Hid (fm.length ≤ f) ∧ rs.length ≤ k ∧ Hid (R = Pic.hasG f fm rs) ∧ rs.length ≤ 1000 ∧ fm.length ≤ 1000 ∧ Hid (RowAt wr w.heap.size off rs) ∧ Hid (Below w.heap.size w wr)) (fun fv _ _ => strSz fv)
  case atStart => exact ⟨fl, sl, fl.length, 0, cap, by rw [HFM.out], rfl, Nat.le_refl _, hcap, HRR.out, hsz', hfz, HR0.out, HB0.out⟩
  case round =>
    obtain ⟨fm, rs, f, off, k, rfl, rfl, hf, hk, hRx, hrl, hfl, hrow, hb⟩ := hrel
    obtain ⟨W, rfl⟩ : ∃ W, W = wr := ⟨_, rfl⟩
    obtain ⟨F, hF⟩ : ∃ F, F = mk fm := ⟨_, rfl⟩
    rw [← hF]
    have hFs : F.size = fm.length := by rw [hF, mk_sz]
    clear HFM HRR HR0 HB0 hcap hconv
    cases fm with
    | nil =>
      have hFe : F.toList.isEmpty = true := by rw [ByteArray.toList_eq, hF]; rfl
      have HR1 : Hid (R = rs.isEmpty) := by unfold Hid; rw [hRx.out, hasG_nil]
      have HLB := hide hb.out
      have he : (((rs.length : Nat) : Int) == 0) = rs.isEmpty := by cases rs with | nil => rfl | cons _ _ => simp; omega
      have HE := hide he
      clear hF hFs hRx he
      go_wp2_with fail
      go_ret
      exact ⟨ret_bool (by rw [HR1.out]; exact HE.out), hb.out⟩
    | cons c r =>
      obtain ⟨f, rfl⟩ : ∃ f', f = f' + 1 := ⟨f - 1, by have := hf.out; simp only [List.length_cons] at this; omega⟩
      have hFe : F.toList.isEmpty = false := by rw [ByteArray.toList_eq, hF]; rfl
      have hF1 : 1 ≤ F.size := by rw [hFs]; simp
      have hFm : F.size ≤ 1000 := by omega
      have hF1' : 0 < F.size := hF1
      have hF0 : F[0]'hF1' = c := by subst hF; rfl
      have hc2 : F.extract 1 F.size = mk r := by
        rw [extract_mk, hF, mk_data, mk_sz]
        show mk (r.take _) = mk r
        rw [List.take_of_length_le (by simp)]
      obtain ⟨n, hn⟩ : ∃ n, n = Pic.leadN (· == c) rs := ⟨_, rfl⟩
      have hnl : n ≤ rs.length := by rw [hn]; exact Pic.leadN_le _ _
      have HEQ := hide (equal_c c W)
      have HLE : Hid (∀ W', Below W.heap.size W W' → ∀ b, ByBox W' b c → Calls Tryz.prog 18 #[.slice (some ⟨w.heap.size, off, none⟩) rs.length k, .func (.func 43) #[] #[.pointer (some ⟨b, 0, none⟩)]] W' fun e w' => e = .returned (.int .i64 (n : Int)) ∧ Below W'.heap.size W' w') := fun W' hb' b hbx => by
        have := lead_eq b c (some ⟨w.heap.size, off, none⟩) k W'.heap.size rs W' (by omega) (hrow.out.below hb').sl (Nat.le_refl _) hbx
        rw [← hn] at this
        exact this
      obtain ⟨tp, htp⟩ : ∃ tp, tp = Lib.trimPrefix r [35] := ⟨_, rfl⟩
      obtain ⟨hp, hhp⟩ : ∃ hp, hp = Lib.hasPrefix r [35] := ⟨_, rfl⟩
      have HCP : Hid (∀ W', Calls Tryz.prog 29 #[.string (mk r), .string ⟨#[35]⟩] W' fun e w' => e = .returned (.tuple #[.string (mk tp), .bool hp]) ∧ W' = w') := fun W' => by
        refine (Tryz.strings_CutPrefix (mk r) ⟨#[35]⟩ W').mono fun e w' h => ⟨?_, h.2.symm⟩
        rw [h.1, htp, hhp, mk_data]; rfl
      have HX : Hid (R = if hp = true then Pic.hasG f tp (rs.drop n) else if n = 0 then false else Pic.hasG f tp (rs.drop 1)) := by
        unfold Hid
        rw [hRx.out, htp, hhp, hn]; rfl
      have HTL : Hid (tp.length ≤ r.length) := by unfold Hid; rw [htp]; exact trim_len _ _
      have HRL : Hid (r.length ≤ f ∧ r.length ≤ 999) := by have := hf.out; simp only [List.length_cons] at this hfl; exact ⟨by omega, by omega⟩
      have HFS : Hid (F.size = r.length + 1) := by unfold Hid; rw [hFs]; rfl
      clear hF hFs hRx hf hn htp hhp hfl
      go_wp2_with fail
      refine HEQ.out.mono ?_
      rintro e W1 ⟨rfl, hbox, hb1, hz1⟩
      have HB1 := hide hb1
      have HBX := hide hbox
      clear hb1 hbox hz1 HEQ
      go_wp2_with fail
      refine (HLE.out W1 HB1.out _ HBX.out).mono ?_
      rintro e W2 ⟨rfl, hb2⟩
      have HB2 : Hid (Below W.heap.size W W2) := HB1.out.trans (hb2.mono HB1.out.size)
      clear hb2 HLE HBX HB1
      go_wp2_with fail
      refine (HCP.out _).mono ?_
      rintro e w' ⟨rfl, rfl⟩
      clear HCP
      have HRW := hide (hrow.out.below HB2.out)
      have HBB := hide (hb.out.trans (HB2.out.mono hb.out.size))
      clear HB2 hrow
      cases hp with
      | true =>
        have HX1 : Hid (R = Pic.hasG f tp (rs.drop n)) := HX.out
        clear HX
        have hdl : (rs.drop n).length = rs.length - n := List.length_drop
        have HDL := hide hdl
        clear hdl
        have HRN : Hid (RowAt W2 w.heap.size (off + n) (rs.drop n)) := HRW.out.drop n
        by_cases hnk : n = k
        · have hdn : (rs.drop n).length = 0 := by rw [HDL.out]; omega
          have HN := hide hnk
          have HDN := hide hdn
          clear hdn
          go_wp2_with fail
          exact ⟨⟨tp, rs.drop n, f, off, 0, rfl, by rw [HDN.out], Nat.le_trans HTL.out HRL.out.1, by rw [HDN.out]; exact Nat.le_refl _, HX1.out, by rw [HDN.out]; omega, Nat.le_trans HTL.out (Nat.le_succ_of_le HRL.out.2), HRN.out.nil (List.eq_nil_of_length_eq_zero HDN.out), HBB.out⟩, by show (mk tp).size < F.size; rw [mk_sz, HFS.out]; exact Nat.lt_succ_of_le HTL.out⟩
        · go_wp2_with fail
          exact ⟨⟨tp, rs.drop n, f, off + n, k - n, rfl, by rw [HDL.out], Nat.le_trans HTL.out HRL.out.1, by rw [HDL.out]; omega, HX1.out, by rw [HDL.out]; omega, Nat.le_trans HTL.out (Nat.le_succ_of_le HRL.out.2), HRN.out, HBB.out⟩, by show (mk tp).size < F.size; rw [mk_sz, HFS.out]; exact Nat.lt_succ_of_le HTL.out⟩
      | false =>
        by_cases hn0 : n = 0
        · have HX1 : Hid (R = false) := by unfold Hid; rw [HX.out, if_neg (by simp), if_pos hn0]
          have hnz : ((n : Int) == 0) = true := by rw [hn0]; rfl
          have HN := hide hn0
          clear HX hn0
          go_wp2_with fail
          go_ret
          exact ⟨by rw [HX1.out]; rfl, HBB.out⟩
        · have HX1 : Hid (R = Pic.hasG f tp (rs.drop 1)) := by unfold Hid; rw [HX.out, if_neg (by simp), if_neg hn0]
          have hnz : ((n : Int) == 0) = false := beq_eq_false_iff_ne.2 (by omega)
          have hdl : (rs.drop 1).length = rs.length - 1 := List.length_drop
          have HDL := hide hdl
          have hr1 : 1 ≤ rs.length := by omega
          have HRN : Hid (RowAt W2 w.heap.size (off + 1) (rs.drop 1)) := HRW.out.drop 1
          clear hdl HX
          by_cases hnk : 1 = k
          · have hdn : (rs.drop 1).length = 0 := by rw [HDL.out]; omega
            have hk1 : k = 1 := hnk.symm
            have HDN := hide hdn
            clear hdn hnk
            go_wp2_with fail
            exact ⟨⟨tp, rs.drop 1, f, off, 0, rfl, by rw [HDN.out]; first | rfl | (congr 1; omega), Nat.le_trans HTL.out HRL.out.1, by rw [HDN.out]; exact Nat.le_refl _, HX1.out, by rw [HDN.out]; omega, Nat.le_trans HTL.out (Nat.le_succ_of_le HRL.out.2), HRN.out.nil (List.eq_nil_of_length_eq_zero HDN.out), HBB.out⟩, by show (mk tp).size < F.size; rw [mk_sz, HFS.out]; exact Nat.lt_succ_of_le HTL.out⟩
          · go_wp2_with fail
            exact ⟨⟨tp, rs.drop 1, f, off + 1, k - 1, rfl, by rw [HDL.out], Nat.le_trans HTL.out HRL.out.1, by rw [HDL.out]; omega, HX1.out, by rw [HDL.out]; omega, Nat.le_trans HTL.out (Nat.le_succ_of_le HRL.out.2), HRN.out, HBB.out⟩, by show (mk tp).size < F.size; rw [mk_sz, HFS.out]; exact Nat.lt_succ_of_le HTL.out⟩
end Go.Proofs.YteceealibfemjaaGreatDoor
