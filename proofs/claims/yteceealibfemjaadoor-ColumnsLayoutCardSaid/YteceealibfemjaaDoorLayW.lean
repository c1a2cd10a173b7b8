/-
  THE WALK of the law ColumnsLayout (layer 2, columns): two texts that are right.
-/
import Derived.Test.YteceealibfemjaaDoorWr3
import Derived.Test.YteceealibfemjaaDoorLayL
import Derived.Test.YteceealibfemjaaDoorWrtQ
import Derived.Test.YteceealibfemjaaDoorLayP
import Derived.Test.YteceealibfemjaaDoorLawF
import Derived.Deep.QuietTactic
import Derived.BigQuiet
import Derived.Lib.Strings
namespace Go.Proofs.YteceealibfemjaaDoor
open Go.RowKit Go.Shelf

theorem sz_mk (l : List UInt8) : (mk l).size = l.length := by show l.toArray.size = _; rw [List.size_toArray]
theorem ap_mk (a b : List UInt8) : mk a ++ mk b = mk (a ++ b) := by
  apply ByteArray.ext
  simp [mk]
theorem below_drewNc {B : Nat} {w w' : World} (h : Below B w w') (n : Nat) : Below B w (w'.drewN n) := ⟨h.os, h.tape, h.output, h.size, h.block⟩
/-- the front of a piece: its last byte says whether a literal is open -/
def FrOk (f : List UInt8) (op : Bool) : Prop := 1 ≤ f.length ∧ f.length ≤ 6 ∧ (f.getD (f.length - 1) 0 == 34) = op
theorem pieces_prefix (tot dn : List (List UInt8 × List UInt8)) (f r : List UInt8) (op : Bool) (h : tot = dn ++ piecesL f r op) : (dn ++ [(piecesL f r op).head (pieces_ne f r op)]) <+: tot := by
  rw [h, List.prefix_append_right_inj]
  obtain ⟨y, ys, he⟩ := List.exists_cons_of_ne_nil (pieces_ne f r op)
  simp only [he, List.head_cons]
  exact ⟨ys, rfl⟩
theorem nextFr (r f : List UInt8) (op : Bool) (k : Nat) (h : RestOk f r op) (room : Nat) (h1 : 2 ≤ room) (hlt : room < r.length) (hk : k = divN r room op) :
    FrOk (followL (r.drop k) (op != openL (r.take k))).1 (op != openL (r.take k)) := by
  obtain ⟨_, _, _, h3⟩ := rest_next f r op h room h1 hlt k hk _ rfl
  rcases h3 with ⟨e, _, h3⟩ | ⟨e, _, h3, _⟩ | ⟨e, h3, _⟩
  · rw [h3, e]; exact ⟨(by decide : 1 ≤ fQ.length), (by decide : fQ.length ≤ 6), (by decide : (fQ.getD (fQ.length - 1) 0 == 34) = true)⟩
  · rw [h3, e]; exact ⟨(by decide : 1 ≤ fM.length), (by decide : fM.length ≤ 6), (by decide : (fM.getD (fM.length - 1) 0 == 34) = false)⟩
  · rw [h3, e]; exact ⟨(by decide : 1 ≤ fB.length), (by decide : fB.length ≤ 6), (by decide : (fB.getD (fB.length - 1) 0 == 34) = false)⟩
theorem LayTot (s t : ByteArray) (left : Bool) (hs : s.size ≤ 400) (ht : t.size ≤ 400) (hr1 : rightL s.data.toList = true) (hr2 : rightL t.data.toList = true) : (outL 0 (piecesL (frontL left) s.data.toList false ++ piecesL (frontL false) t.data.toList false)).length ≤ 100000 := by
  have k : ∀ (l : List UInt8) (lf : Bool) (n : Nat), rightL l = true → (outL n (piecesL (frontL lf) l false)).length ≤ 73 * l.length := fun l lf n h => by
    have ho := right_rest l lf h
    have hf4 : frontL lf = fA ∨ frontL lf = fB ∨ frontL lf = fM ∨ frontL lf = fQ := by
      cases lf
      · exact .inr (.inl rfl)
      · exact .inl rfl
    have h1 := pieces_count l.length l (frontL lf) false (Nat.le_refl _) hf4 ho
    have h2 := outL_len n (piecesL (frontL lf) l false) (fun p hp => (pieces_good l.length l (frontL lf) false (Nat.le_refl _) hf4 ho p hp).2.2.2)
    omega
  rw [outL_append, List.length_append]
  have h1 := k s.data.toList left 0 hr1
  have h2 := k t.data.toList false (0 + (piecesL (frontL left) s.data.toList false).length) hr2
  rw [len_data] at h1 h2
  omega
set_option maxHeartbeats 8000000 in
set_option maxRecDepth 100000 in
theorem LayLaw_ok (s t : ByteArray) (left : Bool) (w : World) (hs : s.size ≤ 400) (ht : t.size ≤ 400) (hr1 : rightL s.data.toList = true) (hr2 : rightL t.data.toList = true) (htab : Lib.TabIs Tryd.prog w "internal/strconv.uint64pow10" .u64 Lib.pow10Tab) :
    Calls Tryd.prog 3 #[.string s, .string t, .bool left] w fun e w' => e = .returned (.bool true) ∧ Below w.heap.size w w' := by
  have hL : Hid (∀ w1, Below w.heap.size w w1 → Calls Tryd.prog 5 #[] w1 fun e w' => e = .returned (.bool true) ∧ Below w1.heap.size w1 w') := fun w1 hb => lives_c w1 (tab_below htab hb)
  have hR1 : Hid (∀ w1, Calls Tryd.prog 4 #[.string s] w1 fun e w' => e = .returned (.bool true) ∧ Below w1.heap.size w1 w') := fun w1 => by rw [← hr1]; exact right_c s w1 (by omega)
  have hR2 : Hid (∀ w1, Calls Tryd.prog 4 #[.string t] w1 fun e w' => e = .returned (.bool true) ∧ Below w1.heap.size w1 w') := fun w1 => by rw [← hr2]; exact right_c t w1 (by omega)
  have hSP : Hid (∀ w1 : World, Calls Tryd.prog 7 #[.int .i64 4] w1 fun e w' => e = .returned (.string ⟨#[32, 32, 32, 32]⟩) ∧ Below w1.heap.size w1 w') := fun w1 => spaces_c 4 w1 (by omega)
  have hTL : Hid (∀ (R : ByteArray) (w1 : World), Calls Tryd.prog 11 #[.string R, .string ⟨#[32]⟩] w1 fun e w' => e = .returned (.string (mk (Lib.trimLeftB R.data.toList 32))) ∧ w1 = w') := fun R w1 => by
    refine (Tryd.strings_TrimLeft_one R 32 (by decide) w1).mono fun e w' h => ⟨?_, h.2.symm⟩
    rw [h.1]; rfl
  obtain ⟨xs, hxs⟩ : ∃ xs, xs = piecesL (frontL left) s.data.toList false := ⟨_, rfl⟩
  obtain ⟨ys, hys⟩ : ∃ ys, ys = piecesL (frontL false) t.data.toList false := ⟨_, rfl⟩
  have htot : (outL 0 (xs ++ ys)).length ≤ 100000 := by
    have h1 := LayTot s t left hs ht hr1 hr2
    rw [← hxs, ← hys] at h1
    exact h1
  obtain ⟨GT, hGT⟩ : ∃ GT, GT = mk (outL 0 (xs ++ ys)) := ⟨_, rfl⟩
  have HWR : Hid (∀ (b c : Nat) (w1 : World), Below w.heap.size w w1 → w1.cell? ⟨b, 0, none⟩ = some (.bool left) → w1.cell? ⟨b, 1, none⟩ = some (.string s) → w1.cell? ⟨b, 2, none⟩ = some (.bool false) → w1.cell? ⟨b, 3, none⟩ = some (.string t) → b < w1.heap.size →
      Calls Tryd.prog 6 #[.slice (some ⟨b, 0, none⟩) 2 c] w1 fun e w' => e = .returned (.tuple #[.string GT, .int .i64 0]) ∧ Below w1.heap.size w1 w') := fun b c w1 hb h0 h1 h2 h3 hlt => by
    have := Write_two left false s t b 0 c w1 (by omega) (by omega) h0 h1 h2 h3 hlt hr1 hr2 (tab_below htab hb) (by rw [← hxs, ← hys]; omega)
    rw [← hxs, ← hys, ← hGT] at this
    exact this
  have HRO1 := hide (right_rest s.data.toList left hr1)
  have HRO2 := hide (right_rest t.data.toList false hr2)
  have HXS := hide hxs
  have HYS := hide hys
  have HGT := hide hGT
  clear hxs hys hGT htab hr1 hr2
  go_enter Tryd.func3, Tryd.ntmps3
  go_wp2_with fail
  refine (hR1.out _).mono ?_
  rintro e w1 ⟨rfl, hb1⟩
  have HB1 := hide hb1
  clear hb1
  go_wp2_with fail
  refine (hR2.out _).mono ?_
  rintro e w2 ⟨rfl, hb2⟩
  have HB2 := hide (HB1.out.trans (hb2.mono HB1.out.size))
  clear hb2 hR1 hR2 HB1
  go_wp2_with fail
  have hbk := blk_new w2 #[.bool left, .string s, .bool false, .string t] 28
  have hba := HB2.out.alloc HB2.out.size (.cells #[.bool left, .string s, .bool false, .string t] 28)
  refine (HWR.out w2.heap.size 2 _ hba (hbk.cell 0) (hbk.cell 1) (hbk.cell 2) (hbk.cell 3) hbk.lt).mono ?_
  rintro e w3 ⟨rfl, hb3⟩
  have HB3 := hide (hba.trans (hb3.mono hba.size))
  clear hb3 hba hbk HWR HB2
  go_wp2_with fail
  obtain ⟨V0, hV0⟩ : ∃ V0, V0 = w3.alloc (.cells #[.string s, .string t] 9) := ⟨_, rfl⟩
  have hTX := blk_new w3 #[.string s, .string t] 9
  rw [← hV0] at hTX
  have HBV : Hid (Below w.heap.size w V0) := by unfold Hid; rw [hV0]; exact HB3.out.alloc HB3.out.size _
  rw [← hV0]
  obtain ⟨tb, htb⟩ : ∃ tb, tb = w3.heap.size := ⟨_, rfl⟩
  rw [← htb] at hTX ⊢
  have HTX := hide hTX
  have tx0 := hTX.cell 0
  have htl := hTX.lt
  clear hV0 htb hTX HB3
  refine wp_loop_rounds 3 ?_
  rw [rounds_succ]
  go_wp2_with fail
  refine (hSP.out _).mono ?_
  rintro e w4 ⟨rfl, hb4⟩
  have HB4 := hide (HBV.out.trans (hb4.mono HBV.out.size))
  have HTX4 := hide (blk_kept hb4 HTX.out)
  clear hb4 tx0 htl
  go_upto_if 65 with fail
  go_cut [14] (fun s14 wx => s14 = .string (mk (frontL left)) ∧ w4 = wx)
  case first =>
    cases left with
    | true =>
      go_wp2_with fail
      go_meet
      exact ⟨rfl, rfl⟩
    | false =>
      go_wp2_with fail
      go_meet
      exact ⟨rfl, rfl⟩
  case rest =>
    obtain ⟨rfl, rfl⟩ := hcut
    have HXT : Hid (xs ++ ys = xs ++ ys) := rfl
    go_wp2_with fail
    go_loopw [9, 10, 13, 14] (fun wv nv rv fv wr => ∃ (dn : List (List UInt8 × List UInt8)) (f r : List UInt8) (op : Bool), wv = .string (mk (outL 0 dn)) ∧ nv = .int .i64 (dn.length : Int) ∧ rv = .string (mk r) ∧ fv = .string (mk f) ∧ r.length ≤ 400 ∧ Hid (xs = dn ++ piecesL f r op) ∧ Hid (RestOk f r op) ∧ Hid (FrOk f op) ∧ Hid (Below w4.heap.size w4 wr)) (fun _ _ rv _ _ => match rv with | .string R => R.size | _ => 0)
    case atStart =>
      exact ⟨[], frontL left, s.data.toList, false, rfl, rfl, by rw [mk_of], rfl, by rw [len_data]; exact hs, by unfold Hid; rw [HXS.out, List.nil_append], HRO1.out, by unfold Hid; cases left <;> exact ⟨by decide, by decide, by decide⟩, Below.refl _ _⟩
    case round =>
      obtain ⟨dn, f, r, op, rfl, rfl, rfl, rfl, hr4, hT, hR, hF, hB⟩ := hrel
      obtain ⟨W, rfl⟩ : ∃ W, W = wr := ⟨_, rfl⟩
      obtain ⟨hf1, hf6, hfq⟩ := hF.out
      have hrne : 1 ≤ r.length := List.length_pos_iff.2 hR.out.ne
      obtain ⟨WT, hWT⟩ : ∃ WT, WT = mk (outL 0 dn) := ⟨_, rfl⟩
      obtain ⟨R, hRR⟩ : ∃ R, R = mk r := ⟨_, rfl⟩
      obtain ⟨FR, hFR⟩ : ∃ FR, FR = mk f := ⟨_, rfl⟩
      rw [← hWT, ← hRR, ← hFR]
      have hWTs : WT.size = (outL 0 dn).length := by rw [hWT, sz_mk]
      have hRs : R.size = r.length := by rw [hRR, sz_mk]
      have hFRs : FR.size = f.length := by rw [hFR, sz_mk]
      have hpx := pieces_prefix _ dn f r op hT.out
      have hle := outL_prefix hpx
      have hcnt := outL_count 0 (dn ++ [(piecesL f r op).head (pieces_ne f r op)])
      rw [List.length_append, List.length_singleton] at hcnt
      have hmax : (outL 0 xs).length ≤ 100000 := Nat.le_trans (by rw [outL_append, List.length_append]; omega) htot
      have hdnl : dn.length + 1 ≤ 100000 := by omega
      have hwl : (outL 0 dn).length ≤ 100000 := by have := outL_prefix (List.prefix_append dn (piecesL f r op)); rw [← hT.out] at this; omega
      obtain ⟨DG, hDG⟩ : ∃ DG, DG = mk (digs (dn.length + 1)) := ⟨_, rfl⟩
      obtain ⟨hd6, hnl⟩ := numL_digs (dn.length + 1) (by omega)
      have hDGs : DG.size = (digs (dn.length + 1)).length := by rw [hDG, sz_mk]
      have hDG6 : DG.size ≤ 6 := by omega
      have HDG : Hid (∀ W : World, Calls Tryd.prog 8 #[.int .i64 ((dn.length : Int) + 1)] W fun e w' => e = .returned (.string DG) ∧ w' = W) := fun W => by
        rw [hDG]; exact (digits_c (dn.length + 1) W (by omega)).mono fun e w' h => ⟨h.1, h.2.symm⟩
      obtain ⟨ZZ, hZZ⟩ : ∃ ZZ, ZZ = (⟨#[48, 48, 48, 48, 48, 48]⟩ : ByteArray).extract 0 (6 - DG.size) := ⟨_, rfl⟩
      have hZZm : ZZ = mk (List.replicate (6 - (digs (dn.length + 1)).length) 48) := by
        rw [hZZ, hDGs]
        have H : ∀ k, k ≤ 6 → (⟨#[48, 48, 48, 48, 48, 48]⟩ : ByteArray).extract 0 (6 - k) = mk (List.replicate (6 - k) 48) := by
          intro k hk
          match k, hk with
          | 0, _ => rfl
          | 1, _ => rfl
          | 2, _ => rfl
          | 3, _ => rfl
          | 4, _ => rfl
          | 5, _ => rfl
          | 6, _ => rfl
          | n + 7, h => exact absurd h (by omega)
        exact H _ hd6
      have hZZs : ZZ.size = 6 - DG.size := by rw [hZZm, sz_mk, List.length_replicate, hDGs]
      have HNL : Hid (ZZ ++ DG = mk (numL (dn.length + 1))) := by unfold Hid; rw [hZZm, hDG, ap_mk, hnl]
      obtain ⟨W1, hW1⟩ : ∃ W1, W1 = WT ++ ZZ ++ DG ++ FR := ⟨_, rfl⟩
      have HW1 : Hid (W1 = mk (outL 0 dn ++ numL (dn.length + 1) ++ f)) := by
        unfold Hid
        rw [hW1, show WT ++ ZZ ++ DG = WT ++ (ZZ ++ DG) from ByteArray.append_assoc, HNL.out, hWT, hFR, ap_mk, ap_mk]
      have hW1s : W1.size ≤ 100020 := by rw [hW1, ByteArray.size_append, ByteArray.size_append, ByteArray.size_append]; omega
      have n1 := fun wx : World => run_string_add_sum (P := Tryd.prog) wx WT ZZ (by omega)
      have n2 := fun wx : World => run_string_add_sum (P := Tryd.prog) wx (WT ++ ZZ) DG (by rw [ByteArray.size_append]; omega)
      have n3 := fun wx : World => run_string_add_sum (P := Tryd.prog) wx (WT ++ ZZ ++ DG) FR (by rw [ByteArray.size_append, ByteArray.size_append]; omega)
      have hsl : (0 : Int) ≤ 6 - (DG.size : Int) := by omega
      have hsl2 : 6 - (DG.size : Int) ≤ 6 := by omega
      have hst : (6 - (DG.size : Int)).toNat = 6 - DG.size := by omega
      have hrt : R.toList.isEmpty = false := by
        rw [ByteArray.toList_eq, hRR, show (mk r).data.toList = r from rfl]
        cases r with
        | nil => simp at hrne
        | cons a b => rfl
      have HWT := hide hWT
      have HRR := hide hRR
      have HFR := hide hFR
      have HPX := hide hpx
      clear hWT hRR hFR hpx hnl hDG hZZm hle hcnt
      have HDGS := hide hDGs
      have HWTS := hide hWTs
      have HRS := hide hRs
      have HFRS := hide hFRs
      have hR4 : R.size ≤ 400 := by omega
      have hFR1 : 1 ≤ FR.size := by omega
      have hFR6 : FR.size ≤ 6 := by omega
      have hEs := hZZs
      rw [hZZ] at hEs n1 n2 n3
      clear hDGs hWTs hRs hFRs
      go_upto_region 16 with fail
      go_quiet ((go_at_call 8; exact Calls.quiet_of_same (HDG.out _)))
      obtain ⟨Wq, hWq⟩ : ∃ Wq, Wq = W.drewN nq := ⟨_, rfl⟩
      have HBq : Hid (Below w4.heap.size w4 Wq) := by unfold Hid; rw [hWq]; exact below_drewNc hB.out nq
      with_reducible rw [← hWq]
      rw [← hZZ, ← hW1]
      clear hWq n1 n2 n3 hEs hsl hsl2 hst hrt hW1 hZZ hZZs hDG6 HNL HDG hd6
      by_cases hlast : R.size ≤ 66 - FR.size
      · have hpl := pieces_last f r op (by rw [← HRS.out, ← HFRS.out]; exact hlast)
        have hle : decide ((R.size : Int) ≤ 66 - (FR.size : Int)) = true := decide_eq_true (by omega)
        have n4 := fun wx : World => run_string_add_sum (P := Tryd.prog) wx W1 R (by omega)
        have n5 := fun wx : World => run_string_add_sum (P := Tryd.prog) wx (W1 ++ R) ⟨#[10]⟩ (by rw [ByteArray.size_append]; show W1.size + R.size + 1 ≤ _; omega)
        have HXF : Hid (xs = dn ++ [(f, r)]) := by unfold Hid; rw [hT.out, hpl]
        obtain ⟨WN, hWN⟩ : ∃ WN, WN = W1 ++ R ++ ⟨#[10]⟩ := ⟨_, rfl⟩
        have HWN : Hid (WN = mk (outL 0 xs)) := by
          unfold Hid
          rw [hWN, HXF.out, outL_snoc, HW1.out, HRR.out, show (⟨#[10]⟩ : ByteArray) = mk [10] from rfl, ap_mk, ap_mk, Nat.zero_add]
          simp
        have hxl : xs.length = dn.length + 1 := by rw [HXF.out, List.length_append]; rfl
        have HXL := hide hxl
        have HTXq := hide (blk_kept HBq.out HTX4.out)
        have tx1 := HTXq.out.cell 1
        have htl := HTXq.out.lt
        have HBQ := hide (HB4.out.trans (HBq.out.mono HB4.out.size))
        clear hxl hpl hfq hf1 hf6 hrne hmax hdnl hwl hFR1
        go_wp2_with fail
        rw [← hWN]
        clear hWN n4 n5 hle hlast
        rw [rounds_succ]
        go_wp2_with fail
        refine (hSP.out _).mono ?_
        rintro e w9 ⟨rfl, hb9⟩
        have HB9 := hide (HBQ.out.trans (hb9.mono HBQ.out.size))
        have HWN1 := HWN
        clear hb9 tx1 htl HWN
        go_wp2_with fail
        go_loopw [9, 10, 13, 14] (fun wv nv rv fv wr => ∃ (dn : List (List UInt8 × List UInt8)) (f r : List UInt8) (op : Bool), wv = .string (mk (outL 0 dn)) ∧ nv = .int .i64 (dn.length : Int) ∧ rv = .string (mk r) ∧ fv = .string (mk f) ∧ r.length ≤ 400 ∧ Hid ((xs ++ ys) = dn ++ piecesL f r op) ∧ Hid (RestOk f r op) ∧ Hid (FrOk f op) ∧ Hid (Below w9.heap.size w9 wr)) (fun _ _ rv _ _ => match rv with | .string R => R.size | _ => 0)
        case atStart =>
          exact ⟨xs, fB, t.data.toList, false, by rw [HWN1.out], by rw [HXL.out]; rfl, by rw [mk_of], rfl, by rw [len_data]; exact ht, by unfold Hid; rw [HYS.out]; rfl, HRO2.out, by unfold Hid; exact ⟨by decide, by decide, by decide⟩, Below.refl _ _⟩
        case round =>
          obtain ⟨dn, f, r, op, rfl, rfl, rfl, rfl, hr4, hT, hR, hF, hB⟩ := hrel
          obtain ⟨W, rfl⟩ : ∃ W, W = wr := ⟨_, rfl⟩
          obtain ⟨hf1, hf6, hfq⟩ := hF.out
          have hrne : 1 ≤ r.length := List.length_pos_iff.2 hR.out.ne
          obtain ⟨WT, hWT⟩ : ∃ WT, WT = mk (outL 0 dn) := ⟨_, rfl⟩
          obtain ⟨R, hRR⟩ : ∃ R, R = mk r := ⟨_, rfl⟩
          obtain ⟨FR, hFR⟩ : ∃ FR, FR = mk f := ⟨_, rfl⟩
          rw [← hWT, ← hRR, ← hFR]
          have hWTs : WT.size = (outL 0 dn).length := by rw [hWT, sz_mk]
          have hRs : R.size = r.length := by rw [hRR, sz_mk]
          have hFRs : FR.size = f.length := by rw [hFR, sz_mk]
          have hpx := pieces_prefix _ dn f r op hT.out
          have hle := outL_prefix hpx
          have hcnt := outL_count 0 (dn ++ [(piecesL f r op).head (pieces_ne f r op)])
          rw [List.length_append, List.length_singleton] at hcnt
          have hmax : (outL 0 (xs ++ ys)).length ≤ 100000 := htot
          have hdnl : dn.length + 1 ≤ 100000 := by omega
          have hwl : (outL 0 dn).length ≤ 100000 := by have := outL_prefix (List.prefix_append dn (piecesL f r op)); rw [← hT.out] at this; omega
          obtain ⟨DG, hDG⟩ : ∃ DG, DG = mk (digs (dn.length + 1)) := ⟨_, rfl⟩
          obtain ⟨hd6, hnl⟩ := numL_digs (dn.length + 1) (by omega)
          have hDGs : DG.size = (digs (dn.length + 1)).length := by rw [hDG, sz_mk]
          have hDG6 : DG.size ≤ 6 := by omega
          have HDG : Hid (∀ W : World, Calls Tryd.prog 8 #[.int .i64 ((dn.length : Int) + 1)] W fun e w' => e = .returned (.string DG) ∧ w' = W) := fun W => by
            rw [hDG]; exact (digits_c (dn.length + 1) W (by omega)).mono fun e w' h => ⟨h.1, h.2.symm⟩
          obtain ⟨ZZ, hZZ⟩ : ∃ ZZ, ZZ = (⟨#[48, 48, 48, 48, 48, 48]⟩ : ByteArray).extract 0 (6 - DG.size) := ⟨_, rfl⟩
          have hZZm : ZZ = mk (List.replicate (6 - (digs (dn.length + 1)).length) 48) := by
            rw [hZZ, hDGs]
            have H : ∀ k, k ≤ 6 → (⟨#[48, 48, 48, 48, 48, 48]⟩ : ByteArray).extract 0 (6 - k) = mk (List.replicate (6 - k) 48) := by
              intro k hk
              match k, hk with
              | 0, _ => rfl
              | 1, _ => rfl
              | 2, _ => rfl
              | 3, _ => rfl
              | 4, _ => rfl
              | 5, _ => rfl
              | 6, _ => rfl
              | n + 7, h => exact absurd h (by omega)
            exact H _ hd6
          have hZZs : ZZ.size = 6 - DG.size := by rw [hZZm, sz_mk, List.length_replicate, hDGs]
          have HNL : Hid (ZZ ++ DG = mk (numL (dn.length + 1))) := by unfold Hid; rw [hZZm, hDG, ap_mk, hnl]
          obtain ⟨W1, hW1⟩ : ∃ W1, W1 = WT ++ ZZ ++ DG ++ FR := ⟨_, rfl⟩
          have HW1 : Hid (W1 = mk (outL 0 dn ++ numL (dn.length + 1) ++ f)) := by
            unfold Hid
            rw [hW1, show WT ++ ZZ ++ DG = WT ++ (ZZ ++ DG) from ByteArray.append_assoc, HNL.out, hWT, hFR, ap_mk, ap_mk]
          have hW1s : W1.size ≤ 100020 := by rw [hW1, ByteArray.size_append, ByteArray.size_append, ByteArray.size_append]; omega
          have n1 := fun wx : World => run_string_add_sum (P := Tryd.prog) wx WT ZZ (by omega)
          have n2 := fun wx : World => run_string_add_sum (P := Tryd.prog) wx (WT ++ ZZ) DG (by rw [ByteArray.size_append]; omega)
          have n3 := fun wx : World => run_string_add_sum (P := Tryd.prog) wx (WT ++ ZZ ++ DG) FR (by rw [ByteArray.size_append, ByteArray.size_append]; omega)
          have hsl : (0 : Int) ≤ 6 - (DG.size : Int) := by omega
          have hsl2 : 6 - (DG.size : Int) ≤ 6 := by omega
          have hst : (6 - (DG.size : Int)).toNat = 6 - DG.size := by omega
          have hrt : R.toList.isEmpty = false := by
            rw [ByteArray.toList_eq, hRR, show (mk r).data.toList = r from rfl]
            cases r with
            | nil => simp at hrne
            | cons a b => rfl
          have HWT := hide hWT
          have HRR := hide hRR
          have HFR := hide hFR
          have HPX := hide hpx
          clear hWT hRR hFR hpx hnl hDG hZZm hle hcnt
          have HDGS := hide hDGs
          have HWTS := hide hWTs
          have HRS := hide hRs
          have HFRS := hide hFRs
          have hR4 : R.size ≤ 400 := by omega
          have hFR1 : 1 ≤ FR.size := by omega
          have hFR6 : FR.size ≤ 6 := by omega
          have hEs := hZZs
          rw [hZZ] at hEs n1 n2 n3
          clear hDGs hWTs hRs hFRs
          go_upto_region 16 with fail
          go_quiet ((go_at_call 8; exact Calls.quiet_of_same (HDG.out _)))
          obtain ⟨Wq, hWq⟩ : ∃ Wq, Wq = W.drewN nq := ⟨_, rfl⟩
          have HBq : Hid (Below w9.heap.size w9 Wq) := by unfold Hid; rw [hWq]; exact below_drewNc hB.out nq
          with_reducible rw [← hWq]
          rw [← hZZ, ← hW1]
          clear hWq n1 n2 n3 hEs hsl hsl2 hst hrt hW1 hZZ hZZs hDG6 HNL HDG hd6
          by_cases hlast : R.size ≤ 66 - FR.size
          · have hpl := pieces_last f r op (by rw [← HRS.out, ← HFRS.out]; exact hlast)
            have hle : decide ((R.size : Int) ≤ 66 - (FR.size : Int)) = true := decide_eq_true (by omega)
            have n4 := fun wx : World => run_string_add_sum (P := Tryd.prog) wx W1 R (by omega)
            have n5 := fun wx : World => run_string_add_sum (P := Tryd.prog) wx (W1 ++ R) ⟨#[10]⟩ (by rw [ByteArray.size_append]; show W1.size + R.size + 1 ≤ _; omega)
            have HXF : Hid ((xs ++ ys) = dn ++ [(f, r)]) := by unfold Hid; rw [hT.out, hpl]
            obtain ⟨WN, hWN⟩ : ∃ WN, WN = W1 ++ R ++ ⟨#[10]⟩ := ⟨_, rfl⟩
            have HWN : Hid (WN = mk (outL 0 (xs ++ ys))) := by
              unfold Hid
              rw [hWN, HXF.out, outL_snoc, HW1.out, HRR.out, show (⟨#[10]⟩ : ByteArray) = mk [10] from rfl, ap_mk, ap_mk, Nat.zero_add]
              simp
            have hWG : WN = GT := by rw [HWN.out, HGT.out]
            have HBQ := hide (HB9.out.trans (HBq.out.mono HB9.out.size))
            clear hpl hfq hf1 hf6 hrne hmax hdnl hwl hFR1
            go_wp2_with fail
            rw [← hWN, hWG]
            clear hWN n4 n5 hle hlast hWG
            rw [rounds_succ]
            go_wp2_with fail
            refine (hL.out _ HBQ.out).mono ?_
            rintro e w10 ⟨rfl, hb10⟩
            go_wp2_with fail
            go_ret
            exact ⟨rfl, HBQ.out.trans (hb10.mono HBQ.out.size)⟩
          · have hfu : FR.size - 1 < FR.size := Nat.sub_lt hFR1 Nat.one_pos
            obtain ⟨u, hu⟩ : ∃ u, FR[FR.size - 1]'hfu = u := ⟨_, rfl⟩
            have huq : ((u.toNat : Int) == 34) = op := by
              rw [← hfq, ← hu]
              have e : f.getD (f.length - 1) 0 = FR[FR.size - 1]'hfu := by
                have h1 := getD_at FR (FR.size - 1) hfu
                rw [← h1, HFR.out, sz_mk]; rfl
              rw [e, Bool.eq_iff_iff, beq_iff_eq, beq_iff_eq]
              constructor
              · intro h; apply UInt8.toNat_inj.1; show _ = 34; omega
              · intro h; rw [h]; rfl
            obtain ⟨rm, hrm⟩ : ∃ rm, rm = 66 - f.length := ⟨_, rfl⟩
            have hrmI : (66 : Int) - (FR.size : Int) = (rm : Int) := by have := HFRS.out; omega
            have hrm60 : 60 ≤ rm ∧ rm ≤ 65 := by omega
            have hrlt : rm < r.length := by have := HFRS.out; have := HRS.out; omega
            have hgtR : ¬ R.size ≤ rm := by have := HRS.out; omega
            obtain ⟨k, hk⟩ : ∃ k, k = divN r rm op := ⟨_, rfl⟩
            obtain ⟨hk0, hkm⟩ := divN_pos r rm op (by omega)
            rw [← hk] at hk0 hkm
            obtain ⟨sp, hsp⟩ : ∃ sp, sp = (divK r op rm).isSome := ⟨_, rfl⟩
            have hpm := pieces_more f r op (by omega) hf6
            rw [← hrm, ← hk] at hpm
            obtain ⟨hk1, hk2, hRO2, _⟩ := rest_next f r op hR.out rm (by omega) hrlt k hk _ rfl
            have hFO2 := nextFr r f op k hR.out rm (by omega) hrlt hk
            have hfl := follow_law f r op hR.out rm (by omega) hrlt
            rw [← hk, ← hsp] at hfl
            obtain ⟨op2, hop2⟩ : ∃ op2, op2 = (op != openL (r.take k)) := ⟨_, rfl⟩
            rw [← hop2] at hpm hRO2 hFO2 hfl
            have HDV : Hid (∀ W : World, Calls Tryd.prog 9 #[.string R, .int .i64 (rm : Int), .bool op] W fun e w' => e = .returned (.tuple #[.int .i64 (k : Int), .bool sp]) ∧ W = w') := fun W => by
              have := divide_c R rm op W (by omega) (by omega)
              rw [HRR.out, show (mk r).data.toList = r from rfl, ← hsp] at this
              rw [HRR.out, hk]; exact this
            have hkR : k < R.size := by have := HRS.out; omega
            obtain ⟨E, hE⟩ : ∃ E, E = R.extract 0 k := ⟨_, rfl⟩
            have hEm : E = mk (r.take k) := by rw [hE, HRR.out, Lib.extract_eq]; rfl
            have hEs : E.size = k := by rw [hEm, sz_mk, List.length_take]; omega
            obtain ⟨R2, hR2⟩ : ∃ R2, R2 = R.extract k R.size := ⟨_, rfl⟩
            have hR2m : R2 = mk (r.drop k) := by
              rw [hR2, HRS.out, HRR.out, Lib.extract_eq]
              show mk ((r.drop k).take (r.length - k)) = mk (r.drop k)
              rw [List.take_of_length_le (by rw [List.length_drop]; exact Nat.le_refl _)]
            have HOP : Hid (∀ W : World, Calls Tryd.prog 10 #[.string E] W fun e w' => e = .returned (.bool (openL (r.take k))) ∧ w' = W) := fun W => by
              have := Open_c E W (by unfold maxLen; omega)
              rw [hEm] at this ⊢
              exact this.mono fun e w' h => ⟨h.1, h.2.symm⟩
            obtain ⟨WN, hWN⟩ : ∃ WN, WN = W1 ++ E ++ ⟨#[10]⟩ := ⟨_, rfl⟩
            have HWN : Hid (WN = mk (outL 0 (dn ++ [(f, r.take k)]))) := by
              unfold Hid
              rw [hWN, outL_snoc, HW1.out, hEm, show (⟨#[10]⟩ : ByteArray) = mk [10] from rfl, ap_mk, ap_mk, Nat.zero_add]
              simp
            have n4 := fun wx : World => run_string_add_sum (P := Tryd.prog) wx W1 E (by omega)
            have n5 := fun wx : World => run_string_add_sum (P := Tryd.prog) wx (W1 ++ E) ⟨#[10]⟩ (by rw [ByteArray.size_append]; show W1.size + E.size + 1 ≤ _; omega)
            rw [hE] at n4 n5
            have HEM := hide hEm
            have HR2M := hide hR2m
            have HEQ := hide hE
            have HR2Q := hide hR2
            have HWNQ := hide hWN
            have HPM := hide hpm
            have HFL := hide hfl
            have HRO2' := hide hRO2
            have HFO2' := hide hFO2
            have HOP2 := hide hop2
            have HKK := hide hk
            have HSP := hide hsp
            have hEx : (R.extract 0 k).size = k := by rw [← hE]; exact hEs
            clear hEm hR2m hE hR2 hWN hpm hfl hRO2 hFO2 hop2 hk hsp hfq hEs hrm hlast
            go_wp2_with fail
            refine (HDV.out _).mono ?_
            rintro e w5 ⟨rfl, rfl⟩
            go_upto_region 22 with fail
            rw [← HEQ.out, ← HWNQ.out]
            rw [HEQ.out] at HOP
            have hI1 : (FR.size : Int) - 1 < (FR.size : Int) := by omega
            have hI0 : (0 : Int) ≤ (FR.size : Int) - 1 := by omega
            have hIt : ((FR.size : Int) - 1).toNat = FR.size - 1 := by omega
            have hins : (!(openL (r.take k) == op)) = op2 := by rw [HOP2.out]; cases op <;> cases openL (r.take k) <;> rfl
            clear n4 n5
            go_quiet ((go_at_call 10; exact Calls.quiet_of_same (HOP.out _)))
            obtain ⟨Wr, hWr⟩ : ∃ Wr, Wr = Wq.drewN nq := ⟨_, rfl⟩
            have HBr : Hid (Below w9.heap.size w9 Wr) := by unfold Hid; rw [hWr]; exact below_drewNc HBq.out nq
            with_reducible rw [← hWr]
            clear hWr hI1 hI0 hIt hu huq hEx hins
            go_upto_region 24 with fail
            rw [← HR2Q.out]
            have hR2l : (r.drop k).length ≤ 400 := by rw [List.length_drop]; omega
            have hfl2 := followL_le (r.drop k) op2
            have HTT : Hid ((xs ++ ys) = (dn ++ [(f, r.take k)]) ++ piecesL (followL (r.drop k) op2).1 (followL (r.drop k) op2).2 op2) := by
              unfold Hid; rw [hT.out, HPM.out, List.append_assoc]; rfl
            have hR2s : R2.size = (r.drop k).length := by rw [HR2M.out, sz_mk]
            have HMS : Hid ((followL (r.drop k) op2).2.length < R.size) := by
              unfold Hid
              rw [List.length_drop] at hfl2
              have := HRS.out
              omega
            have HR2S := hide hR2s
            have hR24 : R2.size ≤ 400 := by omega
            clear hR2s
            go_wp2_with fail
            refine (hSP.out _).mono ?_
            rintro e w7 ⟨rfl, hb7⟩
            have HB7 := hide (HBr.out.trans (hb7.mono HBr.out.size))
            clear hb7
            cases sp with
            | true =>
              have HFA : Hid (followL (r.drop k) op2 = (fB, Lib.trimLeftB (r.drop k) 32)) := by unfold Hid; rw [HFL.out, if_pos rfl]
              rw [HFA.out] at hfl2 HTT HMS HRO2' HFO2'
              have hTLx := hTL.out R2
              rw [HR2M.out, show (mk (r.drop k)).data.toList = r.drop k from rfl, ← HR2M.out] at hTLx
              have HTLX := hide hTLx
              clear hTLx
              go_wp2_with fail
              refine (HTLX.out _).mono ?_
              rintro e w8 ⟨rfl, rfl⟩
              go_wp2_with fail
              exact ⟨⟨dn ++ [(f, r.take k)], fB, Lib.trimLeftB (r.drop k) 32, op2, by rw [HWN.out], by rw [List.length_append]; rfl, rfl, rfl, Nat.le_trans hfl2 hR2l, HTT.out, HRO2'.out, HFO2'.out, HB7.out⟩, by show (mk (Lib.trimLeftB (r.drop k) 32)).size < R.size; rw [sz_mk]; exact HMS.out⟩
            | false =>
              have HFA : Hid (followL (r.drop k) op2 = (if op2 = true then fQ else fM, r.drop k)) := by unfold Hid; rw [HFL.out, if_neg (by simp)]
              go_wp2_with fail
              refine (hSP.out _).mono ?_
              rintro e w8 ⟨rfl, hb8⟩
              have HB8 := hide (HB7.out.trans (hb8.mono HB7.out.size))
              clear hb8
              cases op2 with
              | true =>
                rw [HFA.out, if_pos rfl] at hfl2 HTT HMS HRO2' HFO2'
                go_wp2_with fail
                exact ⟨⟨dn ++ [(f, r.take k)], fQ, r.drop k, true, by rw [HWN.out], by rw [List.length_append]; rfl, by rw [HR2M.out], rfl, hR2l, HTT.out, HRO2'.out, HFO2'.out, HB8.out⟩, by show R2.size < R.size; rw [HR2S.out]; exact HMS.out⟩
              | false =>
                rw [HFA.out, if_neg (by simp)] at hfl2 HTT HMS HRO2' HFO2'
                go_wp2_with fail
                exact ⟨⟨dn ++ [(f, r.take k)], fM, r.drop k, false, by rw [HWN.out], by rw [List.length_append]; rfl, by rw [HR2M.out], rfl, hR2l, HTT.out, HRO2'.out, HFO2'.out, HB8.out⟩, by show R2.size < R.size; rw [HR2S.out]; exact HMS.out⟩
      · have hfu : FR.size - 1 < FR.size := Nat.sub_lt hFR1 Nat.one_pos
        obtain ⟨u, hu⟩ : ∃ u, FR[FR.size - 1]'hfu = u := ⟨_, rfl⟩
        have huq : ((u.toNat : Int) == 34) = op := by
          rw [← hfq, ← hu]
          have e : f.getD (f.length - 1) 0 = FR[FR.size - 1]'hfu := by
            have h1 := getD_at FR (FR.size - 1) hfu
            rw [← h1, HFR.out, sz_mk]; rfl
          rw [e, Bool.eq_iff_iff, beq_iff_eq, beq_iff_eq]
          constructor
          · intro h; apply UInt8.toNat_inj.1; show _ = 34; omega
          · intro h; rw [h]; rfl
        obtain ⟨rm, hrm⟩ : ∃ rm, rm = 66 - f.length := ⟨_, rfl⟩
        have hrmI : (66 : Int) - (FR.size : Int) = (rm : Int) := by have := HFRS.out; omega
        have hrm60 : 60 ≤ rm ∧ rm ≤ 65 := by omega
        have hrlt : rm < r.length := by have := HFRS.out; have := HRS.out; omega
        have hgtR : ¬ R.size ≤ rm := by have := HRS.out; omega
        obtain ⟨k, hk⟩ : ∃ k, k = divN r rm op := ⟨_, rfl⟩
        obtain ⟨hk0, hkm⟩ := divN_pos r rm op (by omega)
        rw [← hk] at hk0 hkm
        obtain ⟨sp, hsp⟩ : ∃ sp, sp = (divK r op rm).isSome := ⟨_, rfl⟩
        have hpm := pieces_more f r op (by omega) hf6
        rw [← hrm, ← hk] at hpm
        obtain ⟨hk1, hk2, hRO2, _⟩ := rest_next f r op hR.out rm (by omega) hrlt k hk _ rfl
        have hFO2 := nextFr r f op k hR.out rm (by omega) hrlt hk
        have hfl := follow_law f r op hR.out rm (by omega) hrlt
        rw [← hk, ← hsp] at hfl
        obtain ⟨op2, hop2⟩ : ∃ op2, op2 = (op != openL (r.take k)) := ⟨_, rfl⟩
        rw [← hop2] at hpm hRO2 hFO2 hfl
        have HDV : Hid (∀ W : World, Calls Tryd.prog 9 #[.string R, .int .i64 (rm : Int), .bool op] W fun e w' => e = .returned (.tuple #[.int .i64 (k : Int), .bool sp]) ∧ W = w') := fun W => by
          have := divide_c R rm op W (by omega) (by omega)
          rw [HRR.out, show (mk r).data.toList = r from rfl, ← hsp] at this
          rw [HRR.out, hk]; exact this
        have hkR : k < R.size := by have := HRS.out; omega
        obtain ⟨E, hE⟩ : ∃ E, E = R.extract 0 k := ⟨_, rfl⟩
        have hEm : E = mk (r.take k) := by rw [hE, HRR.out, Lib.extract_eq]; rfl
        have hEs : E.size = k := by rw [hEm, sz_mk, List.length_take]; omega
        obtain ⟨R2, hR2⟩ : ∃ R2, R2 = R.extract k R.size := ⟨_, rfl⟩
        have hR2m : R2 = mk (r.drop k) := by
          rw [hR2, HRS.out, HRR.out, Lib.extract_eq]
          show mk ((r.drop k).take (r.length - k)) = mk (r.drop k)
          rw [List.take_of_length_le (by rw [List.length_drop]; exact Nat.le_refl _)]
        have HOP : Hid (∀ W : World, Calls Tryd.prog 10 #[.string E] W fun e w' => e = .returned (.bool (openL (r.take k))) ∧ w' = W) := fun W => by
          have := Open_c E W (by unfold maxLen; omega)
          rw [hEm] at this ⊢
          exact this.mono fun e w' h => ⟨h.1, h.2.symm⟩
        obtain ⟨WN, hWN⟩ : ∃ WN, WN = W1 ++ E ++ ⟨#[10]⟩ := ⟨_, rfl⟩
        have HWN : Hid (WN = mk (outL 0 (dn ++ [(f, r.take k)]))) := by
          unfold Hid
          rw [hWN, outL_snoc, HW1.out, hEm, show (⟨#[10]⟩ : ByteArray) = mk [10] from rfl, ap_mk, ap_mk, Nat.zero_add]
          simp
        have n4 := fun wx : World => run_string_add_sum (P := Tryd.prog) wx W1 E (by omega)
        have n5 := fun wx : World => run_string_add_sum (P := Tryd.prog) wx (W1 ++ E) ⟨#[10]⟩ (by rw [ByteArray.size_append]; show W1.size + E.size + 1 ≤ _; omega)
        rw [hE] at n4 n5
        have HEM := hide hEm
        have HR2M := hide hR2m
        have HEQ := hide hE
        have HR2Q := hide hR2
        have HWNQ := hide hWN
        have HPM := hide hpm
        have HFL := hide hfl
        have HRO2' := hide hRO2
        have HFO2' := hide hFO2
        have HOP2 := hide hop2
        have HKK := hide hk
        have HSP := hide hsp
        have hEx : (R.extract 0 k).size = k := by rw [← hE]; exact hEs
        clear hEm hR2m hE hR2 hWN hpm hfl hRO2 hFO2 hop2 hk hsp hfq hEs hrm hlast
        go_wp2_with fail
        refine (HDV.out _).mono ?_
        rintro e w5 ⟨rfl, rfl⟩
        go_upto_region 22 with fail
        rw [← HEQ.out, ← HWNQ.out]
        rw [HEQ.out] at HOP
        have hI1 : (FR.size : Int) - 1 < (FR.size : Int) := by omega
        have hI0 : (0 : Int) ≤ (FR.size : Int) - 1 := by omega
        have hIt : ((FR.size : Int) - 1).toNat = FR.size - 1 := by omega
        have hins : (!(openL (r.take k) == op)) = op2 := by rw [HOP2.out]; cases op <;> cases openL (r.take k) <;> rfl
        clear n4 n5
        go_quiet ((go_at_call 10; exact Calls.quiet_of_same (HOP.out _)))
        obtain ⟨Wr, hWr⟩ : ∃ Wr, Wr = Wq.drewN nq := ⟨_, rfl⟩
        have HBr : Hid (Below w4.heap.size w4 Wr) := by unfold Hid; rw [hWr]; exact below_drewNc HBq.out nq
        with_reducible rw [← hWr]
        clear hWr hI1 hI0 hIt hu huq hEx hins
        go_upto_region 24 with fail
        rw [← HR2Q.out]
        have hR2l : (r.drop k).length ≤ 400 := by rw [List.length_drop]; omega
        have hfl2 := followL_le (r.drop k) op2
        have HTT : Hid (xs = (dn ++ [(f, r.take k)]) ++ piecesL (followL (r.drop k) op2).1 (followL (r.drop k) op2).2 op2) := by
          unfold Hid; rw [hT.out, HPM.out, List.append_assoc]; rfl
        have hR2s : R2.size = (r.drop k).length := by rw [HR2M.out, sz_mk]
        have HMS : Hid ((followL (r.drop k) op2).2.length < R.size) := by
          unfold Hid
          rw [List.length_drop] at hfl2
          have := HRS.out
          omega
        have HR2S := hide hR2s
        have hR24 : R2.size ≤ 400 := by omega
        clear hR2s
        go_wp2_with fail
        refine (hSP.out _).mono ?_
        rintro e w7 ⟨rfl, hb7⟩
        have HB7 := hide (HBr.out.trans (hb7.mono HBr.out.size))
        clear hb7
        cases sp with
        | true =>
          have HFA : Hid (followL (r.drop k) op2 = (fB, Lib.trimLeftB (r.drop k) 32)) := by unfold Hid; rw [HFL.out, if_pos rfl]
          rw [HFA.out] at hfl2 HTT HMS HRO2' HFO2'
          have hTLx := hTL.out R2
          rw [HR2M.out, show (mk (r.drop k)).data.toList = r.drop k from rfl, ← HR2M.out] at hTLx
          have HTLX := hide hTLx
          clear hTLx
          go_wp2_with fail
          refine (HTLX.out _).mono ?_
          rintro e w8 ⟨rfl, rfl⟩
          go_wp2_with fail
          exact ⟨⟨dn ++ [(f, r.take k)], fB, Lib.trimLeftB (r.drop k) 32, op2, by rw [HWN.out], by rw [List.length_append]; rfl, rfl, rfl, Nat.le_trans hfl2 hR2l, HTT.out, HRO2'.out, HFO2'.out, HB7.out⟩, by show (mk (Lib.trimLeftB (r.drop k) 32)).size < R.size; rw [sz_mk]; exact HMS.out⟩
        | false =>
          have HFA : Hid (followL (r.drop k) op2 = (if op2 = true then fQ else fM, r.drop k)) := by unfold Hid; rw [HFL.out, if_neg (by simp)]
          go_wp2_with fail
          refine (hSP.out _).mono ?_
          rintro e w8 ⟨rfl, hb8⟩
          have HB8 := hide (HB7.out.trans (hb8.mono HB7.out.size))
          clear hb8
          cases op2 with
          | true =>
            rw [HFA.out, if_pos rfl] at hfl2 HTT HMS HRO2' HFO2'
            go_wp2_with fail
            exact ⟨⟨dn ++ [(f, r.take k)], fQ, r.drop k, true, by rw [HWN.out], by rw [List.length_append]; rfl, by rw [HR2M.out], rfl, hR2l, HTT.out, HRO2'.out, HFO2'.out, HB8.out⟩, by show R2.size < R.size; rw [HR2S.out]; exact HMS.out⟩
          | false =>
            rw [HFA.out, if_neg (by simp)] at hfl2 HTT HMS HRO2' HFO2'
            go_wp2_with fail
            exact ⟨⟨dn ++ [(f, r.take k)], fM, r.drop k, false, by rw [HWN.out], by rw [List.length_append]; rfl, by rw [HR2M.out], rfl, hR2l, HTT.out, HRO2'.out, HFO2'.out, HB8.out⟩, by show R2.size < R.size; rw [HR2S.out]; exact HMS.out⟩
end Go.Proofs.YteceealibfemjaaDoor
