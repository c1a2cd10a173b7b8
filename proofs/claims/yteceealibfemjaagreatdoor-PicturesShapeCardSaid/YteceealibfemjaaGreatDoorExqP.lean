/-
  CONTRACT of Expand (layer 6, pictures).
-/
import Derived.Test.YteceealibfemjaaGreatDoorExpP
namespace Go.Proofs.YteceealibfemjaaGreatDoor
open Go.RowKit Go.Shelf

theorem expG_nil (f : Nat) (pic : List UInt8) : Pic.expG f pic [] = some pic := by cases f <;> rfl
theorem expG_cons (f : Nat) (pic : List UInt8) (c : UInt8) (r : List UInt8) : Pic.expG (f + 1) pic (c :: r) = match Pic.repL r with
    | none => none
    | some (n, b) => if Pic.isSym c then Pic.expG f (if pic.length ≤ 256 then pic ++ List.replicate (min n 257) c else pic) b else none := rfl
theorem sym_zero (c : UInt8) (h : Pic.isSym c = true) : ((c.toNat : Int) == 0) = false := by
  rw [beq_eq_false_iff_ne]
  intro e
  have : c = 0 := UInt8.toNat_inj.1 (by show c.toNat = 0; omega)
  subst this
  exact absurd h (by decide)
theorem symV_yes' (c : UInt8) (h : Pic.isSym c = true) : symV c = .agg #[.int .u8 (c.toNat : Int), .int .u8 (catOf c : Int), .bool (insOf c)] := by unfold symV; rw [h]; rfl
theorem symV_no' (c : UInt8) (h : Pic.isSym c = false) : symV c = .agg #[.int .u8 0, .int .u8 0, .bool false] := by
  apply symV_no
  rw [isSym_F] at h
  cases hF : symF c with
  | none => rfl
  | some x => rw [hF] at h; cases h
def strSz : Value → Nat
  | .string b => b.size
  | _ => 0
set_option maxRecDepth 100000 in
set_option maxHeartbeats 4000000 in
theorem Expand_c (s : ByteArray) (w : World) (hs : s.size ≤ 1000000) (he : EnvP w) :
    Calls Tryz.prog 13 #[.string s] w fun e w' => e = .returned (.tuple #[.string (mk (Pic.expL s.data.toList).1), .int .i64 (Pic.expL s.data.toList).2]) ∧ Below w.heap.size w w' := by
  obtain ⟨X, hX⟩ : ∃ X, X = Pic.expL s.data.toList := ⟨_, rfl⟩
  rw [← hX]
  have hX' := hX
  unfold Pic.expL at hX'
  have HE : Hid (∀ W, Below w.heap.size w W → EnvP W) := fun W hb => he.below hb
  clear he
  by_cases h0 : s.size = 0
  · have h1 : s.toList.isEmpty = true := by
      rw [ByteArray.toList_eq]
      have := len_data s
      cases hl : s.data.toList with
      | nil => rfl
      | cons a r => rw [hl, List.length_cons] at this; omega
    have HX0 : Hid (X = ([], 4)) := by unfold Hid; rw [hX', ← ByteArray.toList_eq, h1]; rfl
    clear hX hX'
    go_enter Tryz.func13, Tryz.ntmps13
    go_wp2_with fail
    go_ret2
    exact ⟨by rw [HX0.out]; rfl, Below.refl _ _⟩
  · have h1 : s.toList.isEmpty = false := by
      rw [ByteArray.toList_eq]
      have := len_data s
      cases hl : s.data.toList with
      | nil => rw [hl, List.length_nil] at this; omega
      | cons a r => rfl
    have HX0 : Hid (X = Pic.expR (Pic.expG s.data.toList.length [] s.data.toList)) := by unfold Hid; rw [hX', ← ByteArray.toList_eq, h1]; rfl
    have HS : Hid (s = mk s.data.toList) := (mk_of s).symm
    obtain ⟨l, hl⟩ : ∃ l, l = s.data.toList := ⟨_, rfl⟩
    have hll : l.length = s.size := by rw [hl, len_data]
    rw [← hl] at HX0 HS
    have HLL := hide hll
    have hll' : l.length ≤ 1000000 := by omega
    clear hX hX' hl hll
    go_enter Tryz.func13, Tryz.ntmps13
    go_wp2_with fail
    go_loopw [4, 5] (fun pv rv wr => ∃ pic rest f, pv = .string (mk pic) ∧ rv = .string (mk rest) ∧ Hid (rest.length ≤ f) ∧ Hid (X = Pic.expR (Pic.expG f pic rest)) ∧ pic.length ≤ 513 ∧ rest.length ≤ 1000000 ∧ Hid (Below w.heap.size w wr)) (fun _ rv _ => strSz rv)
    case atStart => exact ⟨[], l, l.length, rfl, by rw [← HS.out], Nat.le_refl _, HX0.out, by simp, hll', Below.refl _ _⟩
    case round =>
      obtain ⟨pic, rest, f, rfl, rfl, hf, hXr, hp, hrl, hb⟩ := hrel
      obtain ⟨W, rfl⟩ : ∃ W, W = wr := ⟨_, rfl⟩
      obtain ⟨P, hP⟩ : ∃ P, P = mk pic := ⟨_, rfl⟩
      obtain ⟨R, hR⟩ : ∃ R, R = mk rest := ⟨_, rfl⟩
      rw [← hP, ← hR]
      have hPs : P.size = pic.length := by rw [hP, mk_sz]
      have hRs : R.size = rest.length := by rw [hR, mk_sz]
      cases rest with
      | nil =>
        have hRe : R.toList.isEmpty = true := by rw [ByteArray.toList_eq, hR]; rfl
        have HXe : Hid (X = Pic.expR (some pic)) := by unfold Hid; rw [hXr.out, expG_nil]
        have HP := hide hP
        by_cases hl : 256 < pic.length
        · have HX2 : Hid (X = ([], 3)) := by unfold Hid; rw [HXe.out]; unfold Pic.expR; simp only []; rw [if_pos hl]
          have hPl : (256 : Int) < (P.size : Int) := by omega
          clear hP hR hPs hRs HXe hXr
          go_wp2_with fail
          go_ret2
          exact ⟨by rw [HX2.out]; rfl, hb.out⟩
        · have HX2 : Hid (X = (pic, 0)) := by unfold Hid; rw [HXe.out]; unfold Pic.expR; simp only []; rw [if_neg hl]
          have hPl : ¬ (256 : Int) < (P.size : Int) := by omega
          clear hP hR hPs hRs HXe hXr
          go_wp2_with fail
          go_ret2
          exact ⟨by rw [HX2.out, ← HP.out]; rfl, hb.out⟩
      | cons c r =>
        obtain ⟨f, rfl⟩ : ∃ f', f = f' + 1 := ⟨f - 1, by have := hf.out; simp only [List.length_cons] at this; omega⟩
        have hRe : R.toList.isEmpty = false := by rw [ByteArray.toList_eq, hR]; rfl
        have hR1 : 1 ≤ R.size := by rw [hRs]; simp
        have hRm : R.size ≤ 1000000 := by omega
        have hc1 : R.extract 0 1 = ⟨#[c]⟩ := by rw [extract_mk, hR]; rfl
        have hc2 : R.extract 1 R.size = mk r := by
          rw [extract_mk, hR, mk_data, mk_sz]
          show mk (r.take _) = mk r
          rw [List.take_of_length_le (by simp)]
        have hrs : (mk r).size ≤ 1000000 := by rw [mk_sz]; simp only [List.length_cons] at hrl; omega
        have hrep := repeats_c (mk r) W hrs (HE.out W hb.out)
        rw [mk_data] at hrep
        have HREP := hide hrep
        rw [expG_cons] at hXr
        have HF : Hid (r.length ≤ f) := by have := hf.out; simp only [List.length_cons] at this; exact Nat.le_of_succ_le_succ this
        have HRL : Hid (r.length ≤ 999999) := by unfold Hid; simp only [List.length_cons] at hrl; omega
        have HRS : Hid (R.size = r.length + 1) := by unfold Hid; rw [hRs]; rfl
        have HP := hide hP
        have HPS := hide hPs
        clear hP hR hPs hRs hrep hf hrl hrs
        go_wp2_with fail
        clear hc1 hc2
        refine HREP.out.mono ?_
        rintro e W1 (⟨n, b, hr, rfl, hb1⟩ | ⟨hr, n, b, rfl, hb1⟩)
        · have hle := Pic.repL_le r n b hr
          have HX1 : Hid (X = Pic.expR (if Pic.isSym c then Pic.expG f (if pic.length ≤ 256 then pic ++ List.replicate (min n 257) c else pic) b else none)) := by unfold Hid; rw [hXr.out, hr]
          have HBB := hide (hb.out.trans (hb1.mono hb.out.size))
          have hn1 : 1 ≤ n := hle.2.1
          have hn2 : n ≤ 99999 := hle.2.2
          have HBL := hide hle.1
          have HFD := hide (find_c c W1 ((HE.out W1 HBB.out).sym))
          clear hXr hr hb1 hle HREP
          cases hsy : Pic.isSym c with
          | false =>
            have HX2 : Hid (X = ([], 4)) := by unfold Hid; rw [HX1.out, hsy]; rfl
            rw [symV_no' c hsy] at HFD
            clear HX1 hsy
            go_wp2_with fail
            refine HFD.out.mono ?_
            rintro e W2 ⟨rfl, hb2⟩
            have HB2 := hide (HBB.out.trans (hb2.mono HBB.out.size))
            clear hb2
            go_wp2_with fail
            go_ret2
            exact ⟨by rw [HX2.out]; rfl, HB2.out⟩
          | true =>
            have HX2 : Hid (X = Pic.expR (Pic.expG f (if pic.length ≤ 256 then pic ++ List.replicate (min n 257) c else pic) b)) := by unfold Hid; rw [HX1.out, hsy]; rfl
            rw [symV_yes' c hsy] at HFD
            have hz := sym_zero c hsy
            clear HX1 hsy
            go_wp2_with fail
            refine HFD.out.mono ?_
            rintro e W2 ⟨rfl, hb2⟩
            have HB2 := hide (HBB.out.trans (hb2.mono HBB.out.size))
            clear hb2
            by_cases hp6 : pic.length ≤ 256
            · have hP6 : (P.size : Int) ≤ 256 := by have := HPS.out; omega
              rw [if_pos hp6] at HX2
              go_wp2_with fail
              obtain ⟨k, hk⟩ : ∃ k : Nat, k = min n 257 := ⟨_, rfl⟩
              have hmin : min (n : Int) 257 = (k : Int) := by omega
              have hk7 : k ≤ 257 := by omega
              rw [hmin]
              rw [← hk] at HX2
              have HK := hide hk
              clear hmin hk
              refine (Repeat_c c k W2 (by omega)).mono ?_
              rintro e W3 ⟨rfl, hb3⟩
              have HB3 := hide (HB2.out.trans (hb3.mono HB2.out.size))
              obtain ⟨T, hT⟩ : ∃ T, T = mk (List.replicate k c) := ⟨_, rfl⟩
              rw [← hT]
              have hTs : T.size ≤ 257 := by rw [hT, mk_sz, List.length_replicate]; exact hk7
              have HT := hide hT
              clear hb3 hT
              go_wp2_with fail
              go_roundw
              case rel => exact ⟨pic ++ List.replicate k c, b, f, by rw [HP.out, HT.out, app_mk], rfl, Nat.le_trans HBL.out HF.out, HX2.out, by rw [List.length_append, List.length_replicate]; omega, Nat.le_trans HBL.out (Nat.le_succ_of_le HRL.out), HB3.out⟩
              case measure => show (mk b).size < R.size; rw [mk_sz, HRS.out]; have := HBL.out; omega
            · have hP6 : ¬ (P.size : Int) ≤ 256 := by have := HPS.out; omega
              rw [if_neg hp6] at HX2
              go_wp2_with fail
              go_roundw
              case rel => exact ⟨pic, b, f, by rw [HP.out], rfl, Nat.le_trans HBL.out HF.out, HX2.out, hp, Nat.le_trans HBL.out (Nat.le_succ_of_le HRL.out), HB2.out⟩
              case measure => show (mk b).size < R.size; rw [mk_sz, HRS.out]; have := HBL.out; omega
        · have HX2 : Hid (X = ([], 4)) := by unfold Hid; rw [hXr.out, hr]; rfl
          have HBB := hide (hb.out.trans (hb1.mono hb.out.size))
          clear hXr hr hb1 HREP
          go_wp2_with fail
          go_ret2
          exact ⟨by rw [HX2.out]; rfl, HBB.out⟩
end Go.Proofs.YteceealibfemjaaGreatDoor
