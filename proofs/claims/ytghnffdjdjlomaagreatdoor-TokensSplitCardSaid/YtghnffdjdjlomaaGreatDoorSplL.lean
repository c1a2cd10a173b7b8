/-
  THE LAW TokensSplit, walked (layer 3, tokens).
-/
import Derived.Test.YtghnffdjdjlomaaGreatDoorSptP
import Derived.Test.YtghnffdjdjlomaaGreatDoorTkE
import Derived.Deep.Cut
import Derived.Deep.DeepCutAuto
namespace Go.Proofs.YtghnffdjdjlomaaGreatDoor
open Go.RowKit Go.Shelf

set_option maxRecDepth 100000 in
theorem SplitLaw_far (A C : Option Addr) (n m ca cb : Nat) (w : World) (h : 100 < n ∨ 100 < m) (hn : n ≤ maxLen) (hm' : m ≤ maxLen) (hm : MaxI w) :
    Calls Tryz.prog 7 #[.slice A n ca, .slice C m cb] w fun e w' => e = .returned (.bool true) ∧ Below w.heap.size w w' := by
  unfold maxLen at hn hm'
  have HL := hide (livesT_c w hm)
  clear hm
  by_cases h1 : 100 < n
  · clear h
    go_enter Tryz.func7, Tryz.ntmps7
    go_wp2_with fail
    refine HL.out.mono ?_
    rintro e w1 ⟨rfl, hb⟩
    go_wp2_with fail
    go_ret
    exact ⟨rfl, hb⟩
  · have h2 : 100 < m := by omega
    clear h
    go_enter Tryz.func7, Tryz.ntmps7
    go_wp2_with fail
    refine HL.out.mono ?_
    rintro e w1 ⟨rfl, hb⟩
    go_wp2_with fail
    go_ret
    exact ⟨rfl, hb⟩
theorem PartsAt.cell {w : World} {B : Nat} {LA : Option Addr} {lc : Nat} {ps : List (Nat × List TokL)} (h : PartsAt w B (.slice LA ps.length lc) ps) (i : Nat) (hi : i < ps.length) : ∃ g, LA = some ⟨g, 0, none⟩ ∧ g < w.heap.size ∧ w.cell? ⟨g, i, none⟩ = some (partV ps[i]) := by
  obtain ⟨g, cap', e, _, hlt⟩ := World.ownsRow.form h.own (by omega)
  injection e with e1 e2 e3
  subst e1
  refine ⟨g, rfl, hlt, ?_⟩
  rw [h.own.cellAt i (by omega), List.getElem?_map, List.getElem?_eq_getElem hi]
  rfl
theorem Parts.len {l : List TokL} {ps : List (List TokL)} (h : Parts l ps) : ps.length ≤ l.length := by
  induction h with
  | nil => exact Nat.zero_le _
  | last l h0 _ => exact h0
  | cons a t r ps _ _ _ ih => rw [List.length_append, List.length_cons, List.length_cons]; omega
set_option maxRecDepth 100000 in
set_option maxHeartbeats 2000000 in
theorem SplitLaw_near (ts us : List TokL) (A C : Option Addr) (ca cb : Nat) (w : World) (hts : TokIn w w.heap.size A ts) (hus : TokIn w w.heap.size C us) (hn : ts.length ≤ 100) (hn2 : us.length ≤ 100) (hca : ts.length ≤ ca) (hcm : ca ≤ maxLen) (hm : MaxI w) :
    Calls Tryz.prog 7 #[.slice A ts.length ca, .slice C us.length cb] w fun e w' => e = .returned (.bool true) ∧ Below w.heap.size w w' := by
  have HL : Hid (∀ w1, Below w.heap.size w w1 → Calls Tryz.prog 13 #[] w1 fun e w' => e = .returned (.bool true) ∧ Below w1.heap.size w1 w') := fun w1 hb => livesT_c w1 (hm.below hb)
  have HS := hide (Split_c ts A ca w hts (by omega) hca hcm)
  have HE1 : Hid (∀ w1, Below w.heap.size w w1 → Calls Tryz.prog 20 #[.slice A ts.length ca, .slice C us.length cb] w1 fun e w' => e = .returned (.bool (sameL ts us)) ∧ Below w1.heap.size w1 w') := fun w1 hb =>
    Same_c ts us A C ca cb w.heap.size w1 (hts.below hb _ (Nat.le_refl _)) (hus.below hb _ (Nat.le_refl _)) hb.size (by omega) (by omega)
  have HE2 : Hid (∀ w1, Below w.heap.size w w1 → Calls Tryz.prog 20 #[.slice A ts.length ca, .slice A ts.length ca] w1 fun e w' => e = .returned (.bool true) ∧ Below w1.heap.size w1 w') := fun w1 hb => by
    have h := Same_c ts ts A A ca ca w.heap.size w1 (hts.below hb _ (Nat.le_refl _)) (hts.below hb _ (Nat.le_refl _)) hb.size (by omega) (by omega)
    rw [show sameL ts ts = true from decide_eq_true rfl] at h
    exact h
  have HTS := hide hts
  have HUS := hide hus
  have HPT := hide (split_parts ts)
  obtain ⟨n, hn'⟩ : ∃ n, n = ts.length := ⟨_, rfl⟩
  obtain ⟨m, hm'⟩ : ∃ m, m = us.length := ⟨_, rfl⟩
  obtain ⟨R, hR⟩ : ∃ R, R = sameL ts us := ⟨_, rfl⟩
  rw [← hR] at HE1
  rw [← hm'] at hn2 HE1 ⊢
  rw [← hn'] at hn hca HE1 HE2 HS ⊢
  have HN := hide hn'
  have HM := hide hm'
  have HR := hide hR
  clear hts hus hm hn' hm' hR
  go_enter Tryz.func7, Tryz.ntmps7
  go_wp2_with fail
  refine HS.out.mono ?_
  rintro e w1 ⟨LA, lc, ps, rfl, hP, hsp, hb1⟩
  obtain ⟨W1, rfl⟩ : ∃ W, W = w1 := ⟨_, rfl⟩
  obtain ⟨Q, hQ⟩ : ∃ Q, Q = ps.map (·.2) := ⟨_, rfl⟩
  rw [← hsp, ← hQ] at HPT
  have hQl : Q.length = ps.length := by rw [hQ, List.length_map]
  have HQ := hide hQ
  have HQL := hide hQl
  have HP := hide hP
  have HB1 := hide hb1
  have hps : ps.length ≤ 101 := by
    have h1 := HPT.out.len
    have h2 := HN.out
    omega
  clear hP hsp hb1 hQ hQl HS
  go_wp2_with fail
  go_loopw [6, 7] (fun v6 v7 wr => ∃ i : Nat, i ≤ ps.length ∧ v7 = .int .i64 (i : Int) ∧ v6 = .int .i64 ((min (startL Q i) n : Nat) : Int) ∧ Below W1.heap.size W1 wr) (fun _ v7 _ => ps.length - (intOf v7).toNat)
  case atStart => exact ⟨0, Nat.zero_le _, rfl, by simp [startL], Below.refl _ _⟩
  case round =>
    obtain ⟨i, hi, rfl, rfl, hb⟩ := hrel
    by_cases hlt : i < ps.length
    · obtain ⟨g, rfl, hgl, hgc⟩ := HP.out.cell i hlt
      have hpo := HPT.out.at_ i (by rw [HQL.out]; exact hlt)
      have hQi : Q[i]'(by rw [HQL.out]; exact hlt) = ps[i].2 := by
        have := HQ.out
        subst this
        rw [List.getElem_map]
      rw [hQi] at hpo
      have hk0 : min (startL Q i) n = startL Q i := by have := hpo.le; have := HN.out; omega
      rw [hk0]
      obtain ⟨p, hp⟩ : ∃ p, p = ps[i] := ⟨_, rfl⟩
      have hblk := HP.out.blks ps[i] (List.getElem_mem hlt)
      rw [← hp] at hpo hgc hblk
      obtain ⟨pb, pl⟩ := p
      obtain ⟨k, hk⟩ : ∃ k, k = startL Q i := ⟨_, rfl⟩
      have hks := startL_succ Q i (by rw [HQL.out]; exact hlt)
      rw [hQi, ← hp, ← hk] at hks
      rw [← hk]
      obtain ⟨W2, rfl⟩ : ∃ W, W = wr := ⟨_, rfl⟩
      obtain ⟨ln, hln⟩ : ∃ ln, ln = pl.length := ⟨_, rfl⟩
      have c0 : W2.cell? ⟨g, i, none⟩ = some (.slice (some ⟨pb, 0, none⟩) ln ln) := by rw [hln]; exact (World.cell?_of_block (hb.block g hgl)).trans hgc
      have hkn : k + ln ≤ n := by have := hpo.le; have := HN.out; simp only at *; omega
      have HPO := hide hpo
      have HBK := hide hblk
      have HB := hide hb
      have HKS := hide hks
      have HLN := hide hln
      have HK := hide hk
      have HGC : Hid (W1.cell? ⟨g, i, none⟩ = some (.slice (some ⟨pb, 0, none⟩) ln ln)) := by unfold Hid; rw [hln]; exact hgc
      clear hpo hblk hb hks hln hk hk0 hQi hp hgc
      go_upto_region 8 with fail
      go_quiet (fail)
      have HB2 : Hid (Below W1.heap.size W1 (W2.drewN nq)) := below_drewN HB.out nq
      obtain ⟨W3, hW3⟩ : ∃ W3, W3 = W2.drewN nq := ⟨_, rfl⟩
      rw [← hW3] at HB2 ⊢
      clear hW3
      have hg3 : g < W1.heap.size := hgl
      have HCC : Hid (∀ W, Below W1.heap.size W1 W → W.cell? ⟨g, i, none⟩ = some (.slice (some ⟨pb, 0, none⟩) ln ln)) := fun W hb => (World.cell?_of_block (hb.block g hg3)).trans HGC.out
      have c1 : W3.cell? ⟨g, i, none⟩ = some (.slice (some ⟨pb, 0, none⟩) ln ln) := HCC.out W3 HB2.out
      go_wp2_with fail
      go_loopw [6, 8] (fun v6 v8 wr => ∃ j : Nat, j ≤ ln ∧ v8 = .int .i64 (j : Int) ∧ v6 = .int .i64 ((k + j : Nat) : Int) ∧ Below W3.heap.size W3 wr) (fun _ v8 _ => ln - (intOf v8).toNat)
      case atStart => exact ⟨0, Nat.zero_le _, rfl, rfl, Below.refl _ _⟩
      case round =>
        obtain ⟨j, hj, rfl, rfl, hb⟩ := hrel
        obtain ⟨W4, rfl⟩ : ∃ W, W = wr := ⟨_, rfl⟩
        by_cases hjl : j < ln
        · obtain ⟨hat, hk6⟩ := HPO.out.at_ j (by rw [← HLN.out]; exact hjl)
          have hkj : k + j < n := by omega
          obtain ⟨b, off, rfl, hbl, q0, q1, q2, q3, q4⟩ := HTS.out.at_ (k + j) (by rw [← HN.out]; exact hkj)
          have htk : ts[k + j]'(by rw [← HN.out]; exact hkj) = pl[j]'(by rw [← HLN.out]; exact hjl) := by
            rw [← HK.out, List.getElem?_eq_getElem (by rw [← HN.out]; exact hkj)] at hat
            exact Option.some.inj hat
          rw [htk] at q0 q1 q2 q3 q4
          have HB4 : Hid (Below W1.heap.size W1 W4) := HB2.out.trans (hb.mono HB2.out.size)
          have HBA : Hid (Below w.heap.size w W4) := HB1.out.trans (HB4.out.mono HB1.out.size)
          have hpc := tokCells_at pl j (by rw [← HLN.out]; exact hjl)
          obtain ⟨t, ht⟩ : ∃ t, t = pl[j]'(by rw [← HLN.out]; exact hjl) := ⟨_, rfl⟩
          rw [← ht] at q0 q1 q2 q3 q4 hk6 hpc
          obtain ⟨K, hK⟩ : ∃ K, K = t.kind := ⟨_, rfl⟩
          obtain ⟨X, hX⟩ : ∃ X, X = mk t.text := ⟨_, rfl⟩
          rw [← hK] at hk6
          have m0 : W4.cell? ⟨b, off + (k + j) * 5, none⟩ = some (.int .u8 K) := by rw [hK]; exact (World.cell?_of_block (HBA.out.block b hbl)).trans q0
          have m1 : W4.cell? ⟨b, off + (k + j) * 5 + 1, none⟩ = some (.string X) := by rw [hX]; exact (World.cell?_of_block (HBA.out.block b hbl)).trans q1
          have m2 : W4.cell? ⟨b, off + (k + j) * 5 + 2, none⟩ = some (.int .i64 t.line) := (World.cell?_of_block (HBA.out.block b hbl)).trans q2
          have m3 : W4.cell? ⟨b, off + (k + j) * 5 + 3, none⟩ = some (.int .i64 t.col) := (World.cell?_of_block (HBA.out.block b hbl)).trans q3
          have m4 : W4.cell? ⟨b, off + (k + j) * 5 + 4, none⟩ = some (.bool t.left) := (World.cell?_of_block (HBA.out.block b hbl)).trans q4
          have r0 : W4.cell? ⟨pb, j * 5, none⟩ = some (.int .u8 K) := by rw [(blk_kept HB4.out HBK.out.2).cell, List.getElem?_toArray, hpc.1]; rw [hK]
          have r1 : W4.cell? ⟨pb, j * 5 + 1, none⟩ = some (.string X) := by rw [(blk_kept HB4.out HBK.out.2).cell, List.getElem?_toArray, hpc.2.1]; rw [hX]
          have r2 : W4.cell? ⟨pb, j * 5 + 2, none⟩ = some (.int .i64 t.line) := by rw [(blk_kept HB4.out HBK.out.2).cell, List.getElem?_toArray, hpc.2.2.1]
          have r3 : W4.cell? ⟨pb, j * 5 + 3, none⟩ = some (.int .i64 t.col) := by rw [(blk_kept HB4.out HBK.out.2).cell, List.getElem?_toArray, hpc.2.2.2.1]
          have r4 : W4.cell? ⟨pb, j * 5 + 4, none⟩ = some (.bool t.left) := by rw [(blk_kept HB4.out HBK.out.2).cell, List.getElem?_toArray, hpc.2.2.2.2]
          have c4 := HCC.out W4 HB4.out
          have HB5 := hide hb
          obtain ⟨kj, hkj'⟩ : ∃ kj, kj = k + j := ⟨_, rfl⟩
          rw [← hkj'] at m0 m1 m2 m3 m4 hkj ⊢
          have hge : decide ((n : Int) ≤ (kj : Int)) = false := decide_eq_false (by omega)
          have HKJ := hide hkj'
          clear hkj'
          clear q0 q1 q2 q3 q4 ht hK hX hpc htk hat c0 c1
          go_upto_region 13 with fail
          go_quiet (fail)
          clear hb
          go_wp2_with fail
          refine ⟨⟨j + 1, hjl, by go_num, ?_, below_drewN HB5.out _⟩, by simp [intOf]; omega⟩
          rw [HKJ.out]; go_num
        · obtain rfl : j = ln := by omega
          have HB4 : Hid (Below W1.heap.size W1 W4) := HB2.out.trans (hb.mono HB2.out.size)
          have c4 := HCC.out W4 HB4.out
          obtain ⟨kl, hkl⟩ : ∃ kl, kl = k + j := ⟨_, rfl⟩
          rw [← hkl]
          have HKL := hide hkl
          rcases HPO.out.end_ with ⟨t, htt, ht6⟩ | ⟨he1, he2, he3⟩
          · have hlt2 : kl < n := by
              have := (List.getElem?_eq_some_iff.1 htt).1
              rw [← HN.out, ← HK.out, ← HLN.out] at this; omega
            obtain ⟨b, off, rfl, hbl, q0, -⟩ := HTS.out.at_ kl (by rw [← HN.out]; exact hlt2)
            have htk : ts[kl]'(by rw [← HN.out]; exact hlt2) = t := by
              rw [← HK.out, ← HLN.out, ← HKL.out, List.getElem?_eq_getElem (by rw [← HN.out]; exact hlt2)] at htt
              exact Option.some.inj htt
            rw [htk] at q0
            have HBA : Hid (Below w.heap.size w W4) := HB1.out.trans (HB4.out.mono HB1.out.size)
            have m0 : W4.cell? ⟨b, off + kl * 5, none⟩ = some (.int .u8 t.kind) := (World.cell?_of_block (HBA.out.block b hbl)).trans q0
            clear hb c0 c1 hkl q0 htk htt
            go_wp2_with fail
            go_roundw
            case rel => exact ⟨i + 1, hlt, by go_num, by congr 1; have := HKS.out; have := HLN.out; have := HKL.out; omega, HB4.out⟩
            case measure => simp [intOf]; omega
          · have hkn2 : ¬ kl < n := by have := HN.out; have := HK.out; have := HLN.out; omega
            have hne : ((i : Int) != (ps.length : Int) - 1) = false := by have := HQL.out; simp; omega
            have hl0 : ((j : Int) == 0) = false := by have := HLN.out; simp; omega
            clear hb c0 c1 hkl he1 he2 he3
            go_wp2_with fail
            go_roundw
            case rel => exact ⟨i + 1, hlt, by go_num, by congr 1; have := HKS.out; have := HLN.out; have := HKL.out; omega, HB4.out⟩
            case measure => simp [intOf]; omega
    · obtain rfl : i = ps.length := by omega
      have hv6 : min (startL Q ps.length) n = n := by
        have h1 := HPT.out.end_
        rw [HQL.out, ← HN.out] at h1
        exact Nat.min_eq_right h1
      rw [hv6]
      obtain ⟨W2, rfl⟩ : ∃ W, W = wr := ⟨_, rfl⟩
      have HB := hide hb
      clear hb hv6 hi hlt
      go_wp2_with fail
      go_loopw [9, 10] (fun v9 v10 wr => ∃ (i : Nat) (b : Bool), i ≤ n ∧ v10 = .int .i64 (i : Int) ∧ v9 = .bool b ∧ (b = true → n = m ∧ ∀ j (h1 : j < ts.length) (h2 : j < us.length), j < i → sameT ts[j] us[j] = true) ∧ (b = false → R = false) ∧ Below W1.heap.size W1 wr) (fun _ v10 _ => n - (intOf v10).toNat)
      case atStart =>
        obtain ⟨b, hb⟩ : ∃ b : Bool, b = ((n : Int) == (m : Int)) := ⟨_, rfl⟩
        refine ⟨0, b, Nat.zero_le _, rfl, by rw [hb], fun h => ⟨?_, fun j _ _ hj => by omega⟩, fun h => ?_, HB.out⟩
        · rw [hb] at h; have := eq_of_beq h; omega
        · rw [hb] at h; have := ne_of_beq_false h; rw [HR.out]; exact sameL_len (by rw [← HN.out, ← HM.out]; omega)
      case round =>
        obtain ⟨i, b, hi, rfl, rfl, ht, hf, hb⟩ := hrel
        obtain ⟨W3, rfl⟩ : ∃ W, W = wr := ⟨_, rfl⟩
        have HT := hide ht
        have HF := hide hf
        have HBw := hide hb
        clear ht hf hb
        have HB3 : Hid (Below w.heap.size w W3) := HB1.out.trans (HBw.out.mono HB1.out.size)
        by_cases hlt : i < n
        · cases b
          · have hRf := HF.out rfl
            rw [hRf] at HE1
            clear hRf
            go_wp2_with fail
            refine (HE1.out _ HB3.out).mono ?_
            rintro e w4 ⟨rfl, hb4⟩
            have HB4 := hide (HB3.out.trans (hb4.mono HB3.out.size))
            clear hb4
            go_wp2_with fail
            refine (HE2.out _ HB4.out).mono ?_
            rintro e w5 ⟨rfl, hb5⟩
            have HB5 := hide (HB4.out.trans (hb5.mono HB4.out.size))
            clear hb5
            go_wp2_with fail
            refine (HL.out _ HB5.out).mono ?_
            rintro e w6 ⟨rfl, hb6⟩
            have HB6 := hide (HB5.out.trans (hb6.mono HB5.out.size))
            clear hb6
            go_wp2_with fail
            go_ret
            exact ⟨rfl, HB6.out⟩
          · have HNM := hide (HT.out rfl).1
            have him : i < m := by have := HNM.out; omega
            obtain ⟨bb, off, rfl, hbl, p0, p1, -⟩ := HTS.out.at_ i (by rw [← HN.out]; exact hlt)
            obtain ⟨cb', oc, rfl, hcl, q0, q1, -⟩ := HUS.out.at_ i (by rw [← HM.out]; exact him)
            have hT1 := HT.out rfl
            have hS1 : sameT (ts[i]'(by rw [← HN.out]; exact hlt)) (us[i]'(by rw [← HM.out]; exact him)) = true → ∀ j (h1 : j < ts.length) (h2 : j < us.length), j < i + 1 → sameT ts[j] us[j] = true := fun h j h1 h2 hj => by
              by_cases e : j = i
              · subst e; exact h
              · exact hT1.2 j h1 h2 (by omega)
            have hS2 : sameT (ts[i]'(by rw [← HN.out]; exact hlt)) (us[i]'(by rw [← HM.out]; exact him)) = false → R = false := fun h => by
              rw [HR.out]; exact sameL_at i (by rw [← HN.out]; exact hlt) (by rw [← HM.out]; exact him) h
            obtain ⟨t, ht⟩ : ∃ t, t = ts[i]'(by rw [← HN.out]; exact hlt) := ⟨_, rfl⟩
            obtain ⟨u, hu⟩ : ∃ u, u = us[i]'(by rw [← HM.out]; exact him) := ⟨_, rfl⟩
            rw [← ht] at p0 p1 hS1 hS2
            rw [← hu] at q0 q1 hS1 hS2
            have c0 : W3.cell? ⟨bb, off + i * 5, none⟩ = some (.int .u8 t.kind) := (World.cell?_of_block (HB3.out.block bb hbl)).trans p0
            have c1 : W3.cell? ⟨bb, off + i * 5 + 1, none⟩ = some (.string (mk t.text)) := (World.cell?_of_block (HB3.out.block bb hbl)).trans p1
            have d0 : W3.cell? ⟨cb', oc + i * 5, none⟩ = some (.int .u8 u.kind) := (World.cell?_of_block (HB3.out.block cb' hcl)).trans q0
            have d1 : W3.cell? ⟨cb', oc + i * 5 + 1, none⟩ = some (.string (mk u.text)) := (World.cell?_of_block (HB3.out.block cb' hcl)).trans q1
            obtain ⟨K, hK⟩ : ∃ K, K = t.kind := ⟨_, rfl⟩
            obtain ⟨M, hM⟩ : ∃ M, M = u.kind := ⟨_, rfl⟩
            obtain ⟨X, hX⟩ : ∃ X, X = mk t.text := ⟨_, rfl⟩
            obtain ⟨Y, hY⟩ : ∃ Y, Y = mk u.text := ⟨_, rfl⟩
            rw [← hK] at c0
            rw [← hX] at c1
            rw [← hM] at d0
            rw [← hY] at d1
            clear p0 p1 q0 q1 ht hu hT1
            have hwr : IntKind.i64.wrap ((i : Int) + 1) = (i : Int) + 1 := IntWalk.i64_in _ (by omega)
            by_cases hk : K = M
            · by_cases hx : X = Y
              · have HST : Hid (∀ j (h1 : j < ts.length) (h2 : j < us.length), j < i + 1 → sameT ts[j] us[j] = true) := hS1 (by
                  unfold sameT
                  rw [decide_eq_true (by rw [← hK, ← hM]; exact hk), decide_eq_true (mk_inj (by rw [← hX, ← hY]; exact hx))]; rfl)
                clear hS1 hS2 hK hM hX hY hwr
                subst hk hx
                go_upto_region 24 with fail
                go_quiet (fail)
                go_wp2_with fail
                go_roundw
                case rel => exact ⟨i + 1, true, hlt, by go_num, rfl, fun _ => ⟨HNM.out, HST.out⟩, fun h => by (cases h), below_drewN HBw.out _⟩
                case measure => simp [intOf]; omega
              · have hxy : (X.toList == Y.toList) = false := by
                  rw [ByteArray.toList_eq, ByteArray.toList_eq]
                  refine beq_eq_false_iff_ne.2 fun e => hx ?_
                  exact ByteArray.ext (Array.toList_inj.1 e)
                have HRF : Hid (R = false) := hS2 (by
                  unfold sameT
                  rw [decide_eq_false (p := t.text = u.text) (fun e => hx (by rw [hX, hY, e])), Bool.and_false])
                clear hS1 hS2 hK hM hX hY hx hwr
                subst hk
                go_upto_region 24 with fail
                go_quiet (fail)
                go_wp2_with fail
                go_roundw
                case rel => exact ⟨i + 1, false, hlt, by go_num, rfl, fun h => by (cases h), fun _ => HRF.out, below_drewN HBw.out _⟩
                case measure => simp [intOf]; omega
            · have hkm : (K == M) = false := by simpa using hk
              have HRF : Hid (R = false) := hS2 (by
                unfold sameT
                rw [decide_eq_false (p := t.kind = u.kind) (fun e => hk (by rw [hK, hM, e])), Bool.false_and])
              clear hS1 hS2 hK hM hX hY hk hwr
              go_upto_region 24 with fail
              go_quiet (fail)
              go_wp2_with fail
              go_roundw
              case rel => exact ⟨i + 1, false, hlt, by go_num, rfl, fun h => by (cases h), fun _ => HRF.out, below_drewN HBw.out _⟩
              case measure => simp [intOf]; omega
        · obtain rfl : i = n := by omega
          have hRb : R = b := by
            cases b with
            | false => exact HF.out rfl
            | true =>
              rw [HR.out]
              have h1 := HT.out rfl
              exact sameL_all (by rw [← HN.out, ← HM.out]; exact h1.1) (fun k ha hb => h1.2 k ha hb (by rw [HN.out]; exact ha))
          rw [hRb] at HE1
          clear hRb
          go_wp2_with fail
          refine (HE1.out _ HB3.out).mono ?_
          rintro e w4 ⟨rfl, hb4⟩
          have HB4 := hide (HB3.out.trans (hb4.mono HB3.out.size))
          clear hb4
          go_wp2_with fail
          refine (HE2.out _ HB4.out).mono ?_
          rintro e w5 ⟨rfl, hb5⟩
          have HB5 := hide (HB4.out.trans (hb5.mono HB4.out.size))
          clear hb5
          go_wp2_with fail
          refine (HL.out _ HB5.out).mono ?_
          rintro e w6 ⟨rfl, hb6⟩
          have HB6 := hide (HB5.out.trans (hb6.mono HB5.out.size))
          clear hb6
          go_wp2_with fail
          go_ret
          exact ⟨rfl, HB6.out⟩
end Go.Proofs.YtghnffdjdjlomaaGreatDoor
