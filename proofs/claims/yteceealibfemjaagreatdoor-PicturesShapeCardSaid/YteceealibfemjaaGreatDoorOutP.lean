/-
  CONTRACTS of outline.floating, whole, fraction, tail and read (layer 6, pictures).
-/
import Derived.Test.YteceealibfemjaaGreatDoorTakP
import Derived.RegionTactic
import Derived.BigRegion
namespace Go.Proofs.YteceealibfemjaaGreatDoor
open Go.RowKit Go.Shelf

def Mb (b : Nat) : Nat → Prop := fun j => j = b
theorem OutAt.setSg {w : World} {b g : Nat} {o : Pic.Out} {off cap : Nat} (h : OutAt w b g o off cap) (x : Nat) (v : Int) (hv : v = x) : OutAt (w.setCell ⟨b, 1, none⟩ (.int .i64 v)) b g ⟨o.rest, x, o.d, o.sc⟩ off cap :=
  ⟨by rw [heap_setCell_same w b 1 _ _ _ h.blk, hv]; rfl, h.row.mods ((Mods.refl (Mb b) w).set b 1 _ (fun _ => rfl)) h.ne, h.cap, h.ne⟩
theorem OutAt.setD {w : World} {b g : Nat} {o : Pic.Out} {off cap : Nat} (h : OutAt w b g o off cap) (x : Nat) (v : Int) (hv : v = x) : OutAt (w.setCell ⟨b, 2, none⟩ (.int .i64 v)) b g ⟨o.rest, o.sg, x, o.sc⟩ off cap :=
  ⟨by rw [heap_setCell_same w b 2 _ _ _ h.blk, hv]; rfl, h.row.mods ((Mods.refl (Mb b) w).set b 2 _ (fun _ => rfl)) h.ne, h.cap, h.ne⟩
theorem OutAt.setSc {w : World} {b g : Nat} {o : Pic.Out} {off cap : Nat} (h : OutAt w b g o off cap) (x : Nat) (v : Int) (hv : v = x) : OutAt (w.setCell ⟨b, 3, none⟩ (.int .i64 v)) b g ⟨o.rest, o.sg, o.d, x⟩ off cap :=
  ⟨by rw [heap_setCell_same w b 3 _ _ _ h.blk, hv]; rfl, h.row.mods ((Mods.refl (Mb b) w).set b 3 _ (fun _ => rfl)) h.ne, h.cap, h.ne⟩
theorem takL_sz (kinds : List UInt8) (least most : Nat) (rest : List UInt8) : (Pic.takL kinds least most rest).1.length ≤ 1 ∧ (Pic.takL kinds least most rest).2.1 ≤ rest.length ∧ (Pic.takL kinds least most rest).2.2.length ≤ rest.length := by
  have := Pic.takL_len kinds least most rest
  refine ⟨?_, by omega, by omega⟩
  unfold Pic.takL
  cases rest with
  | nil => simp
  | cons c r => simp only []; split <;> simp
def StrPost (b g : Nat) (r : List UInt8 × Pic.Out) (w : World) (e : Ending) (w' : World) : Prop :=
  e = .returned (.string (mk r.1)) ∧ (∃ off cap, OutAt w' b g r.2 off cap) ∧ Mods (Mb b) w w'
theorem eq_str (l k : List UInt8) : ((mk l).toList == (mk k).toList) = (l == k) := by rw [ByteArray.toList_eq, ByteArray.toList_eq, mk_data, mk_data]
set_option maxRecDepth 100000 in
set_option maxHeartbeats 2000000 in
theorem floating_c (b g : Nat) (o : Pic.Out) (off cap : Nat) (w : World) (hl : o.rest.length ≤ 1000) (hd : o.d ≤ 100000) (hs : o.sg ≤ 100000) (h : OutAt w b g o off cap) :
    Calls Tryz.prog 84 #[.pointer (some ⟨b, 0, none⟩)] w (StrPost b g (Pic.floL o) w) := by
  obtain ⟨t, ht⟩ : ∃ t, t = Pic.takL [36, 43, 45] 2 256 o.rest := ⟨_, rfl⟩
  have hsz := takL_sz [36, 43, 45] 2 256 o.rest
  have HT := hide (take_c ⟨#[36, 43, 45]⟩ 2 256 b g o off cap w (by omega) (by omega) hl h)
  rw [show (⟨#[36, 43, 45]⟩ : ByteArray).data.toList = [36, 43, 45] from rfl, ← ht] at HT
  rw [← ht] at hsz
  have HX : Hid (Pic.floL o = if t.2.1 = 0 then ([], o) else (t.1, ⟨t.2.2, if t.1 = [36] then o.sg else o.sg + 1, o.d + (t.2.1 - 1), o.sc⟩)) := by
    unfold Hid Pic.floL; simp only []; rw [← ht]
  have HZ : Hid (t.2.1 = 0 → t = ([], 0, o.rest)) := fun hz => by
    rw [ht] at hz ⊢
    unfold Pic.takL at hz ⊢
    cases hr : o.rest with
    | nil => rfl
    | cons c r =>
      rw [hr] at hz
      simp only [] at hz ⊢
      split at hz
      · simp [Pic.leadN] at hz
      · rename_i hf; rw [if_neg hf]
  obtain ⟨t1, n, t2⟩ := t
  obtain ⟨hsz1, hsz2, hsz3⟩ := hsz
  simp only [] at hsz1 hsz2 hsz3
  have hn1 : n ≤ 1000 := by omega
  clear ht h hsz2 hsz3 hl
  go_enter Tryz.func84, Tryz.ntmps84
  go_wp2_with fail
  refine HT.out.mono ?_
  rintro e w1 ⟨rfl, ⟨off1, cap1, ho1⟩, hm1⟩
  have HM1 := hide hm1
  clear hm1 HT
  by_cases hn : n = 0
  · have hnz : ((n : Int) == 0) = true := by rw [hn]; rfl
    have HX2 : Hid (Pic.floL o = ([], o)) := by unfold Hid; rw [HX.out]; exact if_pos hn
    have HO1 : Hid (OutAt w1 b g o off1 cap1) := by
      have hh := HZ.out hn
      injection hh with _ h2
      injection h2 with _ h3
      have := ho1
      rw [h3] at this; exact this
    have HN := hide hn
    clear HX HZ ho1 hn
    go_wp2_with fail
    go_ret
    exact ⟨by rw [HX2.out]; rfl, ⟨off1, cap1, by rw [HX2.out]; exact HO1.out⟩, HM1.out⟩
  · have hnz : ((n : Int) == 0) = false := beq_eq_false_iff_ne.2 (by omega)
    obtain ⟨e0, e1, e2, e3⟩ := ho1.cells
    simp only [] at e1 e2 e3
    have g1 := ho1.free 1
    have g2 := ho1.free 2
    have hlt1 := ho1.lt
    have hO2 := ho1.setD (o.d + (n - 1)) ((o.d : Int) + ((n : Int) - 1)) (by omega)
    obtain ⟨q0, q1, q2, q3⟩ := hO2.cells
    simp only [] at q1
    have gq1 := hO2.free 1
    have HO2 := hide hO2
    have HO1 := hide ho1
    obtain ⟨S, hS⟩ : ∃ S, S = mk t1 := ⟨_, rfl⟩
    rw [← hS]
    by_cases h36 : t1 = [36]
    · have hsb : (!(S.toList == [36])) = false := by rw [hS, h36, ByteArray.toList_eq, mk_data]; rfl
      have HX2 : Hid (Pic.floL o = (t1, ⟨t2, o.sg, o.d + (n - 1), o.sc⟩)) := by unfold Hid; rw [HX.out, if_neg hn, if_pos h36]
      have HS := hide hS
      clear HX HZ ho1 hn h36 hS hO2
      go_wp2_with fail
      go_ret
      refine ⟨by rw [HX2.out, HS.out]; rfl, ⟨off1, cap1, by rw [HX2.out]; exact HO2.out⟩, ?_⟩
      exact HM1.out.trans ((Mods.refl (Mb b) w1).set b 2 _ (fun _ => rfl))
    · have hsb : (!(S.toList == [36])) = true := by
        rw [hS, ByteArray.toList_eq, mk_data, beq_eq_false_iff_ne.2 h36]; rfl
      have HX2 : Hid (Pic.floL o = (t1, ⟨t2, o.sg + 1, o.d + (n - 1), o.sc⟩)) := by unfold Hid; rw [HX.out, if_neg hn, if_neg h36]
      have HS := hide hS
      have HO3 := hide (hO2.setSg (o.sg + 1) ((o.sg : Int) + 1) (by omega))
      clear HX HZ ho1 hn h36 hS hO2
      go_wp2_with fail
      go_ret
      refine ⟨by rw [HX2.out, HS.out]; rfl, ⟨off1, cap1, by rw [HX2.out]; exact HO3.out⟩, ?_⟩
      exact HM1.out.trans (((Mods.refl (Mb b) w1).set b 2 _ (fun _ => rfl)).set b 1 _ (fun _ => rfl))
theorem takL_zero (kinds : List UInt8) (least most : Nat) (rest : List UInt8) (hz : (Pic.takL kinds least most rest).2.1 = 0) : Pic.takL kinds least most rest = ([], 0, rest) := by
  unfold Pic.takL at hz ⊢
  cases rest with
  | nil => rfl
  | cons c r =>
    simp only [] at hz ⊢
    split at hz
    · simp [Pic.leadN] at hz
    · rename_i hf; rw [if_neg hf]
theorem floL_sz (o : Pic.Out) : (Pic.floL o).1.length ≤ 1 ∧ (Pic.floL o).2.rest.length ≤ o.rest.length ∧ (Pic.floL o).2.d ≤ o.d + o.rest.length ∧ (Pic.floL o).2.sg ≤ o.sg + 1 := by
  have := takL_sz [36, 43, 45] 2 256 o.rest
  unfold Pic.floL
  simp only []
  split
  · simp
  · refine ⟨this.1, this.2.2, by show o.d + _ ≤ _; omega, ?_⟩
    have : ∀ (c : Prop) [Decidable c], (if c then o.sg else o.sg + 1) ≤ o.sg + 1 := by intro c _; split <;> omega
    exact this _
set_option maxRecDepth 100000 in
set_option maxHeartbeats 2000000 in
/-- the second half of whole: the nines -/
theorem whole_c (b g : Nat) (o : Pic.Out) (off cap : Nat) (w : World) (hl : o.rest.length ≤ 1000) (hd : o.d ≤ 10000) (hs : o.sg ≤ 10000) (h : OutAt w b g o off cap) :
    Calls Tryz.prog 61 #[.pointer (some ⟨b, 0, none⟩)] w (StrPost b g (Pic.whoL o) w) := by
  obtain ⟨t, ht⟩ : ∃ t, t = Pic.takL [90, 42] 1 256 o.rest := ⟨_, rfl⟩
  have hsz := takL_sz [90, 42] 1 256 o.rest
  have HT := hide (take_c ⟨#[90, 42]⟩ 1 256 b g o off cap w (by omega) (by omega) hl h)
  rw [show (⟨#[90, 42]⟩ : ByteArray).data.toList = [90, 42] from rfl, ← ht] at HT
  rw [← ht] at hsz
  obtain ⟨f, hf⟩ : ∃ f, f = if t.2.1 = 0 then Pic.floL ⟨t.2.2, o.sg, o.d + t.2.1, o.sc⟩ else (t.1, ⟨t.2.2, o.sg, o.d + t.2.1, o.sc⟩) := ⟨_, rfl⟩
  obtain ⟨u, hu⟩ : ∃ u, u = Pic.takL [57] 1 256 f.2.rest := ⟨_, rfl⟩
  have HX : Hid (Pic.whoL o = (if 0 < u.2.1 then [57] else if f.1 = [] then [57, 90, 42] else 57 :: f.1, ⟨u.2.2, f.2.sg, f.2.d + u.2.1, f.2.sc⟩)) := by
    unfold Hid Pic.whoL; simp only []; rw [← ht, ← hf, ← hu]
  have husz := takL_sz [57] 1 256 f.2.rest
  rw [← hu] at husz
  obtain ⟨hsz1, hsz2, hsz3⟩ := hsz
  have hn1 : t.2.1 ≤ 1000 := by omega
  have ht2 : t.2.2.length ≤ 1000 := by omega
  have hfs : f.1.length ≤ 1 ∧ f.2.rest.length ≤ 1000 ∧ f.2.d ≤ 20000 ∧ f.2.sg ≤ 20000 := by
    rw [hf]
    split
    · have := floL_sz ⟨t.2.2, o.sg, o.d + t.2.1, o.sc⟩
      simp only [] at this
      refine ⟨this.1, by omega, by omega, by omega⟩
    · exact ⟨hsz1, ht2, by show o.d + _ ≤ _; omega, by show o.sg ≤ _; omega⟩
  obtain ⟨hf1, hf2, hf3, hf4⟩ := hfs
  have hu1 : u.2.1 ≤ 1000 := by omega
  have HFL : Hid (∀ W X C, OutAt W b g ⟨t.2.2, o.sg, o.d + t.2.1, o.sc⟩ X C → Calls Tryz.prog 84 #[.pointer (some ⟨b, 0, none⟩)] W (StrPost b g (Pic.floL ⟨t.2.2, o.sg, o.d + t.2.1, o.sc⟩) W)) := fun W X C hh => floating_c b g _ X C W ht2 (by show o.d + _ ≤ _; omega) (by show o.sg ≤ _; omega) hh
  have HTN : Hid (∀ W X C, OutAt W b g f.2 X C → Calls Tryz.prog 59 #[.pointer (some ⟨b, 0, none⟩), .string ⟨#[57]⟩, .int .i64 ((1 : Nat) : Int), .int .i64 ((256 : Nat) : Int)] W (TakPost b g f.2 u W)) := fun W X C hh => by
    have := take_c ⟨#[57]⟩ 1 256 b g f.2 X C W (by omega) (by omega) hf2 hh
    rw [show (⟨#[57]⟩ : ByteArray).data.toList = [57] from rfl, ← hu] at this
    exact this
  have HU := hide hu
  have HF := hide hf
  clear hu hf ht h husz hsz2 hsz3 hl
  obtain ⟨t1, n, t2⟩ := t
  obtain ⟨f1, fo⟩ := f
  obtain ⟨u1, m, u2⟩ := u
  simp only [] at hn1 ht2 hf1 hf2 hf3 hf4 hu1 hsz1
  go_enter Tryz.func61, Tryz.ntmps61
  go_wp2_with fail
  refine HT.out.mono ?_
  rintro e w1 ⟨rfl, ⟨off1, cap1, ho1⟩, hm1⟩
  obtain ⟨e0, e1, e2, e3⟩ := ho1.cells
  simp only [] at e2
  have g2 := ho1.free 2
  have hlt1 := ho1.lt
  obtain ⟨W2, hW2⟩ : ∃ W2, W2 = w1.setCell ⟨b, 2, none⟩ (.int .i64 ((o.d : Int) + (n : Int))) := ⟨_, rfl⟩
  have HO2 : Hid (OutAt W2 b g ⟨t2, o.sg, o.d + n, o.sc⟩ off1 cap1) := by unfold Hid; rw [hW2]; exact ho1.setD (o.d + n) _ (by omega)
  have HM2 : Hid (Mods (Mb b) w W2) := by unfold Hid; rw [hW2]; exact hm1.trans ((Mods.refl (Mb b) w1).set b 2 _ (fun _ => rfl))
  clear ho1 hm1 HT
  by_cases hn : n = 0
  · have hnz : ((n : Int) == 0) = true := by rw [hn]; rfl
    have HF2 : Hid ((f1, fo) = Pic.floL ⟨t2, o.sg, o.d + n, o.sc⟩) := by unfold Hid; rw [HF.out, if_pos hn]
    have HN := hide hn
    clear hn
    go_upto_region 4 with fail
    with_reducible rw [← hW2]
    clear hW2 e0 e1 e2 e3 g2 hlt1
    go_wp2_with fail
    refine (HFL.out W2 _ _ HO2.out).mono ?_
    rw [← HF2.out]
    rintro e w4 ⟨rfl, ⟨off4, cap4, ho4⟩, hm4⟩
    have HO4 : Hid (OutAt w4 b g fo off4 cap4) := ho4
    have HM4 := hide (HM2.out.trans hm4)
    clear ho4 hm4
    go_wp2_with fail
    refine (HTN.out _ _ _ HO4.out).mono ?_
    rintro e w5 ⟨rfl, ⟨off5, cap5, ho5⟩, hm5⟩
    obtain ⟨e0, e1, e2, e3⟩ := ho5.cells
    simp only [] at e2
    have g2 := ho5.free 2
    have hlt5 := ho5.lt
    have HO6 := hide (ho5.setD (fo.d + m) ((fo.d : Int) + (m : Int)) (by omega))
    have HM5 := hide (HM4.out.trans hm5)
    clear ho5 hm5 HO4 HM4 HTN
    by_cases hu : 0 < m
    · have hud : decide (0 < m) = true := decide_eq_true hu
      have HX3 : Hid (Pic.whoL o = ([57], ⟨u2, fo.sg, fo.d + m, fo.sc⟩)) := by unfold Hid; rw [HX.out]; rw [if_pos hu]
      clear hu HX
      go_wp2_with fail
      go_ret
      exact ⟨by rw [HX3.out]; rfl, ⟨off5, cap5, by rw [HX3.out]; exact HO6.out⟩, HM5.out.trans ((Mods.refl (Mb b) w5).set b 2 _ (fun _ => rfl))⟩
    · have hud : decide (0 < m) = false := decide_eq_false hu
      obtain ⟨S, hS⟩ : ∃ S, S = mk f1 := ⟨_, rfl⟩
      try rw [← hS]
      have hSs : S.size ≤ 1 := by rw [hS, mk_sz]; exact hf1
      by_cases hf : f1 = []
      · have hse : S.toList.isEmpty = true := by rw [hS, ByteArray.toList_eq, hf]; rfl
        have HX3 : Hid (Pic.whoL o = ([57, 90, 42], ⟨u2, fo.sg, fo.d + m, fo.sc⟩)) := by unfold Hid; rw [HX.out]; rw [if_neg hu, if_pos hf]
        have HS := hide hS
        clear hu hf hS HX
        go_wp2_with fail
        go_ret
        exact ⟨by rw [HX3.out]; rfl, ⟨off5, cap5, by rw [HX3.out]; exact HO6.out⟩, HM5.out.trans ((Mods.refl (Mb b) w5).set b 2 _ (fun _ => rfl))⟩
      · have hse : S.toList.isEmpty = false := by
          rw [hS, ByteArray.toList_eq, mk_data]
          cases f1 with
          | nil => exact absurd rfl hf
          | cons _ _ => rfl
        have HX3 : Hid (Pic.whoL o = (57 :: f1, ⟨u2, fo.sg, fo.d + m, fo.sc⟩)) := by unfold Hid; rw [HX.out]; rw [if_neg hu, if_neg hf]
        have HSX : Hid (⟨#[57]⟩ ++ S = mk (57 :: f1)) := by unfold Hid; rw [hS, show (⟨#[57]⟩ : ByteArray) = mk [57] from rfl, app_mk]; rfl
        have HS := hide hS
        clear hu hf hS HX
        go_wp2_with fail
        go_ret
        exact ⟨by rw [HX3.out, ← HSX.out]; rfl, ⟨off5, cap5, by rw [HX3.out]; exact HO6.out⟩, HM5.out.trans ((Mods.refl (Mb b) w5).set b 2 _ (fun _ => rfl))⟩
  · have hnz : ((n : Int) == 0) = false := beq_eq_false_iff_ne.2 (by omega)
    have hff : (f1, fo) = (t1, (⟨t2, o.sg, o.d + n, o.sc⟩ : Pic.Out)) := by rw [HF.out]; exact if_neg hn
    injection hff with hff1 hff2
    have HF1 := hide hff1
    have HO4 : Hid (OutAt W2 b g fo off1 cap1) := by unfold Hid; rw [hff2]; exact HO2.out
    have HM4 := HM2
    have HFT : Hid (mk t1 = mk f1) := by unfold Hid; rw [hff1]
    clear hn hff1 hff2 HFL HF HO2
    go_upto_region 5 with fail
    with_reducible rw [← hW2]
    try with_reducible rw [HFT.out]
    clear hW2 e0 e1 e2 e3 g2 hlt1
    go_wp2_with fail
    refine (HTN.out _ _ _ HO4.out).mono ?_
    rintro e w5 ⟨rfl, ⟨off5, cap5, ho5⟩, hm5⟩
    obtain ⟨e0, e1, e2, e3⟩ := ho5.cells
    simp only [] at e2
    have g2 := ho5.free 2
    have hlt5 := ho5.lt
    have HO6 := hide (ho5.setD (fo.d + m) ((fo.d : Int) + (m : Int)) (by omega))
    have HM5 := hide (HM4.out.trans hm5)
    clear ho5 hm5 HO4 HM4 HTN
    by_cases hu : 0 < m
    · have hud : decide (0 < m) = true := decide_eq_true hu
      have HX3 : Hid (Pic.whoL o = ([57], ⟨u2, fo.sg, fo.d + m, fo.sc⟩)) := by unfold Hid; rw [HX.out]; rw [if_pos hu]
      clear hu HX
      go_wp2_with fail
      go_ret
      exact ⟨by rw [HX3.out]; rfl, ⟨off5, cap5, by rw [HX3.out]; exact HO6.out⟩, HM5.out.trans ((Mods.refl (Mb b) w5).set b 2 _ (fun _ => rfl))⟩
    · have hud : decide (0 < m) = false := decide_eq_false hu
      obtain ⟨S, hS⟩ : ∃ S, S = mk f1 := ⟨_, rfl⟩
      try rw [← hS]
      have hSs : S.size ≤ 1 := by rw [hS, mk_sz]; exact hf1
      by_cases hf : f1 = []
      · have hse : S.toList.isEmpty = true := by rw [hS, ByteArray.toList_eq, hf]; rfl
        have HX3 : Hid (Pic.whoL o = ([57, 90, 42], ⟨u2, fo.sg, fo.d + m, fo.sc⟩)) := by unfold Hid; rw [HX.out]; rw [if_neg hu, if_pos hf]
        have HS := hide hS
        clear hu hf hS HX
        go_wp2_with fail
        go_ret
        exact ⟨by rw [HX3.out]; rfl, ⟨off5, cap5, by rw [HX3.out]; exact HO6.out⟩, HM5.out.trans ((Mods.refl (Mb b) w5).set b 2 _ (fun _ => rfl))⟩
      · have hse : S.toList.isEmpty = false := by
          rw [hS, ByteArray.toList_eq, mk_data]
          cases f1 with
          | nil => exact absurd rfl hf
          | cons _ _ => rfl
        have HX3 : Hid (Pic.whoL o = (57 :: f1, ⟨u2, fo.sg, fo.d + m, fo.sc⟩)) := by unfold Hid; rw [HX.out]; rw [if_neg hu, if_neg hf]
        have HSX : Hid (⟨#[57]⟩ ++ S = mk (57 :: f1)) := by unfold Hid; rw [hS, show (⟨#[57]⟩ : ByteArray) = mk [57] from rfl, app_mk]; rfl
        have HS := hide hS
        clear hu hf hS HX
        go_wp2_with fail
        go_ret
        exact ⟨by rw [HX3.out, ← HSX.out]; rfl, ⟨off5, cap5, by rw [HX3.out]; exact HO6.out⟩, HM5.out.trans ((Mods.refl (Mb b) w5).set b 2 _ (fun _ => rfl))⟩
end Go.Proofs.YteceealibfemjaaGreatDoor
