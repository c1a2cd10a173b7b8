/-
  CONTRACT of outline.read (layer 6, pictures).
-/
import Derived.Test.YteceealibfemjaaGreatDoorOutQ
namespace Go.Proofs.YteceealibfemjaaGreatDoor
open Go.RowKit Go.Shelf

theorem whoL_sz (o : Pic.Out) : (Pic.whoL o).2.rest.length ≤ o.rest.length ∧ (Pic.whoL o).2.d ≤ o.d + 3 * o.rest.length ∧ (Pic.whoL o).2.sg ≤ o.sg + 1 := by
  unfold Pic.whoL
  simp only []
  have h1 := takL_sz [90, 42] 1 256 o.rest
  generalize Pic.takL [90, 42] 1 256 o.rest = t at h1 ⊢
  have hf : ∀ f : List UInt8 × Pic.Out, f = (if t.2.1 = 0 then Pic.floL ⟨t.2.2, o.sg, o.d + t.2.1, o.sc⟩ else (t.1, ⟨t.2.2, o.sg, o.d + t.2.1, o.sc⟩)) → f.2.rest.length ≤ o.rest.length ∧ f.2.d ≤ o.d + 2 * o.rest.length ∧ f.2.sg ≤ o.sg + 1 := by
    intro f hf
    rw [hf]
    split
    · have := floL_sz ⟨t.2.2, o.sg, o.d + t.2.1, o.sc⟩
      simp only [] at this
      exact ⟨by omega, by omega, this.2.2.2⟩
    · exact ⟨h1.2.2, by show o.d + t.2.1 ≤ _; omega, by show o.sg ≤ _; omega⟩
  have hf' := hf _ rfl
  generalize (if t.2.1 = 0 then Pic.floL ⟨t.2.2, o.sg, o.d + t.2.1, o.sc⟩ else (t.1, ⟨t.2.2, o.sg, o.d + t.2.1, o.sc⟩)) = f at hf' ⊢
  have h2 := takL_sz [57] 1 256 f.2.rest
  exact ⟨by show (Pic.takL [57] 1 256 f.2.rest).2.2.length ≤ _; omega, by show f.2.d + (Pic.takL [57] 1 256 f.2.rest).2.1 ≤ _; omega, hf'.2.2⟩
theorem fraL_sz (k : List UInt8) (o : Pic.Out) : (Pic.fraL k o).2.rest.length ≤ o.rest.length ∧ (Pic.fraL k o).2.d ≤ o.d + o.rest.length ∧ (Pic.fraL k o).2.sg ≤ o.sg := by
  unfold Pic.fraL
  simp only []
  have h1 := takL_sz [46, 86] 1 1 o.rest
  generalize Pic.takL [46, 86] 1 1 o.rest = t at h1 ⊢
  have h2 := takL_sz k 1 256 t.2.2
  split
  · exact ⟨Nat.le_refl _, Nat.le_add_right _ _, Nat.le_refl _⟩
  · exact ⟨by show (Pic.takL k 1 256 t.2.2).2.2.length ≤ _; omega, by show o.d + (Pic.takL k 1 256 t.2.2).2.1 ≤ _; omega, Nat.le_refl _⟩
set_option maxRecDepth 100000 in
set_option maxHeartbeats 2000000 in
theorem read_c (b g : Nat) (r : List UInt8) (off cap : Nat) (w : World) (hl : r.length ≤ 1000) (h : OutAt w b g ⟨r, 0, 0, 0⟩ off cap) :
    Calls Tryz.prog 35 #[.pointer (some ⟨b, 0, none⟩)] w fun e w' => e = .returned (.bool (Pic.reaL r).1) ∧ TaiPost b (Pic.reaL r).2 w w' := by
  obtain ⟨t, ht⟩ : ∃ t, t = Pic.takL [43, 45] 1 1 r := ⟨_, rfl⟩
  have hsz := takL_sz [43, 45] 1 1 r
  rw [← ht] at hsz
  have HT := hide (take_c ⟨#[43, 45]⟩ 1 1 b g ⟨r, 0, 0, 0⟩ off cap w (by omega) (by omega) hl h)
  rw [show (⟨#[43, 45]⟩ : ByteArray).data.toList = [43, 45] from rfl, ← ht] at HT
  obtain ⟨u, hu⟩ : ∃ u, u = Pic.takL [36] 1 1 t.2.2 := ⟨_, rfl⟩
  have husz := takL_sz [36] 1 1 t.2.2
  rw [← hu] at husz
  obtain ⟨k, hk⟩ : ∃ k, k = Pic.whoL ⟨u.2.2, t.2.1, 0, 0⟩ := ⟨_, rfl⟩
  have hksz := whoL_sz ⟨u.2.2, t.2.1, 0, 0⟩
  rw [← hk] at hksz
  simp only [] at hksz
  obtain ⟨f, hf⟩ : ∃ f, f = Pic.fraL k.1 k.2 := ⟨_, rfl⟩
  have hfsz := fraL_sz k.1 k.2
  rw [← hf] at hfsz
  have HX : Hid (Pic.reaL r = if f.1 = true then ((Pic.taiL f.2).rest.isEmpty, Pic.taiL f.2) else (false, f.2)) := by
    unfold Hid Pic.reaL; simp only []; rw [← ht, ← hu, ← hk, ← hf]
  have HT2 : Hid (∀ W X C, OutAt W b g ⟨t.2.2, t.2.1, 0, 0⟩ X C → Calls Tryz.prog 59 #[.pointer (some ⟨b, 0, none⟩), .string ⟨#[36]⟩, .int .i64 ((1 : Nat) : Int), .int .i64 ((1 : Nat) : Int)] W (TakPost b g ⟨t.2.2, t.2.1, 0, 0⟩ u W)) := fun W X C hh => by
    have := take_c ⟨#[36]⟩ 1 1 b g ⟨t.2.2, t.2.1, 0, 0⟩ X C W (by omega) (by omega) (by show t.2.2.length ≤ _; omega) hh
    rw [show (⟨#[36]⟩ : ByteArray).data.toList = [36] from rfl, ← hu] at this
    exact this
  have HWH : Hid (∀ W X C, OutAt W b g ⟨u.2.2, t.2.1, 0, 0⟩ X C → Calls Tryz.prog 61 #[.pointer (some ⟨b, 0, none⟩)] W (StrPost b g k W)) := fun W X C hh => by
    have := whole_c b g ⟨u.2.2, t.2.1, 0, 0⟩ X C W (by show u.2.2.length ≤ _; omega) (by show 0 ≤ _; omega) (by show t.2.1 ≤ _; omega) hh
    rw [← hk] at this
    exact this
  have HFR : Hid (∀ W X C, OutAt W b g k.2 X C → Calls Tryz.prog 60 #[.pointer (some ⟨b, 0, none⟩), .string (mk k.1)] W (BolPost b g f W)) := fun W X C hh => by
    have := fraction_c (mk k.1) b g k.2 X C W (by omega) (by omega) hh
    rw [mk_data, ← hf] at this
    exact this
  have HTA : Hid (∀ W X C, OutAt W b g f.2 X C → Calls Tryz.prog 62 #[.pointer (some ⟨b, 0, none⟩)] W fun e w' => e = .returned (.tuple #[]) ∧ TaiPost b (Pic.taiL f.2) W w') := fun W X C hh => tail_c b g f.2 X C W (by omega) (by omega) hh
  obtain ⟨t1, n, t2⟩ := t
  obtain ⟨u1, m, u2⟩ := u
  obtain ⟨k1, k2⟩ := k
  obtain ⟨f1, f2⟩ := f
  obtain ⟨hsz1, hsz2, hsz3⟩ := hsz
  simp only [] at hsz1 hsz2 hsz3
  have hn1 : n ≤ 1000 := by omega
  clear ht hu hk hf h husz hksz hfsz hsz1 hsz2 hsz3 hl
  go_enter Tryz.func35, Tryz.ntmps35
  go_wp2_with fail
  refine HT.out.mono ?_
  rintro e w1 ⟨rfl, ⟨off1, cap1, ho1⟩, hm1⟩
  obtain ⟨e0, e1, e2, e3⟩ := ho1.cells
  simp only [] at e1
  have g1 := ho1.free 1
  have hlt1 := ho1.lt
  obtain ⟨W2, hW2⟩ : ∃ W2, W2 = w1.setCell ⟨b, 1, none⟩ (.int .i64 (n : Int)) := ⟨_, rfl⟩
  have HO2 : Hid (OutAt W2 b g ⟨t2, n, 0, 0⟩ off1 cap1) := by unfold Hid; rw [hW2]; exact ho1.setSg n _ rfl
  have HM2 : Hid (Mods (Mb b) w W2) := by unfold Hid; rw [hW2]; exact hm1.trans ((Mods.refl (Mb b) w1).set b 1 _ (fun _ => rfl))
  clear ho1 hm1 HT
  go_upto_region 2 with fail
  with_reducible rw [← hW2]
  clear hW2 e0 e1 e2 e3 g1 hlt1
  go_wp2_with fail
  refine (HT2.out W2 _ _ HO2.out).mono ?_
  rintro e w3 ⟨rfl, ⟨off3, cap3, ho3⟩, hm3⟩
  have HO3 : Hid (OutAt w3 b g ⟨u2, n, 0, 0⟩ off3 cap3) := ho3
  have HM3 := hide (HM2.out.trans hm3)
  clear ho3 hm3 HO2 HM2 HT2
  go_wp2_with fail
  refine (HWH.out w3 _ _ HO3.out).mono ?_
  rintro e w4 ⟨rfl, ⟨off4, cap4, ho4⟩, hm4⟩
  have HO4 := hide ho4
  have HM4 := hide (HM3.out.trans hm4)
  clear ho4 hm4 HO3 HM3 HWH
  go_wp2_with fail
  refine (HFR.out w4 _ _ HO4.out).mono ?_
  rintro e w5 ⟨rfl, ⟨off5, cap5, ho5⟩, hm5⟩
  have HO5 := hide ho5
  have HM5 := hide (HM4.out.trans hm5)
  clear ho5 hm5 HO4 HM4 HFR
  cases f1 with
  | false =>
    have HX2 : Hid (Pic.reaL r = (false, f2)) := by unfold Hid; rw [HX.out]; exact if_neg (by simp)
    clear HX
    go_wp2_with fail
    go_ret
    exact ⟨by rw [HX2.out]; rfl, ⟨some ⟨g, off5, none⟩, cap5, by rw [HX2.out]; exact HO5.out.blk⟩, HM5.out⟩
  | true =>
    have HX2 : Hid (Pic.reaL r = ((Pic.taiL f2).rest.isEmpty, Pic.taiL f2)) := by unfold Hid; rw [HX.out]; exact if_pos rfl
    clear HX
    go_wp2_with fail
    refine (HTA.out w5 _ _ HO5.out).mono ?_
    rintro e w6 ⟨rfl, ⟨A, cap6, hb6⟩, hm6⟩
    have HM6 := hide (HM5.out.trans hm6)
    have c0 := cell_of_row w6 b 0 _ _ _ hb6
    have HB6 := hide hb6
    obtain ⟨N, hN⟩ : ∃ N, N = (Pic.taiL f2).rest.length := ⟨_, rfl⟩
    have he : ((N : Int) == 0) = (Pic.taiL f2).rest.isEmpty := by
      rw [hN]
      cases (Pic.taiL f2).rest with
      | nil => rfl
      | cons _ _ => simp; omega
    have HE := hide he
    have c0' : w6.cell? ⟨b, 0, none⟩ = some (.slice A N cap6) := by rw [hN]; exact c0
    clear hb6 hm6 c0 he hN HTA
    go_wp2_with fail
    go_ret
    exact ⟨by rw [HX2.out]; exact ret_bool HE.out, ⟨A, cap6, by rw [HX2.out]; exact HB6.out⟩, HM6.out⟩
end Go.Proofs.YteceealibfemjaaGreatDoor
