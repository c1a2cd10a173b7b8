/-
  CONTRACTS of outline.fraction, tail and read (layer 6, pictures).
-/
import Derived.Test.YteceealibfemjaaGreatDoorOutP
namespace Go.Proofs.YteceealibfemjaaGreatDoor
open Go.RowKit Go.Shelf

def BolPost (b g : Nat) (r : Bool × Pic.Out) (w : World) (e : Ending) (w' : World) : Prop :=
  e = .returned (.bool r.1) ∧ (∃ off cap, OutAt w' b g r.2 off cap) ∧ Mods (Mb b) w w'
set_option maxRecDepth 100000 in
set_option maxHeartbeats 2000000 in
theorem fraction_c (kinds : ByteArray) (b g : Nat) (o : Pic.Out) (off cap : Nat) (w : World) (hl : o.rest.length ≤ 1000) (hd : o.d ≤ 100000) (h : OutAt w b g o off cap) :
    Calls Tryz.prog 60 #[.pointer (some ⟨b, 0, none⟩), .string kinds] w (BolPost b g (Pic.fraL kinds.data.toList o) w) := by
  obtain ⟨t, ht⟩ : ∃ t, t = Pic.takL [46, 86] 1 1 o.rest := ⟨_, rfl⟩
  have hsz := takL_sz [46, 86] 1 1 o.rest
  have HT := hide (take_c ⟨#[46, 86]⟩ 1 1 b g o off cap w (by omega) (by omega) hl h)
  rw [show (⟨#[46, 86]⟩ : ByteArray).data.toList = [46, 86] from rfl, ← ht] at HT
  rw [← ht] at hsz
  obtain ⟨u, hu⟩ : ∃ u, u = Pic.takL kinds.data.toList 1 256 t.2.2 := ⟨_, rfl⟩
  have husz := takL_sz kinds.data.toList 1 256 t.2.2
  rw [← hu] at husz
  have HX : Hid (Pic.fraL kinds.data.toList o = if t.2.1 = 0 then (true, o) else (decide (0 < u.2.1) || t.1 == [86], ⟨u.2.2, o.sg, o.d + u.2.1, u.2.1⟩)) := by
    unfold Hid Pic.fraL; simp only []; rw [← ht, ← hu]
  have HZ : Hid (t.2.1 = 0 → t = ([], 0, o.rest)) := fun hz => by rw [ht] at hz ⊢; exact takL_zero _ _ _ _ hz
  have HTN : Hid (∀ W X C, OutAt W b g ⟨t.2.2, o.sg, o.d, o.sc⟩ X C → Calls Tryz.prog 59 #[.pointer (some ⟨b, 0, none⟩), .string kinds, .int .i64 ((1 : Nat) : Int), .int .i64 ((256 : Nat) : Int)] W (TakPost b g ⟨t.2.2, o.sg, o.d, o.sc⟩ u W)) := fun W X C hh => by
    have := take_c kinds 1 256 b g ⟨t.2.2, o.sg, o.d, o.sc⟩ X C W (by omega) (by omega) (by show t.2.2.length ≤ _; omega) hh
    rw [← hu] at this
    exact this
  obtain ⟨t1, n, t2⟩ := t
  obtain ⟨u1, m, u2⟩ := u
  obtain ⟨hsz1, hsz2, hsz3⟩ := hsz
  obtain ⟨husz1, husz2, husz3⟩ := husz
  simp only [] at hsz1 hsz2 hsz3 husz1 husz2 husz3
  have hn1 : n ≤ 1000 := by omega
  have hm1 : m ≤ 1000 := by omega
  clear ht hu h hsz2 hsz3 husz1 husz2 husz3 hl
  go_enter Tryz.func60, Tryz.ntmps60
  go_wp2_with fail
  refine HT.out.mono ?_
  rintro e w1 ⟨rfl, ⟨off1, cap1, ho1⟩, hm1'⟩
  have HM1 : Hid (Mods (Mb b) w w1) := hm1'
  have HO1 := hide ho1
  clear hm1' ho1 HT
  by_cases hn : n = 0
  · have hnz : ((n : Int) == 0) = true := by rw [hn]; rfl
    have HX2 : Hid (Pic.fraL kinds.data.toList o = (true, o)) := by unfold Hid; rw [HX.out]; exact if_pos hn
    have HO2 : Hid (OutAt w1 b g o off1 cap1) := by
      have hh := HZ.out hn
      injection hh with _ h2
      injection h2 with _ h3
      have := HO1.out
      rw [h3] at this; exact this
    have HN := hide hn
    clear HX HZ hn HTN
    go_wp2_with fail
    go_ret
    exact ⟨by rw [HX2.out]; rfl, ⟨off1, cap1, by rw [HX2.out]; exact HO2.out⟩, HM1.out⟩
  · have hnz : ((n : Int) == 0) = false := beq_eq_false_iff_ne.2 (by omega)
    have HX2 : Hid (Pic.fraL kinds.data.toList o = (decide (0 < m) || t1 == [86], ⟨u2, o.sg, o.d + m, m⟩)) := by unfold Hid; rw [HX.out]; exact if_neg hn
    clear HX HZ hn
    go_wp2_with fail
    refine (HTN.out _ _ _ HO1.out).mono ?_
    rintro e w5 ⟨rfl, ⟨off5, cap5, ho5⟩, hm5⟩
    obtain ⟨e0, e1, e2, e3⟩ := ho5.cells
    simp only [] at e1 e2 e3
    have g3 := ho5.free 3
    have hlt5 := ho5.lt
    obtain ⟨W6, hW6⟩ : ∃ W6, W6 = w5.setCell ⟨b, 3, none⟩ (.int .i64 (m : Int)) := ⟨_, rfl⟩
    have hO6 : OutAt W6 b g ⟨u2, o.sg, o.d, m⟩ off5 cap5 := by rw [hW6]; exact ho5.setSc m _ rfl
    have HM6 : Hid (Mods (Mb b) w W6) := by unfold Hid; rw [hW6]; exact (HM1.out.trans hm5).trans ((Mods.refl (Mb b) w5).set b 3 _ (fun _ => rfl))
    clear ho5 hm5 HTN HO1
    go_upto_region 5 with fail
    with_reducible rw [← hW6]
    clear hW6 e0 e1 e2 e3 g3 hlt5
    obtain ⟨e0, e1, e2, e3⟩ := hO6.cells
    simp only [] at e1 e2 e3
    have g2 := hO6.free 2
    have hlt6 := hO6.lt
    have HO6 := hide hO6
    have hwr : IntKind.i64.wrap ((o.d : Int) + (m : Int)) = (o.d : Int) + m := IntWalk.i64_in _ (by omega)
    clear hO6
    go_region
    obtain ⟨W7, hW7⟩ : ∃ W7, W7 = (W6.setCell ⟨b, 2, none⟩ (.int .i64 ((o.d : Int) + (m : Int)))).drew := ⟨_, rfl⟩
    have hO7 : OutAt W7 b g ⟨u2, o.sg, o.d + m, m⟩ off5 cap5 := by rw [hW7]; exact (HO6.out.setD (o.d + m) _ (by omega)).below (below_drewN' (Below.refl _ _) 1)
    have HM7 : Hid (Mods (Mb b) w W7) := by unfold Hid; rw [hW7]; exact (HM6.out.trans ((Mods.refl (Mb b) W6).set b 2 _ (fun _ => rfl))).drew
    obtain ⟨q0, q1, q2, q3⟩ := hO7.cells
    simp only [] at q3
    have HO7 := hide hO7
    with_reducible rw [← hW7]
    clear hW7 e0 e1 e2 e3 g2 hlt6 hwr hO7
    by_cases hm : 0 < m
    · have hmd : decide (0 < m) = true := decide_eq_true hm
      have HX3 : Hid (Pic.fraL kinds.data.toList o = (true, ⟨u2, o.sg, o.d + m, m⟩)) := by unfold Hid; rw [HX2.out, hmd]; rfl
      clear HX2 hm
      go_wp2_with fail
      go_ret
      exact ⟨by rw [HX3.out]; rfl, ⟨off5, cap5, by rw [HX3.out]; exact HO7.out⟩, HM7.out⟩
    · have hmd : decide (0 < m) = false := decide_eq_false hm
      obtain ⟨S, hS⟩ : ∃ S, S = mk t1 := ⟨_, rfl⟩
      rw [← hS]
      obtain ⟨z, hz⟩ : ∃ z, z = (t1 == [86]) := ⟨_, rfl⟩
      have hsb : (S.toList == [86]) = z := by rw [hS, ByteArray.toList_eq, mk_data, hz]
      have HX3 : Hid (Pic.fraL kinds.data.toList o = (z, ⟨u2, o.sg, o.d + m, m⟩)) := by unfold Hid; rw [HX2.out, hmd, hz]; rfl
      clear HX2 hm hz hS
      go_wp2_with fail
      go_ret
      exact ⟨by rw [HX3.out]; rfl, ⟨off5, cap5, by rw [HX3.out]; exact HO7.out⟩, HM7.out⟩
def TaiPost (b : Nat) (o : Pic.Out) (w : World) (w' : World) : Prop :=
  (∃ A cap, w'.heap[b]? = some (.cells #[.slice A o.rest.length cap, .int .i64 (o.sg : Int), .int .i64 (o.d : Int), .int .i64 (o.sc : Int)] 69 (0, 0))) ∧ Mods (Mb b) w w'
set_option maxRecDepth 100000 in
set_option maxHeartbeats 2000000 in
theorem tail_c (b g : Nat) (o : Pic.Out) (off cap : Nat) (w : World) (hl : o.rest.length ≤ 1000) (hs : o.sg ≤ 100000) (h : OutAt w b g o off cap) :
    Calls Tryz.prog 62 #[.pointer (some ⟨b, 0, none⟩)] w fun e w' => e = .returned (.tuple #[]) ∧ TaiPost b (Pic.taiL o) w w' := by
  obtain ⟨t, ht⟩ : ∃ t, t = Pic.takL [43, 45] 1 1 o.rest := ⟨_, rfl⟩
  have hsz := takL_sz [43, 45] 1 1 o.rest
  have HT := hide (take_c ⟨#[43, 45]⟩ 1 1 b g o off cap w (by omega) (by omega) hl h)
  rw [show (⟨#[43, 45]⟩ : ByteArray).data.toList = [43, 45] from rfl, ← ht] at HT
  rw [← ht] at hsz
  have HX : Hid (Pic.taiL o = if t.2.1 = 0 then (if o.rest = [67, 82] ∨ o.rest = [68, 66] then ⟨[], o.sg + 1, o.d, o.sc⟩ else o) else ⟨t.2.2, o.sg + t.2.1, o.d, o.sc⟩) := by
    unfold Hid Pic.taiL; simp only []; rw [← ht]
  have HZ : Hid (t.2.1 = 0 → t = ([], 0, o.rest)) := fun hz => by rw [ht] at hz ⊢; exact takL_zero _ _ _ _ hz
  obtain ⟨t1, n, t2⟩ := t
  obtain ⟨hsz1, hsz2, hsz3⟩ := hsz
  simp only [] at hsz1 hsz2 hsz3
  have hn1 : n ≤ 1000 := by omega
  have ht2 : t2.length ≤ 1000 := by omega
  clear ht h hsz2 hsz3
  go_enter Tryz.func62, Tryz.ntmps62
  go_wp2_with fail
  refine HT.out.mono ?_
  rintro e w1 ⟨rfl, ⟨off1, cap1, ho1⟩, hm1'⟩
  have HM1 : Hid (Mods (Mb b) w w1) := hm1'
  have HO1 := hide ho1
  obtain ⟨e0, e1, e2, e3⟩ := ho1.cells
  simp only [] at e0 e1 e2 e3
  have hcv := ho1.row.sl.text t2.length cap1 rfl
  have hcap := ho1.cap
  simp only [] at hcap
  have g0 := ho1.free 0
  have g1 := ho1.free 1
  have hlt1 := ho1.lt
  obtain ⟨S, hS⟩ : ∃ S : ByteArray, S = ⟨t2.toArray⟩ := ⟨_, rfl⟩
  simp only [] at hcv
  rw [← hS] at hcv
  obtain ⟨N, hN⟩ : ∃ N, N = t2.length := ⟨_, rfl⟩
  rw [← hN] at hcv e0 hcap
  have HN := hide hN
  have HB := hide ho1.blk
  clear hm1' ho1 HT hN
  by_cases hn : n = 0
  · have hnz : ((n : Int) == 0) = true := by rw [hn]; rfl
    have HT2 : Hid (t2 = o.rest) := by
      have hh := HZ.out hn
      injection hh with _ h2
      injection h2
    have HX2 : Hid (Pic.taiL o = if o.rest = [67, 82] ∨ o.rest = [68, 66] then ⟨[], o.sg + 1, o.d, o.sc⟩ else o) := by unfold Hid; rw [HX.out]; exact if_pos hn
    have HN0 := hide hn
    have hs0 : S.toList = t2 := by rw [hS, ByteArray.toList_eq]
    clear HX HZ hn hS
    by_cases h1 : t2 = [67, 82]
    · have hb1 : (S.toList == [67, 82]) = true := by rw [hs0, h1]; rfl
      have HX3 : Hid (Pic.taiL o = ⟨[], o.sg + 1, o.d, o.sc⟩) := by unfold Hid; rw [HX2.out, if_pos (.inl (by rw [← HT2.out]; exact h1))]
      clear hs0 h1 HX2
      go_wp2_with fail
      go_end0
      refine ⟨rfl, ⟨none, 0, ?_⟩, (HM1.out.trans ((Mods.refl (Mb b) w1).set b 0 _ (fun _ => rfl))).trans ((Mods.refl (Mb b) _).set b 1 _ (fun _ => rfl))⟩
      rw [HX3.out, heap_setCell_same _ b 1 _ _ _ (heap_setCell_same w1 b 0 _ _ _ HB.out)]; rfl
    · have hb1 : (S.toList == [67, 82]) = false := by rw [hs0]; exact beq_eq_false_iff_ne.2 h1
      by_cases h2 : t2 = [68, 66]
      · have hb2 : (S.toList == [68, 66]) = true := by rw [hs0, h2]; rfl
        have HX3 : Hid (Pic.taiL o = ⟨[], o.sg + 1, o.d, o.sc⟩) := by unfold Hid; rw [HX2.out, if_pos (.inr (by rw [← HT2.out]; exact h2))]
        clear hs0 h1 h2 HX2
        go_wp2_with fail
        go_end0
        refine ⟨rfl, ⟨none, 0, ?_⟩, (HM1.out.trans ((Mods.refl (Mb b) w1).set b 0 _ (fun _ => rfl))).trans ((Mods.refl (Mb b) _).set b 1 _ (fun _ => rfl))⟩
        rw [HX3.out, heap_setCell_same _ b 1 _ _ _ (heap_setCell_same w1 b 0 _ _ _ HB.out)]; rfl
      · have hb2 : (S.toList == [68, 66]) = false := by rw [hs0]; exact beq_eq_false_iff_ne.2 h2
        have HX3 : Hid (Pic.taiL o = o) := by unfold Hid; rw [HX2.out, if_neg (by rw [← HT2.out]; exact fun hh => hh.elim h1 h2)]
        clear hs0 h1 h2 HX2
        go_wp2_with fail
        go_end0
        refine ⟨rfl, ⟨some ⟨g, off1, none⟩, cap1, ?_⟩, HM1.out.trans ((Mods.refl (Mb b) w1).set b 1 _ (fun _ => rfl))⟩
        rw [HX3.out, heap_setCell_same w1 b 1 _ _ _ HB.out, ← HT2.out]; first | rfl | (rw [HN0.out]; rfl)
  · have hnz : ((n : Int) == 0) = false := beq_eq_false_iff_ne.2 (by omega)
    have HX3 : Hid (Pic.taiL o = ⟨t2, o.sg + n, o.d, o.sc⟩) := by unfold Hid; rw [HX.out]; exact if_neg hn
    clear HX HZ hn hS
    go_wp2_with fail
    go_end0
    refine ⟨rfl, ⟨some ⟨g, off1, none⟩, cap1, ?_⟩, HM1.out.trans ((Mods.refl (Mb b) w1).set b 1 _ (fun _ => rfl))⟩
    rw [HX3.out, heap_setCell_same w1 b 1 _ _ _ HB.out]; rfl
end Go.Proofs.YteceealibfemjaaGreatDoor
