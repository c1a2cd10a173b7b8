/-
  THE CONTRACT of the reader's finish (layer 2, columns).
-/
import Derived.Test.YteceealibfemjaaDoorRdr
import Derived.BigRegion
import Derived.IntWalk
namespace Go.Proofs.YteceealibfemjaaDoor
open Go.RowKit

theorem own_cap {w : World} {B : Nat} {e : TypeId} {size : Nat} {A : Option Addr} {n m c : Nat} {xs : List Value} (h : w.ownsRow B e size (.slice A m c) n xs) : m = n ∧ n ≤ c := by
  rcases h.2 with ⟨hv, h0⟩ | ⟨g, cap, cur, hv, _, _, hc, _⟩
  · injection hv with _ h1 h2; omega
  · injection hv with _ h1 h2; omega
theorem OwnM.cap {w : World} {B : Nat} {A : Option Addr} {m c : Nat} {ms : List MarkL} (h : OwnM w B (.slice A m c) ms) : m = ms.length ∧ ms.length ≤ c := by
  obtain ⟨o, ho, hv⟩ := h
  obtain ⟨A', c', rfl⟩ := own_shape ho
  have := own_cap ho
  rcases hv with e | e <;> injection e with _ h1 h2 <;> omega

theorem OutI.elem {w : World} {B : Nat} {v : Value} {cs : List (CardL × Value)} (h : OutI w B v cs) (k : Nat) (hk : v.ownBlock = some k) : ∃ o, w.heap[k]? = some o ∧ elemT o = some 71 ∧ B ≤ k := own_elem h.own k hk
/-- what is no row of cards or marks may turn -/
theorem OutI.other {M : Nat → Prop} {w w' : World} {B : Nat} {v : Value} {cs : List (CardL × Value)} (h : OutI w B v cs) (hm : Mods M w w') (hM : ∀ k o, M k → w.heap[k]? = some o → B ≤ k → elemT o ≠ some 71 ∧ elemT o ≠ some 115) : OutI w' B v cs :=
  h.kept' hm (fun k hk hMk => by
    obtain ⟨o, ho, he, hB⟩ := h.elem k hk
    exact (hM k o hMk ho hB).1 he) (fun c hc k hk hMk => by
    obtain ⟨o, ho, he, hB⟩ := (h.marks c hc).elem k hk
    exact (hM k o hMk ho hB).2 he)
theorem OutI.free {w : World} {B g n cap : Nat} {cs : List (CardL × Value)} (h : OutI w B (.slice (some ⟨g, 0, none⟩) n cap) cs) (j : Nat) : w.frozen? ⟨g, j, none⟩ = false := by
  rcases h.own.2 with ⟨hv, _⟩ | ⟨g', cap', cur, hv, _, hb, _⟩
  · cases hv
  · obtain rfl : g = g' := by injection hv with h1; injection h1 with h1; injection h1
    exact Lib.frozen_of_heap hb j
theorem OutI.ge {w : World} {B g n cap : Nat} {cs : List (CardL × Value)} (h : OutI w B (.slice (some ⟨g, 0, none⟩) n cap) cs) : B ≤ g ∧ g < w.heap.size := h.own.lt g rfl

set_option maxHeartbeats 1000000 in
set_option maxRecDepth 100000 in
/-- no card is there -/
theorem finish_none (B br : Nat) (w : World) (h : RFin B br w []) :
    Calls Tryd.prog 49 #[.pointer (some ⟨br, 0, none⟩)] w fun e w' => e = .returned (fault (0, 0, 0)) ∧ RFin B br w' [] ∧ Below w.heap.size w w' := by
  obtain ⟨cs, A, cap, fv, lv, kv, hb, hc, ht, ho⟩ := h
  obtain rfl : cs = [] := by simpa using hc
  have hb1 := hb.alloc (.cells #[.int .i64 0, .int .i64 0, .int .i64 0] 40)
  have HO := hide (ho.alloc (.cells #[.int .i64 0, .int .i64 0, .int .i64 0] 40))
  have hlt := hb.lt
  have c0 : (w.alloc (.cells #[.int .i64 0, .int .i64 0, .int .i64 0] 40)).cell? ⟨br, 0, none⟩ = some (.slice A 0 cap) := hb1.cell 0
  have c3 : (w.alloc (.cells #[.int .i64 0, .int .i64 0, .int .i64 0] 40)).cell? ⟨br, 3 + 1, none⟩ = some (.bool false) := hb1.cell 4
  have HB := hide hb1
  clear hb ho ht hb1 hc
  go_enter Tryd.func49, Tryd.ntmps49
  go_wp2_with fail
  refine bodyPost_ret (v := .agg #[.int .i64 0, .int .i64 0, .int .i64 0]) (by simp [results, Tryd.results49, go_sem]) rfl ?_
  refine ⟨rfl, ⟨[], A, cap, fv, lv, kv, ?_, rfl, by simp, ?_⟩, ?_⟩
  · exact HB.out
  · exact HO.out
  · exact (Below.refl _ _).alloc (Nat.le_refl _) _

set_option maxHeartbeats 1000000 in
set_option maxRecDepth 100000 in
/-- the text of the last card is open -/
theorem finish_open (B br : Nat) (w : World) (pre : List CardL) (c : CardL) (ln co : Int) (h : RCur B br w pre c ln co) (hop : openL c.text = true) :
    Calls Tryd.prog 49 #[.pointer (some ⟨br, 0, none⟩)] w fun e w' => e = .returned (fault (4, ln, co)) ∧ Below w.heap.size w w' := by
  obtain ⟨cs, g, cap, mv, p, bv, qb, h⟩ := h
  have hb := h.blk
  rw [hop] at hb
  have hb1 := hb.alloc (.cells #[.int .i64 0, .int .i64 0, .int .i64 0] 40)
  have hlt := hb.lt
  have c3 : (w.alloc (.cells #[.int .i64 0, .int .i64 0, .int .i64 0] 40)).cell? ⟨br, 4, none⟩ = some (.bool true) := hb1.cell 4
  have c4 : (w.alloc (.cells #[.int .i64 0, .int .i64 0, .int .i64 0] 40)).cell? ⟨br, 5, none⟩ = some (.int .i64 ln) := hb1.cell 5
  have c5 : (w.alloc (.cells #[.int .i64 0, .int .i64 0, .int .i64 0] 40)).cell? ⟨br, 6, none⟩ = some (.int .i64 co) := hb1.cell 6
  clear hb hb1 h hop
  go_enter Tryd.func49, Tryd.ntmps49
  go_wp2_with fail
  refine bodyPost_ret (v := .agg #[.int .i64 4, .int .i64 ln, .int .i64 co]) (by simp [results, Tryd.results49, go_sem]) rfl ?_
  exact ⟨rfl, (Below.refl _ _).alloc (Nat.le_refl _) _⟩

set_option maxHeartbeats 2000000 in
set_option maxRecDepth 100000 in
/-- the last card is finished -/
theorem finish_cur (B br : Nat) (w : World) (pre : List CardL) (c : CardL) (ln co : Int) (h : RCur B br w pre c ln co) (hop : openL c.text = false) (hne : c.text ≠ []) (hB : br < B) (hl1 : pre.length ≤ 1000000) (hl2 : c.text.length ≤ 5000000) (hl3 : c.marks.length ≤ 1000000) :
    Calls Tryd.prog 49 #[.pointer (some ⟨br, 0, none⟩)] w fun e w' => e = .returned (fault (0, 0, 0)) ∧ RFin B br w' (pre ++ [c]) ∧ FrR B br w w' := by
  obtain ⟨cs, g, cap, mv, p, bv, qb, h⟩ := h
  have hb := h.blk
  rw [hop] at hb
  have hcl : cs.length = pre.length := by have := congrArg List.length h.pre; simpa using this
  have hlt := hb.lt
  have hcl1 : cs.length ≤ 1000000 := by omega
  obtain ⟨W, hW⟩ : ∃ W, W = w.alloc (.cells #[.int .i64 0, .int .i64 0, .int .i64 0] 40) := ⟨_, rfl⟩
  have hb1 : Blk W br _ _ := hW ▸ hb.alloc (.cells #[.int .i64 0, .int .i64 0, .int .i64 0] 40)
  have ho1 : OutI W B _ _ := hW ▸ h.out.alloc (.cells #[.int .i64 0, .int .i64 0, .int .i64 0] 40)
  have hr1 : Blk W w.heap.size #[.int .i64 0, .int .i64 0, .int .i64 0] 40 := hW ▸ blk_new w _ _
  have ht1 : W.ownsRow B 5 1 bv c.text.length (Lib.byteCells c.text) := hW ▸ h.text.alloc _
  have hm1 : Mods (fun _ => False) w W := hW ▸ (Mods.refl _ w).alloc _
  have hsz : w.heap.size < W.heap.size := by rw [hW]; simp
  have c3 : W.cell? ⟨br, 4, none⟩ = some (.bool false) := hb1.cell 4
  have c0 : W.cell? ⟨br, 0, none⟩ = some (.slice (some ⟨g, 0, none⟩) (cs.length + 1) cap) := hb1.cell 0
  have hw1 : IntKind.i64.wrap ((cs.length : Int) + 1 - 1) = (cs.length : Int) := by rw [IntWalk.i64_in _ (by omega)]; omega
  have hmv : OwnM W B mv c.marks := ho1.marks (⟨c.left, [], c.marks⟩, mv) (by simp)
  obtain ⟨Am, cm, rfl, _⟩ := hmv.shape
  have hcm := hmv.cap.2
  obtain ⟨hg0, hg1, hg2⟩ := ho1.at_ (by simp) cs.length (by simp)
  have hg1' : W.cell? ⟨g, cs.length * 3 + 1, none⟩ = some (.string (mk [])) := by simpa using hg1
  have hg2' : W.cell? ⟨g, cs.length * 3 + 2, none⟩ = some (.slice Am c.marks.length cm) := by simpa using hg2
  have HB := hide hb1
  have HO := hide ho1
  have HR := hide hr1
  have HT := hide ht1
  have HM := hide hm1
  have H := hide h
  clear hb hb1 ho1 hr1 ht1 hm1 h hop hcl hg0 hg1 hg2 hmv
  subst hW
  go_enter Tryd.func49, Tryd.ntmps49
  go_wp2_with fail
  go_quiet (fail)
  go_wp2_with fail
  have hbin : BIn ((w.alloc (.cells #[.int .i64 0, .int .i64 0, .int .i64 0] 40)).drewN nq) br 1 88 _ := bin_of_reader HB.out rfl
  refine (bString_c B br 1 88 _ bv c.text _ hbin rfl HT.out hne (by omega)).mono ?_
  rintro e w2 ⟨rfl, hm2⟩
  have ho2 : OutI w2 B _ _ := (HO.out.drewN nq).other hm2 (fun k o hk ho _ => by
    obtain ⟨o', ho', he, _⟩ := own_elem HT.out k hk
    obtain rfl : o' = o := Option.some.inj (ho'.symm.trans ho)
    rw [he]
    exact ⟨by decide, by decide⟩)
  have hb2 : Blk w2 br _ _ := Blk.mods (w := (w.alloc (.cells #[.int .i64 0, .int .i64 0, .int .i64 0] 40)).drewN nq) HB.out hm2 (fun hk => by
    obtain ⟨o', ho', he, hBk⟩ := own_elem HT.out br hk
    omega)
  have hr2 : Blk w2 w.heap.size _ _ := Blk.mods (w := (w.alloc (.cells #[.int .i64 0, .int .i64 0, .int .i64 0] 40)).drewN nq) HR.out hm2 (fun hk => by
    obtain ⟨o', ho', he, hBk⟩ := own_elem HT.out _ hk
    obtain rfl := Option.some.inj (ho'.symm.trans HR.out)
    exact absurd he (by decide))
  have hg2 := ho2.ge
  have q1 : w2.cell? ⟨g, cs.length * 3 + 1, none⟩ = some (.string (mk [])) := by have := (ho2.at_ (by simp) cs.length (by simp)).2.1; simpa using this
  have q2 := ho2.free (cs.length * 3 + 1)
  have ho3 := ho2.text rfl c.text
  have hb3 := hb2.mods ((Mods.refl (· = g) w2).set g (cs.length * 3 + 1) (.string (mk c.text)) (fun _ => rfl)) (by omega)
  have hr3 := hr2.mods ((Mods.refl (· = g) w2).set g (cs.length * 3 + 1) (.string (mk c.text)) (fun _ => rfl)) (fun e => by
    obtain ⟨o', ho', he, _⟩ := ho2.elem g rfl
    rw [← e] at ho'
    obtain rfl := Option.some.inj (ho'.symm.trans hr2)
    exact absurd he (by decide))
  have q3 : (w2.setCell ⟨g, cs.length * 3 + 1, none⟩ (.string (mk c.text))).cell? ⟨g, cs.length * 3 + 2, none⟩ = some (.slice Am c.marks.length cm) := by have := (ho3.at_ (by simp) cs.length (by simp)).2.2; simpa using this
  have q4 := ho3.free (cs.length * 3 + 2)
  have ho4 : OutI _ B _ _ := ho3.clip rfl
  have hb4 := hb3.mods ((Mods.refl (· = g) _).set g (cs.length * 3 + 2) (.slice Am c.marks.length c.marks.length) (fun _ => rfl)) (by omega)
  have hr4 := hr3.mods ((Mods.refl (· = g) _).set g (cs.length * 3 + 2) (.slice Am c.marks.length c.marks.length) (fun _ => rfl)) (fun e => by
    obtain ⟨o', ho', he, _⟩ := ho2.elem g rfl
    rw [← e] at ho'
    obtain rfl := Option.some.inj (ho'.symm.trans hr2)
    exact absurd he (by decide))
  have HO4 := hide ho4
  have HB4 := hide hb4
  have HR4 := hide hr4
  have HO2 := hide ho2
  have HM2 := hide hm2
  clear ho2 ho3 hb3 hr3 ho4 hb4 hr4 hm2 hb2 hr2
  go_wp2_with fail
  refine (clipM_c Am c.marks.length cm _ (by omega) hcm).mono ?_
  rintro e w' ⟨rfl, rfl⟩
  go_wp2_with fail
  refine (bReset_c br 1 88 _ _ p bv (bin_of_reader HB4.out rfl) rfl rfl).mono ?_
  rintro e w5 ⟨rfl, hb5, hm5⟩
  have hr5 := HR4.out.mods hm5 (by omega)
  have ho5 := HO4.out.other hm5 (fun k o hk _ hBk => by subst hk; omega)
  have k0 : w5.cell? ⟨w.heap.size, 0, none⟩ = some (.int .i64 0) := hr5.cell 0
  have k1 : w5.cell? ⟨w.heap.size, 1, none⟩ = some (.int .i64 0) := hr5.cell 1
  have k2 : w5.cell? ⟨w.heap.size, 2, none⟩ = some (.int .i64 0) := hr5.cell 2
  have f0 := hr5.free 0
  have f1 := hr5.free 1
  have f2 := hr5.free 2
  have HR5 := hide hr5
  have HO5 := hide ho5
  have HB5 := hide hb5
  have HM5 := hide hm5
  clear hr5 ho5 hb5 hm5 q1 q2 q3 q4
  go_wp2_with fail
  refine bodyPost_ret (v := .agg #[.int .i64 0, .int .i64 0, .int .i64 0]) (by simp [results, Tryd.results49, go_sem, k0, k1, k2]) rfl ?_
  have hmS : ∀ x y z : Value, Mods (· = w.heap.size) w5 (((w5.setCell ⟨w.heap.size, 0, none⟩ x).setCell ⟨w.heap.size, 1, none⟩ y).setCell ⟨w.heap.size, 2, none⟩ z) := fun x y z =>
    (((Mods.refl (· = w.heap.size) w5).set _ _ _ (fun _ => rfl)).set _ _ _ (fun _ => rfl)).set _ _ _ (fun _ => rfl)
  have hlen : (cs ++ [(c, Value.slice Am c.marks.length c.marks.length)]).length = cs.length + 1 := by simp
  refine ⟨rfl, ⟨cs ++ [(c, .slice Am c.marks.length c.marks.length)], some ⟨g, 0, none⟩, cap, cntV qb, ln, co, ?_, ?_, ?_, ?_⟩, ?_⟩
  · rw [hlen]
    exact Blk.mods HB5.out.heap (hmS _ _ _) (by omega)
  · rw [List.map_append, H.out.pre]; rfl
  · intro d hd
    rcases List.mem_append.1 hd with hd | hd
    · exact H.out.tight d hd
    · obtain rfl : d = (c, .slice Am c.marks.length c.marks.length) := by simpa using hd
      rfl
  · rw [hlen]
    exact HO5.out.other (hmS _ _ _) (fun k o hk ho _ => by
      subst hk
      obtain rfl := Option.some.inj (ho.symm.trans HR5.out)
      exact ⟨by decide, by decide⟩)
  · have s1 : FrR B br w ((w.alloc (.cells #[.int .i64 0, .int .i64 0, .int .i64 0] 40)).drewN nq) := ((Mods.refl _ w).alloc _).drewN nq
    have s2 : FrR B br _ w2 := FrR.of HM2.out (fun i _ hk => by
      obtain ⟨o', ho', he, hBk⟩ := own_elem HT.out i hk
      exact .inr ⟨hBk, o', ho', by rw [rowy, he]; decide⟩)
    have s3 : FrR B br w2 ((w2.setCell ⟨g, cs.length * 3 + 1, none⟩ (.string (mk c.text))).setCell ⟨g, cs.length * 3 + 2, none⟩ (.slice Am c.marks.length c.marks.length)) :=
      FrR.of (((Mods.refl (· = g) w2).set _ _ _ (fun _ => rfl)).set _ _ _ (fun _ => rfl)) (fun i _ e => by
        obtain ⟨o', ho', he, hBk⟩ := HO2.out.elem g rfl
        subst e
        exact .inr ⟨hBk, o', ho', by rw [rowy, he]; decide⟩)
    have s4 : FrR B br _ w5 := FrR.of HM5.out (fun i _ e => .inl e)
    exact Mods.trans' ((s1.trans s2).trans (s3.trans s4)) (hmS _ _ _) (fun i hi e => by omega)
end Go.Proofs.YteceealibfemjaaDoor
