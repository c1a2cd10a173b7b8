/-
  CONTRACT of Split (layer 3, tokens).
-/
import Derived.Test.YtghnffdjdjlomaaGreatDoorSpiC
namespace Go.Proofs.YtghnffdjdjlomaaGreatDoor
open Go.RowKit Go.Shelf

theorem perI_ge (l : List TokL) : -1 ≤ perI l := by
  induction l with
  | nil => decide
  | cons t r ih => unfold perI; split <;> (try split) <;> omega
theorem perI_lt (l : List TokL) : perI l < l.length := by
  induction l with
  | nil => decide
  | cons t r ih => unfold perI; rw [List.length_cons]; split <;> (try split) <;> omega
def splitF : Nat → List TokL → List (List TokL)
  | 0, _ => []
  | n + 1, l => if perI l < 0 then (if l.length = 0 then [] else [l]) else l.take (perI l).toNat :: splitF n (l.drop ((perI l).toNat + 1))
/-- Split -/
def splitL (l : List TokL) : List (List TokL) := splitF (l.length + 1) l
theorem splitF_eq (f g : Nat) (l : List TokL) (hf : l.length < f) (hg : l.length < g) : splitF f l = splitF g l := by
  induction f generalizing g l with
  | zero => omega
  | succ f ih =>
    cases g with
    | zero => omega
    | succ g =>
      unfold splitF
      split
      · rfl
      · have h1 := perI_lt l
        rw [ih g _ (by rw [List.length_drop]; omega) (by rw [List.length_drop]; omega)]
theorem splitL_hit (l : List TokL) (i : Nat) (h : perI l = i) : splitL l = l.take i :: splitL (l.drop (i + 1)) := by
  have h1 := perI_lt l
  conv => lhs; unfold splitL splitF
  rw [if_neg (by omega), h, Int.toNat_natCast]
  unfold splitL
  rw [splitF_eq l.length ((l.drop (i + 1)).length + 1) _ (by rw [List.length_drop]; omega) (by omega)]
theorem splitL_none (l : List TokL) (h : perI l < 0) : splitL l = if l.length = 0 then [] else [l] := by
  unfold splitL splitF
  rw [if_pos h]

/-- a part as a value -/
def partV (p : Nat × List TokL) : Value := .slice (some ⟨p.1, 0, none⟩) p.2.length p.2.length
/-- the lists so far -/
structure PartsAt (w : World) (B : Nat) (v : Value) (ps : List (Nat × List TokL)) : Prop where
  own : w.ownsRow B 36 1 v ps.length (ps.map partV)
  blks : ∀ p ∈ ps, B ≤ p.1 ∧ Blk w p.1 (tokCells p.2).toArray 49
theorem PartsAt.below {w w' : World} {B : Nat} {v : Value} {ps : List (Nat × List TokL)} (h : PartsAt w B v ps) (hb : Below w.heap.size w w') : PartsAt w' B v ps :=
  ⟨own_kept h.own ((Mods.refl (fun _ => False) w).below hb) (fun _ _ e => e), fun p hp => ⟨(h.blks p hp).1, blk_kept hb (h.blks p hp).2⟩⟩
theorem partInfo : (Tryz.prog.info? 36).map (fun i => (i.zero, i.size, i.bytes)) = some (some (.slice none 0 0), 1, 24) := by kernel_rfl
theorem append_part {w w0 : World} {B : Nat} {LA : Option Addr} {lc : Nat} {ps : List (Nat × List TokL)} (h : PartsAt w B (.slice LA ps.length lc) ps) (hb : Below B w0 w) (hB : B ≤ w.heap.size) (hs : ps.length ≤ 2000000) (g : Nat) (l : List TokL) (hg : B ≤ g) (hl : Blk w g (tokCells l).toArray 49) :
    ∃ g1 c1 w', (Builtin.append_ #[58, 58] 58 #[.slice LA ps.length lc, .slice (some ⟨w.heap.size, 0, none⟩) 1 1]).run Tryz.prog (w.alloc (.cells #[.slice (some ⟨g, 0, none⟩) l.length l.length] 36)) = .ok (.slice (some ⟨g1, 0, none⟩) (ps.length + 1) c1) w' ∧
      PartsAt w' B (.slice (some ⟨g1, 0, none⟩) (ps.length + 1) c1) (ps ++ [(g, l)]) ∧ Below B w0 w' ∧ w.heap.size ≤ w'.heap.size := by
  obtain ⟨i0, hi, hz0, hz1, hz2⟩ := info_parts partInfo
  obtain ⟨g1, c1, w', hrun, hown', hgr, _, _⟩ := run_append_lies (P := Tryz.prog) (w.alloc (.cells #[.slice (some ⟨g, 0, none⟩) l.length l.length] 36)) 58 58 B 36 i0 (.slice none 0 0) 1 24 Tryz.underlying58 hi hz0 hz1 hz2 rfl (by omega)
    (.slice LA ps.length lc) ps.length (ps.map partV) (h.own.alloc _) ⟨w.heap.size, 0, none⟩ 1 1 [.slice (some ⟨g, 0, none⟩) l.length l.length] rfl (World.news_of_block (heap_alloc_new w _)) (by simp [Value.oneCell']) (by omega) (by unfold maxLen; omega) (by omega) (by simp; omega) _ rfl
  have hkeep : ∀ k cs, Blk w k cs 49 → Blk w' k cs 49 := fun k cs hk => by
    refine (hgr.block k (by have := hk.lt; simp; omega) ?_).trans (hk.alloc _)
    intro e
    obtain ⟨o, ho, he, _⟩ := own_elem (h.own.alloc (.cells #[.slice (some ⟨g, 0, none⟩) l.length l.length] 36)) k e.symm
    obtain rfl := Option.some.inj ((hk.alloc _).symm.trans ho)
    simp [elemT] at he
  refine ⟨g1, c1, w', hrun, ⟨?_, ?_⟩, (hb.alloc hB _).grown hgr (by simp; omega) (fun k hk => (h.own.lt k hk).1), by have := hgr.size; simp at this; omega⟩
  · rw [List.length_append, List.map_append]; exact hown'
  · intro p hp
    rcases List.mem_append.1 hp with hp | hp
    · exact ⟨(h.blks p hp).1, hkeep _ _ (h.blks p hp).2⟩
    · obtain rfl := List.mem_singleton.1 hp
      exact ⟨hg, hkeep _ _ hl⟩
theorem clip_parts (A : Option Addr) (n c : Nat) (w : World) (_hn : n ≤ 2000001) (hc : n ≤ c) :
    Calls Tryz.prog 58 #[.slice A n c] w fun e w' => e = .returned (.slice A n n) ∧ w = w' := by
  go_enter Tryz.func58, Tryz.ntmps58
  go_wp2_with fail
  go_ret
  exact ⟨rfl, rfl⟩
theorem TokIn.drop {w : World} {B b off : Nat} {ts : List TokL} (h : TokIn w B (some ⟨b, off, none⟩) ts) (d : Nat) : TokIn w B (some ⟨b, off + d * 5, none⟩) (ts.drop d) := by
  by_cases hd : d < ts.length
  · obtain ⟨b', off', hA, hb, -⟩ := h.at_ d hd
    injection hA with hA
    injection hA with h1 h2
    subst h1 h2
    refine .inr ⟨b, off + d * 5, rfl, hb, fun j hj => ?_⟩
    rw [List.length_drop] at hj
    obtain ⟨b'', off'', hA, _, c⟩ := h.at_ (d + j) (by omega)
    injection hA with hA
    injection hA with h1 h2
    subst h1 h2
    rw [List.getElem_drop, show off + d * 5 + j * 5 = off + (d + j) * 5 by omega]
    exact c
  · exact .inl (List.drop_of_length_le (by omega))
theorem TokIn.take {w : World} {B : Nat} {A : Option Addr} {ts : List TokL} (h : TokIn w B A ts) (i : Nat) : TokIn w B A (ts.take i) := by
  rcases h with rfl | ⟨b, off, hA, hb, hc⟩
  · exact .inl (by simp)
  · refine .inr ⟨b, off, hA, hb, fun j hj => ?_⟩
    rw [List.length_take] at hj
    rw [List.getElem_take]
    exact hc j (by omega)

set_option maxRecDepth 100000 in
set_option maxHeartbeats 2000000 in
theorem Split_some (ts : List TokL) (b off cap : Nat) (w : World) (hts : TokIn w w.heap.size (some ⟨b, off, none⟩) ts) (hn : ts.length ≤ 1000000) (hcap : ts.length ≤ cap) (hcm : cap ≤ maxLen) :
    Calls Tryz.prog 22 #[.slice (some ⟨b, off, none⟩) ts.length cap] w fun e w' => ∃ LA lc, ∃ ps : List (Nat × List TokL), e = .returned (.slice LA ps.length ps.length) ∧ PartsAt w' w.heap.size (.slice LA ps.length lc) ps ∧ ps.map (·.2) = splitL ts ∧ Below w.heap.size w w' := by
  unfold maxLen at hcm
  obtain ⟨n, hn'⟩ : ∃ n, n = ts.length := ⟨_, rfl⟩
  rw [← hn'] at hn hcap ⊢
  have HTS := hide hts
  have HN := hide hn'
  have HI : Hid (∀ d o w1, d ≤ n → (d < n → o = off + d * 5) → Below w.heap.size w w1 → Calls Tryz.prog 56 #[.slice (some ⟨b, o, none⟩) (n - d) (cap - d), .func (.func 55) #[] #[]] w1 fun e w' => e = .returned (.int .i64 (perI (ts.drop d))) ∧ Below w1.heap.size w1 w') := fun d o w1 hd ho hb => by
    have h0 : TokIn w w.heap.size (some ⟨b, o, none⟩) (ts.drop d) := by
      by_cases hdn : d < n
      · rw [ho hdn]; exact hts.drop d
      · exact .inl (List.drop_of_length_le (by omega))
    have h := IdxF_c (ts.drop d) (some ⟨b, o, none⟩) (cap - d) w.heap.size w1 (h0.below hb _ (Nat.le_refl _)) hb.size (by rw [List.length_drop]; omega)
    rw [List.length_drop, ← hn'] at h
    exact h
  have HI0 := hide (HI.out 0 off w (by omega) (fun _ => by omega) (Below.refl _ _))
  rw [Nat.sub_zero, Nat.sub_zero, List.drop_zero] at HI0
  clear hts hn'
  go_enter Tryz.func22, Tryz.ntmps22
  go_wp2_with fail
  refine HI0.out.mono ?_
  rintro e w1 ⟨rfl, hb1⟩
  have HB1 := hide hb1
  clear hb1 HI0
  obtain ⟨W1, rfl⟩ : ∃ W, W = w1 := ⟨_, rfl⟩
  go_wp2_with fail
  go_loopw [3, 5, 6] (fun v3 v5 v6 wr => ∃ d o LA lc, ∃ ps : List (Nat × List TokL), d ≤ n ∧ (d < n → o = off + d * 5) ∧ ps.length ≤ d ∧ v3 = .slice LA ps.length lc ∧ v5 = .slice (some ⟨b, o, none⟩) (n - d) (cap - d) ∧ v6 = .int .i64 (perI (ts.drop d)) ∧ splitL ts = ps.map (·.2) ++ splitL (ts.drop d) ∧ PartsAt wr w.heap.size (.slice LA ps.length lc) ps ∧ Below w.heap.size w wr) (fun _ v5 _ _ => match v5 with | .slice _ l _ => l | _ => 0)
  case atStart =>
    exact ⟨0, off, none, 0, [], Nat.zero_le _, fun _ => by omega, Nat.le_refl _, rfl, by simp, rfl, rfl, ⟨World.ownsRow_nil _ _ _ _, fun p hp => by cases hp⟩, HB1.out⟩
  case round =>
    obtain ⟨d, o, LA, lc, ps, hd, ho, hps, rfl, rfl, rfl, hsp, hP, hb⟩ := hrel
    clear HB1
    obtain ⟨W2, rfl⟩ : ∃ W, W = wr := ⟨_, rfl⟩
    have hlt := perI_lt (ts.drop d)
    rw [List.length_drop, ← HN.out] at hlt
    by_cases h0 : 0 ≤ perI (ts.drop d)
    · obtain ⟨i, hi⟩ : ∃ i : Nat, perI (ts.drop d) = i := ⟨(perI (ts.drop d)).toNat, by omega⟩
      have hhit := splitL_hit _ i hi
      rw [hi] at hlt ⊢
      have hid : d + i < n := by omega
      obtain rfl := ho (by omega)
      clear ho
      obtain ⟨L, hL⟩ : ∃ L, L = (ts.drop d).take i := ⟨_, rfl⟩
      have hLl : L.length = i := by rw [hL, List.length_take, List.length_drop, ← HN.out]; omega
      have HC := hide (copied_c ((ts.drop d).take i) b (off + d * 5) (cap - d) w.heap.size W2 (((HTS.out.drop d).take i).below hb _ (Nat.le_refl _)) hb.size (by rw [List.length_take, List.length_drop]; omega))
      rw [← hL, hLl] at HC
      rw [← hL, List.drop_drop, ← Nat.add_assoc] at hhit
      have HP := hide hP
      have HB := hide hb
      have HSP := hide hsp
      have HHIT := hide hhit
      have HLL := hide hLl
      clear hP hb hsp hhit h0 hi hL hLl
      go_wp2_with fail
      refine HC.out.mono ?_
      rintro e w3 ⟨rfl, hbk, hb3, hs3⟩
      have hbw3 : Below w.heap.size w w3 := HB.out.trans (hb3.mono HB.out.size)
      obtain ⟨g1, c1, w4, hrun, hP4, hb4, hs4⟩ := append_part (HP.out.below hb3) hbw3 hbw3.size (by omega) W2.heap.size L HB.out.size hbk
      rw [HLL.out] at hrun
      have HP4 := hide hP4
      have HB4 := hide hb4
      by_cases hz : cap - d = i + 1
      · have HI2 := hide (HI.out (d + (i + 1)) (off + d * 5) w4 (by omega) (fun h => by omega) hb4)
        rw [show n - (d + (i + 1)) = n - d - (i + 1) by omega, show cap - (d + (i + 1)) = 0 by omega] at HI2
        clear hbk hb3 hs3 hbw3 hP4 hb4 hs4 HC
        go_wp2_with (at_builtin; refine wpList_append_run rfl (.tmp 16) (.tmp 21) 58 rfl _ _ rfl rfl _ _ 58 rfl hrun ?_)
        refine HI2.out.mono ?_
        rintro e w5 ⟨rfl, hb5⟩
        have HB5 := hide (HB4.out.trans (hb5.mono HB4.out.size))
        have HP5 := hide (HP4.out.below hb5)
        clear hb5 hrun
        go_wp2_with fail
        go_roundw
        case rel =>
          refine ⟨d + (i + 1), off + d * 5, some ⟨g1, 0, none⟩, c1, ps ++ [(W2.heap.size, L)], by omega, fun h => by omega, by rw [List.length_append]; simp; omega, by rw [List.length_append]; rfl, ?_, rfl, ?_, ?_, HB5.out⟩
          · rw [show n - (d + (i + 1)) = n - d - (i + 1) by omega, show cap - (d + (i + 1)) = 0 by omega]
          · rw [HSP.out, HHIT.out, List.map_append, List.append_assoc, Nat.add_assoc]; rfl
          · rw [List.length_append]; exact HP5.out
        case measure => simp; omega
      · have HI2 := hide (HI.out (d + (i + 1)) (off + d * 5 + (i + 1) * 5) w4 (by omega) (fun h => by omega) hb4)
        rw [show n - (d + (i + 1)) = n - d - (i + 1) by omega, show cap - (d + (i + 1)) = cap - d - (i + 1) by omega] at HI2
        clear hbk hb3 hs3 hbw3 hP4 hb4 hs4 HC
        go_wp2_with (at_builtin; refine wpList_append_run rfl (.tmp 16) (.tmp 21) 58 rfl _ _ rfl rfl _ _ 58 rfl hrun ?_)
        refine HI2.out.mono ?_
        rintro e w5 ⟨rfl, hb5⟩
        have HB5 := hide (HB4.out.trans (hb5.mono HB4.out.size))
        have HP5 := hide (HP4.out.below hb5)
        clear hb5 hrun
        go_wp2_with fail
        go_roundw
        case rel =>
          refine ⟨d + (i + 1), off + d * 5 + (i + 1) * 5, some ⟨g1, 0, none⟩, c1, ps ++ [(W2.heap.size, L)], by omega, fun h => by omega, by rw [List.length_append]; simp; omega, by rw [List.length_append]; rfl, ?_, rfl, ?_, ?_, HB5.out⟩
          · rw [show n - (d + (i + 1)) = n - d - (i + 1) by omega, show cap - (d + (i + 1)) = cap - d - (i + 1) by omega]
          · rw [HSP.out, HHIT.out, List.map_append, List.append_assoc, Nat.add_assoc]; rfl
          · rw [List.length_append]; exact HP5.out
        case measure => simp; omega
    · have hsn := splitL_none _ (show perI (ts.drop d) < 0 by omega)
      rw [List.length_drop, ← HN.out] at hsn
      obtain ⟨x, hx⟩ : ∃ x, x = perI (ts.drop d) := ⟨_, rfl⟩
      rw [← hx] at h0 hlt ⊢
      have hx0 : x < 0 := by omega
      have HP := hide hP
      have HB := hide hb
      have HSP := hide hsp
      have HSN := hide hsn
      have hlc : ps.length ≤ lc := (own_cap hP.own).2
      clear hP hb hsp hsn hx h0 hlt
      by_cases hdn : d < n
      · obtain rfl := ho hdn
        have HC := hide (copied_c (ts.drop d) b (off + d * 5) (cap - d) w.heap.size W2 ((HTS.out.drop d).below HB.out _ (Nat.le_refl _)) HB.out.size (by rw [List.length_drop, ← HN.out]; omega))
        rw [List.length_drop, ← HN.out] at HC
        go_wp2_with fail
        refine HC.out.mono ?_
        rintro e w3 ⟨rfl, hbk, hb3, hs3⟩
        have hbw3 : Below w.heap.size w w3 := HB.out.trans (hb3.mono HB.out.size)
        obtain ⟨g1, c1, w4, hrun, hP4, hb4, hs4⟩ := append_part (HP.out.below hb3) hbw3 hbw3.size (by omega) W2.heap.size (ts.drop d) HB.out.size hbk
        rw [List.length_drop, ← HN.out] at hrun
        have hc1 := (own_cap hP4.own).2
        rw [List.length_append] at hc1
        have HCL := hide (clip_parts (some ⟨g1, 0, none⟩) (ps.length + 1) c1 w4 (by omega) hc1)
        have HP4 := hide hP4
        have HB4 := hide hb4
        clear hbk hb3 hs3 hbw3 hP4 hb4 hs4 HC
        go_wp2_with (at_builtin; refine wpList_append_run rfl (.tmp 30) (.tmp 33) 58 rfl _ _ rfl rfl _ _ 58 rfl hrun ?_)
        refine HCL.out.mono ?_
        rintro e w5 ⟨rfl, rfl⟩
        go_wp2_with fail
        go_ret
        refine ⟨some ⟨g1, 0, none⟩, c1, ps ++ [(W2.heap.size, ts.drop d)], by rw [List.length_append]; rfl, by rw [List.length_append]; exact HP4.out, ?_, HB4.out⟩
        rw [HSP.out, HSN.out, if_neg (by omega), List.map_append]; rfl
      · have HCL := hide (clip_parts LA ps.length lc W2 (by omega) hlc)
        go_wp2_with fail
        refine HCL.out.mono ?_
        rintro e w5 ⟨rfl, rfl⟩
        go_wp2_with fail
        go_ret
        refine ⟨LA, lc, ps, rfl, HP.out, ?_, HB.out⟩
        rw [HSP.out, HSN.out, if_pos (by omega), List.append_nil]
set_option maxHeartbeats 1000000 in
theorem Split_none (A : Option Addr) (cap : Nat) (w : World) (_hcm : cap ≤ maxLen) :
    Calls Tryz.prog 22 #[.slice A 0 cap] w fun e w' => e = .returned (.slice none 0 0) ∧ Below w.heap.size w w' := by
  have HI0 := hide (IdxF_c [] A cap w.heap.size w (.inl rfl) (Nat.le_refl _) (Nat.zero_le _))
  rw [show perI [] = -1 from rfl, List.length_nil] at HI0
  have HCL : Hid (∀ w1, Calls Tryz.prog 58 #[.slice none 0 0] w1 fun e w' => e = .returned (.slice none 0 0) ∧ w1 = w') := fun w1 => clip_parts none 0 0 w1 (by omega) (Nat.le_refl _)
  go_enter Tryz.func22, Tryz.ntmps22
  go_wp2_with fail
  refine HI0.out.mono ?_
  rintro e w1 ⟨rfl, hb1⟩
  have HB1 := hide hb1
  clear hb1 HI0
  obtain ⟨W1, rfl⟩ : ∃ W, W = w1 := ⟨_, rfl⟩
  go_wp2_with fail
  go_loopw [3, 5, 6] (fun v3 v5 v6 wr => v3 = .slice none 0 0 ∧ v5 = .slice A 0 cap ∧ v6 = .int .i64 (-1) ∧ Below w.heap.size w wr) (fun _ _ _ _ => 0)
  case atStart => exact ⟨rfl, rfl, rfl, HB1.out⟩
  case round =>
    obtain ⟨rfl, rfl, rfl, hb⟩ := hrel
    have HB := hide hb
    clear hb HB1
    go_wp2_with fail
    refine (HCL.out _).mono ?_
    rintro e w5 ⟨rfl, rfl⟩
    go_wp2_with fail
    go_ret
    exact ⟨rfl, HB.out⟩
/-- Split, of any tokens -/
theorem Split_c (ts : List TokL) (A : Option Addr) (cap : Nat) (w : World) (hts : TokIn w w.heap.size A ts) (hn : ts.length ≤ 1000000) (hcap : ts.length ≤ cap) (hcm : cap ≤ maxLen) :
    Calls Tryz.prog 22 #[.slice A ts.length cap] w fun e w' => ∃ LA lc, ∃ ps : List (Nat × List TokL), e = .returned (.slice LA ps.length ps.length) ∧ PartsAt w' w.heap.size (.slice LA ps.length lc) ps ∧ ps.map (·.2) = splitL ts ∧ Below w.heap.size w w' := by
  rcases hts with rfl | ⟨b, off, rfl, hb, hc⟩
  · refine (Split_none A cap w hcm).mono ?_
    rintro e w' ⟨rfl, hb⟩
    exact ⟨none, 0, [], rfl, ⟨World.ownsRow_nil _ _ _ _, fun p hp => by cases hp⟩, rfl, hb⟩
  · exact Split_some ts b off cap w (.inr ⟨b, off, rfl, hb, hc⟩) hn hcap hcm
end Go.Proofs.YtghnffdjdjlomaaGreatDoor
