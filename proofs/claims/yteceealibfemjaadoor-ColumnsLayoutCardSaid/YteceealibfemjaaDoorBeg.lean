import Derived.Test.YteceealibfemjaaDoorAdd
import Derived.Outline
import Derived.Laws.EntriesVeiled
namespace Go.Proofs.YteceealibfemjaaDoor
open Go.RowKit

theorem RFin.below {B br : Nat} {w w' : World} {all : List CardL} (h : RFin B br w all) (hb : Below w.heap.size w w') : RFin B br w' all := by
  obtain ⟨cs, A, cap, fv, lv, kv, h1, h2, h3, h4⟩ := h
  exact ⟨cs, A, cap, fv, lv, kv, blk_kept hb h1, h2, h3, h4.other (Mods.of_below hb) (fun _ _ e => e.elim)⟩
theorem RCur.below {B br : Nat} {w w' : World} {pre : List CardL} {c : CardL} {ln co : Int} (h : RCur B br w pre c ln co) (hb : Below w.heap.size w w') : RCur B br w' pre c ln co := by
  obtain ⟨cs, g, cap, mv, p, bv, qb, h⟩ := h
  have hm := Mods.of_below hb
  exact ⟨cs, g, cap, mv, p, bv, qb, blk_kept hb h.blk, h.pre, h.tight, h.out.other hm (fun _ _ e => e.elim), own_kept h.mown hm (fun _ _ e => e), h.addr, own_kept h.text hm (fun _ _ e => e), box_kept h.box hm (fun e => e), h.above⟩

set_option maxHeartbeats 1000000 in
set_option maxRecDepth 100000 in
/-- the text before is open -/
theorem begin_open (B br : Nat) (w : World) (pre : List CardL) (c : CardL) (ln co line : Int) (s : ByteArray) (h : RCur B br w pre c ln co) (hop : openL c.text = true) :
    Calls Tryd.prog 73 #[.pointer (some ⟨br, 0, none⟩), .agg #[.int .i64 line, .string s]] w fun e w' => e = .returned (fault (4, ln, co)) ∧ Below w.heap.size w w' := by
  have hb2 := below2 w (.cells #[.int .i64 line, .string s] 93) (.cells #[.int .i64 0, .int .i64 0, .int .i64 0] 40)
  have hfin : Hid (Calls Tryd.prog 49 #[.pointer (some ⟨br, 0, none⟩)] ((w.alloc (.cells #[.int .i64 line, .string s] 93)).alloc (.cells #[.int .i64 0, .int .i64 0, .int .i64 0] 40)) fun e w' => e = .returned (.agg #[.int .i64 4, .int .i64 ln, .int .i64 co]) ∧ Below ((w.alloc (.cells #[.int .i64 line, .string s] 93)).alloc (.cells #[.int .i64 0, .int .i64 0, .int .i64 0] 40)).heap.size ((w.alloc (.cells #[.int .i64 line, .string s] 93)).alloc (.cells #[.int .i64 0, .int .i64 0, .int .i64 0] 40)) w') :=
    finish_open B br _ pre c ln co (h.below hb2) hop
  have r0 := (blk_new (w.alloc (.cells #[.int .i64 line, .string s] 93)) #[.int .i64 0, .int .i64 0, .int .i64 0] 40)
  rw [World.size_alloc] at r0
  have HR := hide r0
  have HB := hide hb2
  clear h hop hb2 r0
  go_enter Tryd.func73, Tryd.ntmps73
  go_wp2_with fail
  refine hfin.out.mono ?_
  rintro e w1 ⟨rfl, hb1⟩
  have hr1 := blk_kept hb1 HR.out
  have k0 : w1.cell? ⟨w.heap.size + 1, 0, none⟩ = some (.int .i64 0) := hr1.cell 0
  have k1 : w1.cell? ⟨w.heap.size + 1, 1, none⟩ = some (.int .i64 0) := hr1.cell 1
  have k2 : w1.cell? ⟨w.heap.size + 1, 2, none⟩ = some (.int .i64 0) := hr1.cell 2
  have f0 := hr1.free 0
  have f1 := hr1.free 1
  have f2 := hr1.free 2
  have hs1 := hr1.lt
  clear hr1
  go_wp2_with fail
  refine bodyPost_ret (v := .agg #[.int .i64 4, .int .i64 ln, .int .i64 co]) (by simp [results, Tryd.results73, go_sem, k0, k1, k2, hs1]) rfl ?_
  exact ⟨rfl, (below_set3 (HB.out.trans (hb1.mono HB.out.size)) (by omega) _ _ _).alloc (by simp; omega) _⟩

theorem cardInfo : (Tryd.prog.info? 71).map (fun i => (i.zero, i.size, i.bytes)) = some (some (.agg #[.bool false, .string ⟨#[]⟩, .slice none 0 0]), 3, 48) := by kernel_rfl

/-- a fault's three cells of the call's own, zero -/
abbrev fz : Obj := .cells #[.int .i64 0, .int .i64 0, .int .i64 0] 40

/-- a card that may be continued is still there where no row and not the reader turns -/
theorem RCur.mods7 {M : Nat → Prop} {B br : Nat} {w w' : World} {pre : List CardL} {c : CardL} {ln co : Int} (h : RCur B br w pre c ln co) (hm : Mods M w w') (hM : ∀ j o, M j → w.heap[j]? = some o → rowy o = false) (hbr : ¬ M br) : RCur B br w' pre c ln co := by
  obtain ⟨cs, g, cap, mv, p, bv, qb, h⟩ := h
  have hno : ∀ j o e, M j → w.heap[j]? = some o → elemT o = some e → (e == 5 || e == 71 || e == 115 || e == 4) = false := fun j o e hj ho he => by
    have := hM j o hj ho
    rw [rowy, he] at this
    exact this
  refine ⟨cs, g, cap, mv, p, bv, qb, h.blk.mods hm hbr, h.pre, h.tight, h.out.other hm (fun j o hj ho _ => ⟨fun he => by have := hno j o _ hj ho he; revert this; decide, fun he => by have := hno j o _ hj ho he; revert this; decide⟩), own_kept h.mown hm (fun j hj hMj => ?_), h.addr, own_kept h.text hm (fun j hj hMj => ?_), box_kept h.box hm (fun hMj => ?_), h.above⟩
  · obtain ⟨o, ho, he, _⟩ := own_elem h.mown j hj
    have := hno j o _ hMj ho he; revert this; decide
  · obtain ⟨o, ho, he, _⟩ := own_elem h.text j hj
    have := hno j o _ hMj ho he; revert this; decide
  · have := hno qb _ 4 hMj h.box (by simp [elemT]); revert this; decide
theorem Blk.mods7 {B br : Nat} {w w' : World} {b : Nat} {cs : Array Value} {T : TypeId} (h : Blk w b cs T) (k : FrR B br w w') (hb : b ≠ br) (hT : rowy (.cells cs T (0, 0)) = false) : w'.heap[b]? = some (.cells cs T (0, 0)) := k.blk h hb hT
theorem firstN_sp (l : List UInt8) (j : Nat) (h : j < firstN l) : l.getD j 0 = 32 := by
  induction l generalizing j with
  | nil => simp [firstN] at h
  | cons c l ih =>
    unfold firstN at h
    split at h
    · rename_i hc
      cases j with
      | zero => simpa using hc
      | succ j => simpa using ih j (by omega)
    · omega
theorem firstN_ne (l : List UInt8) (k : Nat) (h : k < l.length) (hk : firstN l = k) : l.getD k 0 ≠ 32 := by
  intro hc
  have := firstN_front l (k + 1) (by omega) (fun j hj => by
    rcases Nat.lt_or_ge j k with h' | h'
    · exact firstN_sp l j (by omega)
    · obtain rfl : j = k := by omega
      exact hc)
  omega
/-- the reader's block behind the append -/
theorem beg3 {B br n cap : Nat} {A : Option Addr} {w2 w3 : World} {o : Obj} {cs : List (CardL × Value)} {p bv fv ov lv kv : Value} (h : Blk w2 br #[.slice A n cap, p, bv, fv, ov, lv, kv] 88) (ho : OutI w2 B (.slice A n cap) cs) (hB : br < B)
    (hg : (w2.alloc o).grownBy w3 (Value.slice A n cap).ownBlock) : w3.cell? ⟨br, 0, none⟩ = some (.slice A n cap) ∧ w3.frozen? ⟨br, 0, none⟩ = false := by
  have := (h.alloc o).mods (Mods.of_grown hg) (fun e => by have := (ho.own.lt br e).1; omega)
  exact ⟨this.cell 0, this.free 0⟩

set_option maxHeartbeats 2000000 in
set_option maxRecDepth 100000 in
/-- a card begins, once the one before is finished -/
theorem begin_core (B br : Nat) (w : World) (all : List CardL) (line : Int) (s : ByteArray) (k : Nat) (hs : s.size ≤ 2000000) (hB : br < B) (hBw : B ≤ w.heap.size) (hl1 : all.length ≤ 999999) (hk : firstN (textOf s.data.toList) = k) (hk65 : k < 65)
    (hfin : Calls Tryd.prog 49 #[.pointer (some ⟨br, 0, none⟩)] ((w.alloc (.cells #[.int .i64 line, .string s] 93)).alloc fz) fun e w' => e = .returned (fault (0, 0, 0)) ∧ RFin B br w' all ∧ FrR B br ((w.alloc (.cells #[.int .i64 line, .string s] 93)).alloc fz) w') :
    Calls Tryd.prog 73 #[.pointer (some ⟨br, 0, none⟩), .agg #[.int .i64 line, .string s]] w fun e w' => e = .returned (fault (0, 0, 0)) ∧
      RCur B br w' all (addC ⟨decide (k < 4), [], []⟩ (tailL ((textOf s.data.toList).drop k) []) line ((k : Int) + 8)) line ((k : Int) + 8) ∧ FrR B br w w' := by
  have hfin2 : Hid (Calls Tryd.prog 49 #[.pointer (some ⟨br, 0, none⟩)] ((w.alloc (.cells #[.int .i64 line, .string s] 93)).alloc fz) fun e w' => e = .returned (.agg #[.int .i64 0, .int .i64 0, .int .i64 0]) ∧ RFin B br w' all ∧ FrR B br ((w.alloc (.cells #[.int .i64 line, .string s] 93)).alloc fz) w') := hfin
  have hF : Hid (∀ w1, Calls Tryd.prog 71 #[.agg #[.int .i64 line, .string s]] w1 fun e w' => e = .returned (.int .i64 ((k : Int) + 8)) ∧ Below w1.heap.size w1 w') := fun w1 => by
    have := first_rc line s w1 hs
    have e : ((firstC s.data.toList : Nat) : Int) = (k : Int) + 8 := by unfold firstC; rw [hk, if_pos hk65]; rfl
    rw [e] at this
    exact this
  obtain ⟨i0, hi, hz0, hz1, hz2⟩ := info_parts cardInfo
  have r0 := (blk_new (w.alloc (.cells #[.int .i64 line, .string s] 93)) #[.int .i64 0, .int .i64 0, .int .i64 0] 40)
  rw [World.size_alloc] at r0
  have r1 := (blk_new w #[.int .i64 line, .string s] 93).alloc fz
  have HR := hide r0
  have HR1 := hide r1
  have hF0 : Hid (FrR B br w ((w.alloc (.cells #[.int .i64 line, .string s] 93)).alloc fz)) := ((Mods.refl _ w).alloc _).alloc _
  have HK := hide hk
  clear hfin r0 r1 hk
  have hlr : rowy (.cells #[.int .i64 line, .string s] 93 (0, 0)) = false := by simp [rowy, elemT]
  have hlf : rowy (.cells #[.int .i64 0, .int .i64 0, .int .i64 0] 40 (0, 0)) = false := by simp [rowy, elemT]
  have HLR := hide hlr
  have HLF := hide hlf
  clear hlr hlf
  go_enter Tryd.func73, Tryd.ntmps73
  go_wp2_with fail
  refine hfin2.out.mono ?_
  rintro e w1 ⟨rfl, hR1, hf1⟩
  have hr1 := hf1.blk HR.out (by omega) HLF.out
  have hw1 := hf1.blk HR1.out (by omega) HLR.out
  have q0 : (w1.alloc (.cells #[.int .i64 0, .int .i64 0, .int .i64 0] 40)).cell? ⟨w.heap.size, 0, none⟩ = some (.int .i64 line) := (hw1.alloc _).cell 0
  have q1 : (w1.alloc (.cells #[.int .i64 0, .int .i64 0, .int .i64 0] 40)).cell? ⟨w.heap.size, 1, none⟩ = some (.string s) := (hw1.alloc _).cell 1
  have hsz1 := hr1.lt
  have HR1' := hide hr1
  have HW1 := hide hw1
  have HRF := hide hR1
  have HF1 := hide hf1
  clear hr1 hw1 hR1 hf1
  go_wp2_with fail
  refine (hF.out _).mono ?_
  rintro e w2 ⟨rfl, hb2⟩
  obtain ⟨cs, A, cap, fv, ln, co, hbk, hall, htight, hout⟩ := HRF.out
  have hm2 : Mods (fun _ => False) w1 w2 := ((Mods.refl _ w1).alloc fz).below hb2
  have hbk2 := hbk.mods hm2 (fun e => e)
  have hout2 := hout.other hm2 (fun _ _ e => e.elim)
  have hw2 := HW1.out.mods hm2 (fun e => e)
  have hr2 := HR1'.out.mods hm2 (fun e => e)
  have c0 : w2.cell? ⟨br, 0, none⟩ = some (.slice A cs.length cap) := hbk2.cell 0
  have hcl : cs.length ≤ 999999 := by have := congrArg List.length hall; simp at this; omega
  have hB2 : B ≤ w2.heap.size := by have := hm2.size; omega
  have HOUT2 := hide hout2
  have HBK2 := hide hbk2
  have HW2 := hide hw2
  have HR2 := hide hr2
  have HM2 := hide hm2
  clear hbk2 hout2 hw2 hr2 hm2 hb2 hbk hout q0 q1
  have hbrl := HBK2.out.lt
  have hLd : Hid (decide ((k : Int) + 8 < 12) = decide (k < 4)) := by unfold Hid; rw [decide_eq_decide]; omega
  go_wp2_with (at_builtin; refine wpList_append_lies _ rfl _ _ 66 rfl B 71 i0 _ 3 48 Tryd.underlying66 hi hz0 hz1 hz2 rfl (by decide) (.slice A cs.length cap) cs.length (cardCells cs) rfl (HOUT2.out.own.alloc _) ⟨w2.heap.size, 0, none⟩ 1 1 [.bool (decide ((k : Int) + 8 < 12)), .string ⟨#[]⟩, .slice none 0 0] rfl rfl (World.news_of_block (heap_alloc_new _ _)) (by simp [Value.oneCell']) (by omega) (by unfold maxLen; omega) (by omega) (by simp; omega) (w2.heap.size + 1) (by simp) ?_; intro g1 c1 w3 hown3 hgrow3 hat3 hlt3; have z := beg3 HBK2.out HOUT2.out hB hgrow3; have z0 := z.1; have z1 := z.2)
  have hm6 : Mods (fun j => j = br ∨ (Value.slice A cs.length cap).ownBlock = some j) w2 (((w3.setCell ⟨br, 0, none⟩ (.slice (some ⟨g1, 0, none⟩) (cs.length + 1) c1)).setCell ⟨br, 3, none⟩ (.func (.func 53) #[] #[.pointer (some ⟨w3.heap.size, 0, none⟩)])).alloc (.cells #[.bool false] 4)) :=
    (((((Mods.refl _ w2).alloc _).trans' (Mods.of_grown hgrow3) (fun j _ e => .inr e)).set br 0 _ (fun _ => .inl rfl)).set br 3 _ (fun _ => .inl rfl)).alloc _
  have hm5 : Mods (fun j => (Value.slice A cs.length cap).ownBlock = some j) w2 w3 := ((Mods.refl _ w2).alloc _).trans' (Mods.of_grown hgrow3) (fun j _ e => e)
  have hb3 := HBK2.out.mods hm5 (fun e => by have := (HOUT2.out.own.lt br e).1; omega)
  have hb4 := hb3.set 0 (.slice (some ⟨g1, 0, none⟩) (cs.length + 1) c1)
  have hb5 := hb4.alloc (.cells #[.bool false] 4)
  have hb6 := (hb4.set 3 (.func (.func 53) #[] #[.pointer (some ⟨w3.heap.size, 0, none⟩)])).alloc (.cells #[.bool false] 4)
  have hno : ∀ j o, (Value.slice A cs.length cap).ownBlock = some j → w2.heap[j]? = some o → elemT o = some 71 := fun j o hj ho => by
    obtain ⟨o', ho', he, _⟩ := own_elem HOUT2.out.own j hj
    obtain rfl := Option.some.inj (ho.symm.trans ho'); exact he
  have hr6 := HR2.out.mods hm6 (fun hj => by
    rcases hj with e | e
    · omega
    · have := hno _ _ e HR2.out; simp [elemT] at this)
  have hw6 := HW2.out.mods hm6 (fun hj => by
    rcases hj with e | e
    · omega
    · have := hno _ _ e HW2.out; simp [elemT] at this)
  have y3 : ((w3.setCell ⟨br, 0, none⟩ (.slice (some ⟨g1, 0, none⟩) (cs.length + 1) c1)).alloc (.cells #[.bool false] 4)).cell? ⟨br, 3, none⟩ = some fv := hb5.cell 3
  have y4 := hb5.free 3
  have hw3 := HW2.out.mods hm5 (fun e => by have := hno _ _ e HW2.out; simp [elemT] at this)
  have hw4 := hw3.mods ((Mods.refl (· = br) w3).set br 0 (.slice (some ⟨g1, 0, none⟩) (cs.length + 1) c1) (fun _ => rfl)) (by omega)
  have hw5 := hw4.alloc (.cells #[.bool false] 4)
  have p0 := (hw3.cell 0 : _ = some (Value.int .i64 line))
  have p1 := (hw3.cell 1 : _ = some (Value.string s))
  have p2 := (hw4.cell 0 : _ = some (Value.int .i64 line))
  have p3 := (hw4.cell 1 : _ = some (Value.string s))
  have p4 := (hw5.cell 0 : _ = some (Value.int .i64 line))
  have p5 := (hw5.cell 1 : _ = some (Value.string s))
  clear hw3 hw4 hw5
  have q0 := (hw6.cell 0 : _ = some (Value.int .i64 line))
  have q1 := (hw6.cell 1 : _ = some (Value.string s))
  have hbrl4 : br < (w3.setCell ⟨br, 0, none⟩ (.slice (some ⟨g1, 0, none⟩) (cs.length + 1) c1)).heap.size := hb4.lt
  have hB4 : B ≤ (w3.setCell ⟨br, 0, none⟩ (.slice (some ⟨g1, 0, none⟩) (cs.length + 1) c1)).heap.size := by have := hm5.size; simp [World.setCell]; omega
  have ho3 : OutI w3 B (.slice (some ⟨g1, 0, none⟩) (cs.length + 1) c1) (cs ++ [(⟨decide (k < 4), [], []⟩, .slice none 0 0)]) := (HOUT2.out.alloc _).push (decide (k < 4)) rfl (by rw [← hLd.out]; exact hown3) hgrow3 (hat3.imp id (fun e => by rw [e]; simp))
  have ho6 : OutI _ B _ _ := ho3.other ((((Mods.refl (· = br) w3).set br 0 (.slice (some ⟨g1, 0, none⟩) (cs.length + 1) c1) (fun _ => rfl)).set br 3 (.func (.func 53) #[] #[.pointer (some ⟨w3.heap.size, 0, none⟩)]) (fun _ => rfl)).alloc (.cells #[.bool false] 4)) (fun j o e _ hBj => by subst e; omega)
  have hsw : (w3.setCell ⟨br, 0, none⟩ (.slice (some ⟨g1, 0, none⟩) (cs.length + 1) c1)).heap.size = w3.heap.size := by simp [World.setCell]
  have hsw2 : ((w3.setCell ⟨br, 0, none⟩ (.slice (some ⟨g1, 0, none⟩) (cs.length + 1) c1)).setCell ⟨br, 3, none⟩ (.func (.func 53) #[] #[.pointer (some ⟨w3.heap.size, 0, none⟩)])).heap.size = w3.heap.size := by simp [World.setCell]
  have hbx6 := Boxed.new ((w3.setCell ⟨br, 0, none⟩ (.slice (some ⟨g1, 0, none⟩) (cs.length + 1) c1)).setCell ⟨br, 3, none⟩ (.func (.func 53) #[] #[.pointer (some ⟨w3.heap.size, 0, none⟩)])) 4 (.bool false)
  rw [hsw] at hB4 hbrl4
  rw [hsw2] at hbx6
  have hcur6 : RCur B br (((w3.setCell ⟨br, 0, none⟩ (.slice (some ⟨g1, 0, none⟩) (cs.length + 1) c1)).setCell ⟨br, 3, none⟩ (.func (.func 53) #[] #[.pointer (some ⟨w3.heap.size, 0, none⟩)])).alloc (.cells #[.bool false] 4)) all ⟨decide (k < 4), [], []⟩ ln co :=
    ⟨cs, g1, c1, .slice none 0 0, .pointer none, .slice none 0 0, _, hb6, hall, htight, ho6, World.ownsRow_nil _ _ _ _, .inl rfl, World.ownsRow_nil _ _ _ _, hbx6, hB4⟩
  have HM6 := hide hm6
  have HCUR6 := hide hcur6
  have HR6 := hide hr6
  have HNO := hide hno
  have hsz6 := hm6.size
  clear hsw hsw2 hm6 hm5 hb3 hb4 hb5 hb6 hno hr6 hw6 ho3 ho6 hbx6 hcur6
  go_wp2_with fail
  refine (quotes_c false _).mono ?_
  rintro e w5 ⟨rfl, rfl⟩
  go_wp2_with fail
  have hkm : k + 7 ≤ min s.size 72 := by
    have h1 := textOf_out s.data.toList k hk65
    have h2 := firstN_ne _ k (by rw [textOf_length]; omega) HK.out
    rw [len_data] at h1
    rcases Nat.lt_or_ge (k + 7) s.size with h | h
    · omega
    · exact absurd (h1 h) h2
  refine (add_c B br _ all ⟨decide (k < 4), [], []⟩ ln co line s k HCUR6.out hkm hs hB (by omega) (by omega) (by simp) (by simp)).mono ?_
  rintro e w7 ⟨rfl, hcur7, hf7⟩
  have hr7 := hf7.blk HR6.out (by omega) HLF.out
  have k0 : w7.cell? ⟨w.heap.size + 1, 0, none⟩ = some (.int .i64 0) := hr7.cell 0
  have k1 : w7.cell? ⟨w.heap.size + 1, 1, none⟩ = some (.int .i64 0) := hr7.cell 1
  have k2 : w7.cell? ⟨w.heap.size + 1, 2, none⟩ = some (.int .i64 0) := hr7.cell 2
  have f0 := hr7.free 0
  have f1 := hr7.free 1
  have f2 := hr7.free 2
  have HC7 := hide hcur7
  have HF7 := hide hf7
  have hlt7 := hr7.lt
  clear hr7 hcur7 hf7
  go_wp2_with fail
  refine bodyPost_ret (v := .agg #[.int .i64 0, .int .i64 0, .int .i64 0]) (by simp [results, Tryd.results73, go_sem, k0, k1, k2]) rfl ?_
  have hmS : ∀ x y z : Value, Mods (· = w.heap.size + 1) w7 (((w7.setCell ⟨w.heap.size + 1, 0, none⟩ x).setCell ⟨w.heap.size + 1, 1, none⟩ y).setCell ⟨w.heap.size + 1, 2, none⟩ z) := fun x y z =>
    (((Mods.refl (· = w.heap.size + 1) w7).set _ _ _ (fun _ => rfl)).set _ _ _ (fun _ => rfl)).set _ _ _ (fun _ => rfl)
  have s2 : FrR B br w2 _ := FrR.of HM6.out (fun i hi e => by
    rcases e with e | e
    · exact .inl e
    · obtain ⟨o', ho', he, hBk⟩ := own_elem HOUT2.out.own i e
      exact .inr ⟨hBk, o', ho', by rw [rowy, he]; decide⟩)
  have s1 : FrR B br w1 w2 := HM2.out.weak (fun _ _ e => e.elim)
  refine ⟨rfl, ?_, Mods.trans' ((hF0.out.trans HF1.out).trans ((s1.trans s2).trans HF7.out)) (hmS _ _ _) (fun i hi e => by omega)⟩
  exact HC7.out.mods7 (hmS _ _ _) (fun j o hj ho => by
    subst hj
    obtain rfl := Option.some.inj (ho.symm.trans (HR6.out.mods7 HF7.out (by omega) HLF.out))
    simp [rowy, elemT]) (by omega)
end Go.Proofs.YteceealibfemjaaDoor
