/-
  THE CONTRACT of the reader's extend (layer 2, columns).
-/
import Derived.Test.YteceealibfemjaaDoorBeg
import Derived.Outline
namespace Go.Proofs.YteceealibfemjaaDoor
open Go.RowKit

theorem first_at (line : Int) (s : ByteArray) (k : Nat) (hs : s.size ≤ 2000000) (hk : firstN (textOf s.data.toList) = k) (hk65 : k < 65) (w1 : World) :
    Calls Tryd.prog 71 #[.agg #[.int .i64 line, .string s]] w1 fun e w' => e = .returned (.int .i64 ((k : Int) + 8)) ∧ Below w1.heap.size w1 w' := by
  have := first_rc line s w1 hs
  have e : ((firstC s.data.toList : Nat) : Int) = (k : Int) + 8 := by unfold firstC; rw [hk, if_pos hk65]; rfl
  rw [e] at this
  exact this
theorem first_in (s : ByteArray) (k : Nat) (hk : firstN (textOf s.data.toList) = k) (hk65 : k < 65) : k + 7 < s.size := by
  have h1 := textOf_out s.data.toList k hk65
  have h2 := firstN_ne _ k (by rw [textOf_length]; omega) hk
  rw [len_data] at h1
  rcases Nat.lt_or_ge (k + 7) s.size with h | h
  · exact h
  · exact absurd (h1 h) h2

set_option maxHeartbeats 1000000 in
set_option maxRecDepth 100000 in
/-- there is no card to be continued -/
theorem extend_none (B br : Nat) (w : World) (line : Int) (s : ByteArray) (k : Nat) (hs : s.size ≤ 2000000) (hk : firstN (textOf s.data.toList) = k) (hk65 : k < 65) (h : RFin B br w []) :
    Calls Tryd.prog 72 #[.pointer (some ⟨br, 0, none⟩), .agg #[.int .i64 line, .string s]] w fun e w' => e = .returned (fault (6, line, 7)) ∧ Below w.heap.size w w' := by
  obtain ⟨cs, A, cap, fv, ln, co, hb, hc, ht, ho⟩ := h
  obtain rfl : cs = [] := by simpa using hc
  have hF := hide (first_at line s k hs hk hk65)
  have hflt : Hid (∀ (e c : Int) (w1 : World), Calls Tryd.prog 69 #[.agg #[.int .i64 line, .string s], .int .i64 e, .int .i64 c] w1 fun en w' => en = .returned (.agg #[.int .i64 e, .int .i64 line, .int .i64 c]) ∧ Below w1.heap.size w1 w') := fun e c w1 => fault_c line e c s w1
  have hb2 := below2 w (.cells #[.int .i64 line, .string s] 93) (.cells #[.int .i64 0, .int .i64 0, .int .i64 0] 40)
  have r0 := (blk_new (w.alloc (.cells #[.int .i64 line, .string s] 93)) #[.int .i64 0, .int .i64 0, .int .i64 0] 40)
  rw [World.size_alloc] at r0
  have r1 := (blk_new w #[.int .i64 line, .string s] 93).alloc (.cells #[.int .i64 0, .int .i64 0, .int .i64 0] 40)
  have hbw := (hb.alloc (.cells #[.int .i64 line, .string s] 93)).alloc (.cells #[.int .i64 0, .int .i64 0, .int .i64 0] 40)
  have HR := hide r0
  have HR1 := hide r1
  have HB2 := hide hb2
  have HBW := hide hbw
  clear r0 r1 hb2 hbw hb ht ho hk hc
  go_enter Tryd.func72, Tryd.ntmps72
  go_wp2_with fail
  refine (hF.out _).mono ?_
  rintro e w1 ⟨rfl, hb1⟩
  have hx := blk_kept hb1 HBW.out
  have hw1 := blk_kept hb1 HR1.out
  have hf1 := blk_kept hb1 HR.out
  have c0 : w1.cell? ⟨br, 0, none⟩ = some (.slice A 0 cap) := hx.cell 0
  have q0 : w1.cell? ⟨w.heap.size, 0, none⟩ = some (.int .i64 line) := hw1.cell 0
  have q1 : w1.cell? ⟨w.heap.size, 1, none⟩ = some (.string s) := hw1.cell 1
  have HF1 := hide hf1
  clear hx hw1 hf1
  go_wp2_with fail
  refine (hflt.out 6 7 _).mono ?_
  rintro e w2 ⟨rfl, hb3⟩
  have hf2 := blk_kept hb3 HF1.out
  have k0 : w2.cell? ⟨w.heap.size + 1, 0, none⟩ = some (.int .i64 0) := hf2.cell 0
  have k1 : w2.cell? ⟨w.heap.size + 1, 1, none⟩ = some (.int .i64 0) := hf2.cell 1
  have k2 : w2.cell? ⟨w.heap.size + 1, 2, none⟩ = some (.int .i64 0) := hf2.cell 2
  have f0 := hf2.free 0
  have f1 := hf2.free 1
  have f2 := hf2.free 2
  clear hf2
  go_wp2_with fail
  refine bodyPost_ret (v := .agg #[.int .i64 6, .int .i64 line, .int .i64 7]) (by simp [results, Tryd.results72, go_sem, k0, k1, k2]) rfl ?_
  have hB12 := HB2.out.trans (hb1.mono HB2.out.size)
  exact ⟨rfl, below_set3 (hB12.trans (hb3.mono hB12.size)) (by omega) _ _ _⟩

set_option maxHeartbeats 2000000 in
set_option maxRecDepth 100000 in
/-- the line may not continue the card -/
theorem extend_bad (B br : Nat) (w : World) (pre : List CardL) (c : CardL) (ln co line : Int) (s : ByteArray) (k : Nat) (hs : s.size ≤ 2000000) (hk : firstN (textOf s.data.toList) = k) (hk65 : k < 65) (h : RCur B br w pre c ln co)
    (hbad : k < 4 ∨ (openL c.text = true ∧ (textOf s.data.toList).getD k 0 ≠ 34)) :
    Calls Tryd.prog 72 #[.pointer (some ⟨br, 0, none⟩), .agg #[.int .i64 line, .string s]] w fun e w' => e = .returned (fault (4, line, (k : Int) + 8)) ∧ Below w.heap.size w w' := by
  obtain ⟨cs, g, cap, mv, p, bv, qb, h⟩ := h
  have hin := first_in s k hk hk65
  have hT := textOf_in s.data.toList k hk65 (by rw [len_data]; exact hin)
  rw [getD_at s (k + 7) hin] at hT
  rw [hT] at hbad
  have hF := hide (first_at line s k hs hk hk65)
  have hflt : Hid (∀ (e c : Int) (w1 : World), Calls Tryd.prog 69 #[.agg #[.int .i64 line, .string s], .int .i64 e, .int .i64 c] w1 fun en w' => en = .returned (.agg #[.int .i64 e, .int .i64 line, .int .i64 c]) ∧ Below w1.heap.size w1 w') := fun e c w1 => fault_c line e c s w1
  have hb2 := below2 w (.cells #[.int .i64 line, .string s] 93) (.cells #[.int .i64 0, .int .i64 0, .int .i64 0] 40)
  have r0 := (blk_new (w.alloc (.cells #[.int .i64 line, .string s] 93)) #[.int .i64 0, .int .i64 0, .int .i64 0] 40)
  rw [World.size_alloc] at r0
  have r1 := (blk_new w #[.int .i64 line, .string s] 93).alloc (.cells #[.int .i64 0, .int .i64 0, .int .i64 0] 40)
  obtain ⟨q, hq⟩ : ∃ q, q = openL c.text := ⟨_, rfl⟩
  have hb := h.blk
  rw [← hq] at hb hbad
  have hbw := (hb.alloc (.cells #[.int .i64 line, .string s] 93)).alloc (.cells #[.int .i64 0, .int .i64 0, .int .i64 0] 40)
  have hcn : (((cs.length + 1 : Nat) : Int) == 0) = false := by rw [beq_eq_false_iff_ne]; omega
  have hcn2 : (((cs.length : Int) + 1) == 0) = false := by rw [beq_eq_false_iff_ne]; omega
  have HR := hide r0
  have HR1 := hide r1
  have HB2 := hide hb2
  have HBW := hide hbw
  have HH := hide h
  clear r0 r1 hb2 hbw hb hk hT hq h
  have hcs : Hid (k < 4 ∨ (4 ≤ k ∧ q = true ∧ (s[k + 7]'hin).toNat ≠ 34)) := by
    rcases hbad with h | ⟨h1, h2⟩
    · exact .inl h
    · rcases Nat.lt_or_ge k 4 with h | h
      · exact .inl h
      · exact .inr ⟨h, h1, fun e => h2 (UInt8.toNat_inj.1 e)⟩
  clear hbad
  rcases hcs.out with hk4 | ⟨hk4, rfl, hne⟩
  · go_enter Tryd.func72, Tryd.ntmps72
    go_wp2_with fail
    refine (hF.out _).mono ?_
    rintro e w1 ⟨rfl, hb1⟩
    have hx := blk_kept hb1 HBW.out
    have hw1 := blk_kept hb1 HR1.out
    have hf1 := blk_kept hb1 HR.out
    have c0 : w1.cell? ⟨br, 0, none⟩ = some (.slice (some ⟨g, 0, none⟩) (cs.length + 1) cap) := hx.cell 0
    have q0 : w1.cell? ⟨w.heap.size, 0, none⟩ = some (.int .i64 line) := hw1.cell 0
    have q1 : w1.cell? ⟨w.heap.size, 1, none⟩ = some (.string s) := hw1.cell 1
    have HF1 := hide hf1
    clear hx hw1 hf1
    go_wp2_with fail
    refine (hflt.out 4 ((k : Int) + 8) _).mono ?_
    rintro e w2 ⟨rfl, hb3⟩
    have hf2 := blk_kept hb3 HF1.out
    have k0 : w2.cell? ⟨w.heap.size + 1, 0, none⟩ = some (.int .i64 0) := hf2.cell 0
    have k1 : w2.cell? ⟨w.heap.size + 1, 1, none⟩ = some (.int .i64 0) := hf2.cell 1
    have k2 : w2.cell? ⟨w.heap.size + 1, 2, none⟩ = some (.int .i64 0) := hf2.cell 2
    have f0 := hf2.free 0
    have f1 := hf2.free 1
    have f2 := hf2.free 2
    clear hf2
    go_wp2_with fail
    refine bodyPost_ret (v := .agg #[.int .i64 4, .int .i64 line, .int .i64 ((k : Int) + 8)]) (by simp [results, Tryd.results72, go_sem, k0, k1, k2]) rfl ?_
    have hB12 := HB2.out.trans (hb1.mono HB2.out.size)
    exact ⟨rfl, below_set3 (hB12.trans (hb3.mono hB12.size)) (by omega) _ _ _⟩
  · have et : (((s[k + 7]'hin).toNat : Int) != 34) = true := by rw [bne_iff_ne]; omega
    clear hne
    go_enter Tryd.func72, Tryd.ntmps72
    go_wp2_with fail
    refine (hF.out _).mono ?_
    rintro e w1 ⟨rfl, hb1⟩
    have hx := blk_kept hb1 HBW.out
    have hw1 := blk_kept hb1 HR1.out
    have hf1 := blk_kept hb1 HR.out
    have c0 : w1.cell? ⟨br, 0, none⟩ = some (.slice (some ⟨g, 0, none⟩) (cs.length + 1) cap) := hx.cell 0
    have q0 : w1.cell? ⟨w.heap.size, 0, none⟩ = some (.int .i64 line) := hw1.cell 0
    have q1 : w1.cell? ⟨w.heap.size, 1, none⟩ = some (.string s) := hw1.cell 1
    have c3 : w1.cell? ⟨br, 4, none⟩ = some (.bool true) := hx.cell 4
    have HF1 := hide hf1
    clear hx hw1 hf1
    go_wp2_with fail
    refine (hflt.out 4 ((k : Int) + 8) _).mono ?_
    rintro e w2 ⟨rfl, hb3⟩
    have hf2 := blk_kept hb3 HF1.out
    have k0 : w2.cell? ⟨w.heap.size + 1, 0, none⟩ = some (.int .i64 0) := hf2.cell 0
    have k1 : w2.cell? ⟨w.heap.size + 1, 1, none⟩ = some (.int .i64 0) := hf2.cell 1
    have k2 : w2.cell? ⟨w.heap.size + 1, 2, none⟩ = some (.int .i64 0) := hf2.cell 2
    have f0 := hf2.free 0
    have f1 := hf2.free 1
    have f2 := hf2.free 2
    clear hf2
    go_wp2_with fail
    refine bodyPost_ret (v := .agg #[.int .i64 4, .int .i64 line, .int .i64 ((k : Int) + 8)]) (by simp [results, Tryd.results72, go_sem, k0, k1, k2]) rfl ?_
    have hB12 := HB2.out.trans (hb1.mono HB2.out.size)
    exact ⟨rfl, below_set3 (hB12.trans (hb3.mono hB12.size)) (by omega) _ _ _⟩

set_option maxHeartbeats 2000000 in
set_option maxRecDepth 100000 in
/-- the line continues the card -/
theorem extend_ok (B br : Nat) (w : World) (pre : List CardL) (c : CardL) (ln co line : Int) (s : ByteArray) (k k' : Nat) (hs : s.size ≤ 2000000) (hk : firstN (textOf s.data.toList) = k) (hk65 : k < 65) (h : RCur B br w pre c ln co) (hB : br < B) (hBw : B ≤ w.heap.size)
    (hl1 : pre.length ≤ 1000000) (hl2 : c.text.length ≤ 5000000) (hl3 : c.marks.length ≤ 1000000)
    (hk4 : 4 ≤ k) (hok : (openL c.text = false ∧ k' = k) ∨ (openL c.text = true ∧ (textOf s.data.toList).getD k 0 = 34 ∧ k' = k + 1)) :
    Calls Tryd.prog 72 #[.pointer (some ⟨br, 0, none⟩), .agg #[.int .i64 line, .string s]] w fun e w' => e = .returned (fault (0, 0, 0)) ∧
      RCur B br w' pre (addC c (tailL ((textOf s.data.toList).drop k') c.text) line ((k' : Int) + 8)) line ((k' : Int) + 8) ∧ FrR B br w w' := by
  have hin := first_in s k hk hk65
  have hT := textOf_in s.data.toList k hk65 (by rw [len_data]; exact hin)
  rw [getD_at s (k + 7) hin] at hT
  rw [hT] at hok
  have hF := hide (first_at line s k hs hk hk65)
  have hb2 := below2 w (.cells #[.int .i64 line, .string s] 93) (.cells #[.int .i64 0, .int .i64 0, .int .i64 0] 40)
  have r0 := (blk_new (w.alloc (.cells #[.int .i64 line, .string s] 93)) #[.int .i64 0, .int .i64 0, .int .i64 0] 40)
  rw [World.size_alloc] at r0
  have r1 := (blk_new w #[.int .i64 line, .string s] 93).alloc (.cells #[.int .i64 0, .int .i64 0, .int .i64 0] 40)
  have hcur := hide (h.below hb2)
  obtain ⟨cs, g, cap, mv, p, bv, qb, h⟩ := h
  obtain ⟨q, hq⟩ : ∃ q, q = openL c.text := ⟨_, rfl⟩
  have hb := h.blk
  rw [← hq] at hb hok
  have hbw := (hb.alloc (.cells #[.int .i64 line, .string s] 93)).alloc (.cells #[.int .i64 0, .int .i64 0, .int .i64 0] 40)
  have hcn : (((cs.length + 1 : Nat) : Int) == 0) = false := by rw [beq_eq_false_iff_ne]; omega
  have hcn2 : (((cs.length : Int) + 1) == 0) = false := by rw [beq_eq_false_iff_ne]; omega
  have hlf : rowy (.cells #[.int .i64 0, .int .i64 0, .int .i64 0] 40 (0, 0)) = false := by simp [rowy, elemT]
  have HLF := hide hlf
  have HR := hide r0
  have HR1 := hide r1
  have HB2 := hide hb2
  have HBW := hide hbw
  have hcs : Hid ((q = false ∧ k' = k) ∨ (q = true ∧ (s[k + 7]'hin).toNat = 34 ∧ k' = k + 1)) := by
    rcases hok with h | ⟨h1, h2, h3⟩
    · exact .inl h
    · exact .inr ⟨h1, by rw [h2]; rfl, h3⟩
  clear r0 r1 hb2 hbw hb hk hT hq h hok hlf
  rcases hcs.out with ⟨rfl, rfl⟩ | ⟨rfl, h34, rfl⟩
  · go_enter Tryd.func72, Tryd.ntmps72
    go_wp2_with fail
    refine (hF.out _).mono ?_
    rintro e w1 ⟨rfl, hb1⟩
    have hx := blk_kept hb1 HBW.out
    have hw1 := blk_kept hb1 HR1.out
    have hf1 := blk_kept hb1 HR.out
    have c0 : w1.cell? ⟨br, 0, none⟩ = some (.slice (some ⟨g, 0, none⟩) (cs.length + 1) cap) := hx.cell 0
    have q0 : w1.cell? ⟨w.heap.size, 0, none⟩ = some (.int .i64 line) := hw1.cell 0
    have q1 : w1.cell? ⟨w.heap.size, 1, none⟩ = some (.string s) := hw1.cell 1
    have c3 : w1.cell? ⟨br, 4, none⟩ = some (.bool false) := hx.cell 4
    have HF1 := hide hf1
    clear hx hw1 hf1
    go_wp2_with fail
    refine (add_c B br _ pre c ln co line s k' (RCur.below hcur.out hb1) (by omega) hs hB (by have := hb1.size; have := HB2.out.size; omega) hl1 hl2 hl3).mono ?_
    rintro e w7 ⟨rfl, hcur7, hf7⟩
    have hr7 := hf7.blk HF1.out (by omega) HLF.out
    have k0 : w7.cell? ⟨w.heap.size + 1, 0, none⟩ = some (.int .i64 0) := hr7.cell 0
    have k1 : w7.cell? ⟨w.heap.size + 1, 1, none⟩ = some (.int .i64 0) := hr7.cell 1
    have k2 : w7.cell? ⟨w.heap.size + 1, 2, none⟩ = some (.int .i64 0) := hr7.cell 2
    have f0 := hr7.free 0
    have f1 := hr7.free 1
    have f2 := hr7.free 2
    have HC7 := hide hcur7
    have HF7 := hide hf7
    have HR7 := hide hr7
    have hlt7 := hr7.lt
    clear hr7 hcur7 hf7
    go_wp2_with fail
    refine bodyPost_ret (v := .agg #[.int .i64 0, .int .i64 0, .int .i64 0]) (by simp [results, Tryd.results72, go_sem, k0, k1, k2]) rfl ?_
    have hmS : ∀ x y z : Value, Mods (· = w.heap.size + 1) w7 (((w7.setCell ⟨w.heap.size + 1, 0, none⟩ x).setCell ⟨w.heap.size + 1, 1, none⟩ y).setCell ⟨w.heap.size + 1, 2, none⟩ z) := fun x y z =>
      (((Mods.refl (· = w.heap.size + 1) w7).set _ _ _ (fun _ => rfl)).set _ _ _ (fun _ => rfl)).set _ _ _ (fun _ => rfl)
    have hF0 : FrR B br w w1 := (((Mods.refl _ w).alloc _).alloc _).below hb1
    refine ⟨rfl, HC7.out.mods7 (hmS _ _ _) (fun j o hj ho => ?_) (by omega), Mods.trans' (hF0.trans HF7.out) (hmS _ _ _) (fun i hi e => by omega)⟩
    subst hj
    obtain rfl := Option.some.inj (ho.symm.trans HR7.out)
    simp [rowy, elemT]
  · have et : (((s[k + 7]'hin).toNat : Int) != 34) = false := by rw [bne_eq_false_iff_eq]; omega
    clear h34
    go_enter Tryd.func72, Tryd.ntmps72
    go_wp2_with fail
    refine (hF.out _).mono ?_
    rintro e w1 ⟨rfl, hb1⟩
    have hx := blk_kept hb1 HBW.out
    have hw1 := blk_kept hb1 HR1.out
    have hf1 := blk_kept hb1 HR.out
    have c0 : w1.cell? ⟨br, 0, none⟩ = some (.slice (some ⟨g, 0, none⟩) (cs.length + 1) cap) := hx.cell 0
    have q0 : w1.cell? ⟨w.heap.size, 0, none⟩ = some (.int .i64 line) := hw1.cell 0
    have q1 : w1.cell? ⟨w.heap.size, 1, none⟩ = some (.string s) := hw1.cell 1
    have c3 : w1.cell? ⟨br, 4, none⟩ = some (.bool true) := hx.cell 4
    have HF1 := hide hf1
    clear hx hw1 hf1
    go_wp2_with fail
    refine (add_c B br _ pre c ln co line s (k + 1) (RCur.below hcur.out hb1) (by omega) hs hB (by have := hb1.size; have := HB2.out.size; omega) hl1 hl2 hl3).mono ?_
    rintro e w7 ⟨rfl, hcur7, hf7⟩
    have hr7 := hf7.blk HF1.out (by omega) HLF.out
    have k0 : w7.cell? ⟨w.heap.size + 1, 0, none⟩ = some (.int .i64 0) := hr7.cell 0
    have k1 : w7.cell? ⟨w.heap.size + 1, 1, none⟩ = some (.int .i64 0) := hr7.cell 1
    have k2 : w7.cell? ⟨w.heap.size + 1, 2, none⟩ = some (.int .i64 0) := hr7.cell 2
    have f0 := hr7.free 0
    have f1 := hr7.free 1
    have f2 := hr7.free 2
    have HC7 := hide hcur7
    have HF7 := hide hf7
    have HR7 := hide hr7
    have hlt7 := hr7.lt
    clear hr7 hcur7 hf7
    go_wp2_with fail
    refine bodyPost_ret (v := .agg #[.int .i64 0, .int .i64 0, .int .i64 0]) (by simp [results, Tryd.results72, go_sem, k0, k1, k2]) rfl ?_
    have hmS : ∀ x y z : Value, Mods (· = w.heap.size + 1) w7 (((w7.setCell ⟨w.heap.size + 1, 0, none⟩ x).setCell ⟨w.heap.size + 1, 1, none⟩ y).setCell ⟨w.heap.size + 1, 2, none⟩ z) := fun x y z =>
      (((Mods.refl (· = w.heap.size + 1) w7).set _ _ _ (fun _ => rfl)).set _ _ _ (fun _ => rfl)).set _ _ _ (fun _ => rfl)
    have hF0 : FrR B br w w1 := (((Mods.refl _ w).alloc _).alloc _).below hb1
    refine ⟨rfl, HC7.out.mods7 (hmS _ _ _) (fun j o hj ho => ?_) (by omega), Mods.trans' (hF0.trans HF7.out) (hmS _ _ _) (fun i hi e => by omega)⟩
    subst hj
    obtain rfl := Option.some.inj (ho.symm.trans HR7.out)
    simp [rowy, elemT]
end Go.Proofs.YteceealibfemjaaDoor
