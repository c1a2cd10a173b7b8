/-
  THE CONTRACT of the reader's read (layer 2, columns).
-/
import Derived.Test.YteceealibfemjaaDoorExt
namespace Go.Proofs.YteceealibfemjaaDoor
open Go.RowKit

/-- the line is a continuation -/
def contL (l : List UInt8) : Bool := decide ((markOf l).toNat = 45)
/-- what read calls -/
def readF (cont : Bool) : FuncId := if cont then 72 else 73

set_option maxHeartbeats 2000000 in
set_option maxRecDepth 100000 in
theorem read_fault (br : Nat) (w : World) (line : Int) (s : ByteArray) (cont : Bool) (f : Int × Int × Int) (hs : s.size ≤ 2000000) (hc : contL s.data.toList = cont)
    (hcall : ∀ w1, Below w.heap.size w w1 → Calls Tryd.prog (readF cont) #[.pointer (some ⟨br, 0, none⟩), .agg #[.int .i64 line, .string s]] w1 fun e w' => e = .returned (fault f) ∧ Below w1.heap.size w1 w') :
    Calls Tryd.prog 48 #[.pointer (some ⟨br, 0, none⟩), .agg #[.int .i64 line, .string s]] w fun e w' => e = .returned (fault f) ∧ Below w.heap.size w w' := by
  obtain ⟨fe, fl, fc⟩ := f
  have hI := hide (fun (w1 : World) => indicator_c line s w1 hs)
  obtain ⟨m, hm⟩ : ∃ m, m = markOf s.data.toList := ⟨_, rfl⟩
  unfold contL at hc
  rw [← hm] at hI hc
  have hcall2 : Hid (∀ w1, Below w.heap.size w w1 → Calls Tryd.prog (readF cont) #[.pointer (some ⟨br, 0, none⟩), .agg #[.int .i64 line, .string s]] w1 fun e w' => e = .returned (.agg #[.int .i64 fe, .int .i64 fl, .int .i64 fc]) ∧ Below w1.heap.size w1 w') := hcall
  have hb2 := below2 w (.cells #[.int .i64 line, .string s] 93) (.cells #[.int .i64 0, .int .i64 0, .int .i64 0] 40)
  have r0 := (blk_new (w.alloc (.cells #[.int .i64 line, .string s] 93)) #[.int .i64 0, .int .i64 0, .int .i64 0] 40)
  rw [World.size_alloc] at r0
  have r1 := (blk_new w #[.int .i64 line, .string s] 93).alloc (.cells #[.int .i64 0, .int .i64 0, .int .i64 0] 40)
  have HR := hide r0
  have HR1 := hide r1
  have HB2 := hide hb2
  clear r0 r1 hb2 hm hcall
  cases cont
  · have e45 : ((m.toNat : Int) == 45) = false := by rw [beq_eq_false_iff_ne]; have := of_decide_eq_false hc; omega
    clear hc
    go_enter Tryd.func48, Tryd.ntmps48
    go_wp2_with fail
    refine (hI.out _).mono ?_
    rintro e w1 ⟨rfl, hb1⟩
    have hw1 := blk_kept hb1 HR1.out
    have q0 : w1.cell? ⟨w.heap.size, 0, none⟩ = some (.int .i64 line) := hw1.cell 0
    have q1 : w1.cell? ⟨w.heap.size, 1, none⟩ = some (.string s) := hw1.cell 1
    have HF1 := hide (blk_kept hb1 HR.out)
    have HB1 := hide (HB2.out.trans (hb1.mono HB2.out.size))
    clear hw1 hb1
    go_wp2_with fail
    refine (hcall2.out _ HB1.out).mono ?_
    rintro e w2 ⟨rfl, hb3⟩
    have hf2 := blk_kept hb3 HF1.out
    have k0 : w2.cell? ⟨w.heap.size + 1, 0, none⟩ = some (.int .i64 0) := hf2.cell 0
    have k1 : w2.cell? ⟨w.heap.size + 1, 1, none⟩ = some (.int .i64 0) := hf2.cell 1
    have k2 : w2.cell? ⟨w.heap.size + 1, 2, none⟩ = some (.int .i64 0) := hf2.cell 2
    have f0 := hf2.free 0
    have f1 := hf2.free 1
    have f2 := hf2.free 2
    clear hf2
    go_wp2_with fail
    refine bodyPost_ret (v := .agg #[.int .i64 fe, .int .i64 fl, .int .i64 fc]) (by simp [results, Tryd.results48, go_sem, k0, k1, k2]) rfl ?_
    exact ⟨rfl, below_set3 (HB1.out.trans (hb3.mono HB1.out.size)) (by omega) _ _ _⟩
  · have e45 : ((m.toNat : Int) == 45) = true := by rw [beq_iff_eq]; have := of_decide_eq_true hc; omega
    clear hc
    go_enter Tryd.func48, Tryd.ntmps48
    go_wp2_with fail
    refine (hI.out _).mono ?_
    rintro e w1 ⟨rfl, hb1⟩
    have hw1 := blk_kept hb1 HR1.out
    have q0 : w1.cell? ⟨w.heap.size, 0, none⟩ = some (.int .i64 line) := hw1.cell 0
    have q1 : w1.cell? ⟨w.heap.size, 1, none⟩ = some (.string s) := hw1.cell 1
    have HF1 := hide (blk_kept hb1 HR.out)
    have HB1 := hide (HB2.out.trans (hb1.mono HB2.out.size))
    clear hw1 hb1
    go_wp2_with fail
    refine (hcall2.out _ HB1.out).mono ?_
    rintro e w2 ⟨rfl, hb3⟩
    have hf2 := blk_kept hb3 HF1.out
    have k0 : w2.cell? ⟨w.heap.size + 1, 0, none⟩ = some (.int .i64 0) := hf2.cell 0
    have k1 : w2.cell? ⟨w.heap.size + 1, 1, none⟩ = some (.int .i64 0) := hf2.cell 1
    have k2 : w2.cell? ⟨w.heap.size + 1, 2, none⟩ = some (.int .i64 0) := hf2.cell 2
    have f0 := hf2.free 0
    have f1 := hf2.free 1
    have f2 := hf2.free 2
    clear hf2
    go_wp2_with fail
    refine bodyPost_ret (v := .agg #[.int .i64 fe, .int .i64 fl, .int .i64 fc]) (by simp [results, Tryd.results48, go_sem, k0, k1, k2]) rfl ?_
    exact ⟨rfl, below_set3 (HB1.out.trans (hb3.mono HB1.out.size)) (by omega) _ _ _⟩

set_option maxHeartbeats 2000000 in
set_option maxRecDepth 100000 in
theorem read_ok (B br : Nat) (w : World) (line : Int) (s : ByteArray) (cont : Bool) (pre : List CardL) (c : CardL) (ln co : Int) (hs : s.size ≤ 2000000) (hc : contL s.data.toList = cont) (hB : br < B) (hBw : B ≤ w.heap.size)
    (hcall : ∀ w1, Below w.heap.size w w1 → Calls Tryd.prog (readF cont) #[.pointer (some ⟨br, 0, none⟩), .agg #[.int .i64 line, .string s]] w1 fun e w' => e = .returned (fault (0, 0, 0)) ∧ RCur B br w' pre c ln co ∧ FrR B br w1 w') :
    Calls Tryd.prog 48 #[.pointer (some ⟨br, 0, none⟩), .agg #[.int .i64 line, .string s]] w fun e w' => e = .returned (fault (0, 0, 0)) ∧ RCur B br w' pre c ln co ∧ FrR B br w w' := by
  have hI := hide (fun (w1 : World) => indicator_c line s w1 hs)
  obtain ⟨m, hm⟩ : ∃ m, m = markOf s.data.toList := ⟨_, rfl⟩
  unfold contL at hc
  rw [← hm] at hI hc
  have hcall2 : Hid (∀ w1, Below w.heap.size w w1 → Calls Tryd.prog (readF cont) #[.pointer (some ⟨br, 0, none⟩), .agg #[.int .i64 line, .string s]] w1 fun e w' => e = .returned (.agg #[.int .i64 0, .int .i64 0, .int .i64 0]) ∧ RCur B br w' pre c ln co ∧ FrR B br w1 w') := hcall
  have hb2 := below2 w (.cells #[.int .i64 line, .string s] 93) (.cells #[.int .i64 0, .int .i64 0, .int .i64 0] 40)
  have r0 := (blk_new (w.alloc (.cells #[.int .i64 line, .string s] 93)) #[.int .i64 0, .int .i64 0, .int .i64 0] 40)
  rw [World.size_alloc] at r0
  have r1 := (blk_new w #[.int .i64 line, .string s] 93).alloc (.cells #[.int .i64 0, .int .i64 0, .int .i64 0] 40)
  have hlf : rowy (.cells #[.int .i64 0, .int .i64 0, .int .i64 0] 40 (0, 0)) = false := by simp [rowy, elemT]
  have HLF := hide hlf
  have HR := hide r0
  have HR1 := hide r1
  have HB2 := hide hb2
  clear r0 r1 hb2 hm hcall hlf
  cases cont
  all_goals
    first
      | (have e45 : ((m.toNat : Int) == 45) = false := by rw [beq_eq_false_iff_ne]; have := of_decide_eq_false hc; omega)
      | (have e45 : ((m.toNat : Int) == 45) = true := by rw [beq_iff_eq]; have := of_decide_eq_true hc; omega)
    clear hc
    go_enter Tryd.func48, Tryd.ntmps48
    go_wp2_with fail
    refine (hI.out _).mono ?_
    rintro e w1 ⟨rfl, hb1⟩
    have hw1 := blk_kept hb1 HR1.out
    have q0 : w1.cell? ⟨w.heap.size, 0, none⟩ = some (.int .i64 line) := hw1.cell 0
    have q1 : w1.cell? ⟨w.heap.size, 1, none⟩ = some (.string s) := hw1.cell 1
    have HF1 := hide (blk_kept hb1 HR.out)
    have HB1 := hide (HB2.out.trans (hb1.mono HB2.out.size))
    clear hw1 hb1
    go_wp2_with fail
    refine (hcall2.out _ HB1.out).mono ?_
    rintro e w2 ⟨rfl, hcur2, hf3⟩
    have hf2 := hf3.blk HF1.out (by omega) HLF.out
    have k0 : w2.cell? ⟨w.heap.size + 1, 0, none⟩ = some (.int .i64 0) := hf2.cell 0
    have k1 : w2.cell? ⟨w.heap.size + 1, 1, none⟩ = some (.int .i64 0) := hf2.cell 1
    have k2 : w2.cell? ⟨w.heap.size + 1, 2, none⟩ = some (.int .i64 0) := hf2.cell 2
    have f0 := hf2.free 0
    have f1 := hf2.free 1
    have f2 := hf2.free 2
    have HC2 := hide hcur2
    have HF2 := hide hf2
    have HF3 := hide hf3
    have hlt2 := hf2.lt
    clear hf2 hcur2 hf3
    go_wp2_with fail
    refine bodyPost_ret (v := .agg #[.int .i64 0, .int .i64 0, .int .i64 0]) (by simp [results, Tryd.results48, go_sem, k0, k1, k2]) rfl ?_
    have hmS : ∀ x y z : Value, Mods (· = w.heap.size + 1) w2 (((w2.setCell ⟨w.heap.size + 1, 0, none⟩ x).setCell ⟨w.heap.size + 1, 1, none⟩ y).setCell ⟨w.heap.size + 1, 2, none⟩ z) := fun x y z =>
      (((Mods.refl (· = w.heap.size + 1) w2).set _ _ _ (fun _ => rfl)).set _ _ _ (fun _ => rfl)).set _ _ _ (fun _ => rfl)
    have hF0 : FrR B br w w1 := FrR.below (FrR.refl B br w) HB1.out
    refine ⟨rfl, HC2.out.mods7 (hmS _ _ _) (fun j o hj ho => ?_) (by omega), Mods.trans' (hF0.trans HF3.out) (hmS _ _ _) (fun i hi e => by omega)⟩
    subst hj
    obtain rfl := Option.some.inj (ho.symm.trans HF2.out)
    simp [rowy, elemT]
end Go.Proofs.YteceealibfemjaaDoor
