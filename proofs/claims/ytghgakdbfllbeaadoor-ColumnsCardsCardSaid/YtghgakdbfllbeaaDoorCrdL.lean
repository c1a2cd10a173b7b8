/-
  THE WALK of the law ColumnsCards (layer 2, columns).
-/
import Derived.Test.YtghgakdbfllbeaaDoorAtC
import Derived.Test.YtghgakdbfllbeaaDoorNlP
import Derived.Test.YtghgakdbfllbeaaDoorLvs
namespace Go.Proofs.YtghgakdbfllbeaaDoor
open Go.RowKit Go.Shelf

theorem atRes_eq {c : CardL} {i : Int} {e : Ending} (h : AtRes c i e) : e = .returned (.tuple #[.agg #[.int .i64 (atP c i).1, .int .i64 (atP c i).2], .int .i64 (atE c i)]) := h.eq
set_option maxHeartbeats 4000000 in
set_option maxRecDepth 100000 in
/-- what is too great for the law -/
theorem Cards_far (left : Bool) (t : List UInt8) (A : Option Addr) (n cap : Nat) (i : Int) (w : World) (ht : t.length ≤ maxLen) (hn : n ≤ maxLen) (h : 100 < t.length ∨ 20 < n) (htab : Lib.TabIs Tryd.prog w "internal/strconv.uint64pow10" .u64 Lib.pow10Tab) :
    Calls Tryd.prog 7 #[.agg #[.bool left, .string (mk t), .slice A n cap], .int .i64 i] w fun e w' => e = .returned (.bool true) ∧ Below w.heap.size w w' := by
  unfold maxLen at ht hn
  obtain ⟨S, hS⟩ : ∃ S, S = mk t := ⟨_, rfl⟩
  have hSs : S.size = t.length := by rw [hS]; show t.toArray.size = _; rw [List.size_toArray]
  rw [← hS]
  have hL : Hid (∀ w1, Below w.heap.size w w1 → Calls Tryd.prog 8 #[] w1 fun e w' => e = .returned (.bool true) ∧ Below w1.heap.size w1 w') := fun w1 hb => lives_c w1 (tab_below htab hb)
  have HBa := hide ((Below.refl _ w).alloc (Nat.le_refl _) (.cells #[.bool left, .string S, .slice A n cap] 39))
  by_cases h1 : 100 < t.length
  · have h1' : 100 < S.size := by omega
    have hsl : S.size ≤ 9223372036854775807 := by omega
    clear hSs hS h htab
    go_enter Tryd.func7, Tryd.ntmps7
    go_wp2_with fail
    refine (hL.out _ HBa.out).mono ?_
    rintro e w1 ⟨rfl, hb1⟩
    have HB1 := hide (HBa.out.trans (hb1.mono HBa.out.size))
    clear hb1
    go_wp2_with fail
    go_ret
    exact ⟨rfl, HB1.out⟩
  · have h1' : ¬ 100 < S.size := by omega
    have h2 : 20 < n := by omega
    have hsl : S.size ≤ 9223372036854775807 := by omega
    clear hSs hS h htab
    go_enter Tryd.func7, Tryd.ntmps7
    go_wp2_with fail
    refine (hL.out _ HBa.out).mono ?_
    rintro e w1 ⟨rfl, hb1⟩
    have HB1 := hide (HBa.out.trans (hb1.mono HBa.out.size))
    clear hb1
    go_wp2_with fail
    go_ret
    exact ⟨rfl, HB1.out⟩

set_option maxHeartbeats 4000000 in
set_option maxRecDepth 100000 in
/-- a card without marks -/
theorem Cards_none (left : Bool) (t : List UInt8) (A : Option Addr) (cap : Nat) (i : Int) (w : World) (ht : t.length ≤ 100) (hi1 : -9223372036854775808 ≤ i) (hi2 : i ≤ 9223372036854775807) (htab : Lib.TabIs Tryd.prog w "internal/strconv.uint64pow10" .u64 Lib.pow10Tab) :
    Calls Tryd.prog 7 #[.agg #[.bool left, .string (mk t), .slice A 0 cap], .int .i64 i] w fun e w' => e = .returned (.bool true) ∧ Below w.heap.size w w' := by
  have hL : Hid (∀ w1, Below w.heap.size w w1 → Calls Tryd.prog 8 #[] w1 fun e w' => e = .returned (.bool true) ∧ Below w1.heap.size w1 w') := fun w1 hb => lives_c w1 (tab_below htab hb)
  have hno : atOk ⟨left, t, []⟩ i = false := by unfold atOk validL; simp
  obtain ⟨S, hS⟩ : ∃ S, S = mk t := ⟨_, rfl⟩
  have hSs : S.size = t.length := by rw [hS]; show t.toArray.size = _; rw [List.size_toArray]
  have hAt : Hid (∀ w1, Calls Tryd.prog 19 #[.agg #[.bool left, .string S, .slice A 0 cap], .int .i64 i] w1 fun e w' => e = .returned (.tuple #[.agg #[.int .i64 0, .int .i64 0], .int .i64 1]) ∧ Below w1.heap.size w1 w') := fun w1 => by
    rw [hS]
    refine (At_c left t [] A cap 0 i w1 (.inl rfl) (Nat.zero_le _) (by omega) (by simp)).mono fun e w' h => ⟨?_, h.2⟩
    rw [atRes_eq h.1, atP_no hno, atE_no hno]
  rw [← hS]
  have hsl : ¬ 100 < S.size := by omega
  obtain ⟨N1, hN1⟩ : ∃ N, N = mk (List.replicate 1048577 10) := ⟨_, rfl⟩
  obtain ⟨N2, hN2⟩ : ∃ N, N = mk (List.replicate 1048576 10) := ⟨_, rfl⟩
  have hP1 : Hid (∀ w1, Calls Tryd.prog 23 #[.string ⟨#[10]⟩, .int .i64 1048577] w1 fun e w' => e = .returned (.string N1) ∧ Below w1.heap.size w1 w') := fun w1 => by rw [hN1]; exact Repeat_nl 1048577 w1 (by omega)
  have hP2 : Hid (∀ w1, Calls Tryd.prog 23 #[.string ⟨#[10]⟩, .int .i64 1048576] w1 fun e w' => e = .returned (.string N2) ∧ Below w1.heap.size w1 w') := fun w1 => by rw [hN2]; exact Repeat_nl 1048576 w1 (by omega)
  have hR1 : Hid (∀ w1, Calls Tryd.prog 11 #[.string N1, .bool false] w1 fun e w' => e = .returned (.tuple #[.slice none 0 0, .agg #[.int .i64 3, .int .i64 0, .int .i64 0]]) ∧ Below w1.heap.size w1 w') := fun w1 => by rw [hN1]; exact Read_nls 1048577 w1 (by omega) (by omega)
  have hR2 : Hid (∀ w1, Calls Tryd.prog 11 #[.string N2, .bool false] w1 fun e w' => (∃ A, e = .returned (.tuple #[.slice A 0 0, .agg #[.int .i64 0, .int .i64 0, .int .i64 0]])) ∧ Below w1.heap.size w1 w') := fun w1 => by rw [hN2]; exact Read_nl 1048576 w1 (by omega)
  have HBa := hide (below2 w (.cells #[.bool left, .string S, .slice A 0 cap] 39) (.cells #[.int .i64 0, .int .i64 0] 32))
  have HC := hide ((blk_new w #[.bool left, .string S, .slice A 0 cap] 39).alloc (.cells #[.int .i64 0, .int .i64 0] 32))
  have HP := hide (blk_new (w.alloc (.cells #[.bool left, .string S, .slice A 0 cap] 39)) #[.int .i64 0, .int .i64 0] 32)
  clear hSs hS htab hno hN1 hN2
  go_enter Tryd.func7, Tryd.ntmps7
  go_wp2_with fail
  go_loopw [5, 8] (fun v5 v8 wr => v5 = .bool false ∧ v8 = .int .i64 0 ∧ wr = (w.alloc (.cells #[.bool left, .string S, .slice A 0 cap] 39)).alloc (.cells #[.int .i64 0, .int .i64 0] 32)) (fun _ _ _ => 0)
  case atStart => exact ⟨rfl, rfl, rfl⟩
  case round =>
    obtain ⟨rfl, rfl, rfl⟩ := hrel
    go_wp2_with fail
    refine (hAt.out _).mono ?_
    rintro e w1 ⟨rfl, hb1⟩
    have HB1 : Hid (Below w.heap.size w w1) := HBa.out.trans (hb1.mono HBa.out.size)
    have hC1 := blk_kept hb1 HC.out
    have hP1' := blk_kept hb1 HP.out
    rw [World.size_alloc] at hP1'
    have k2 := hC1.cell 2
    have p0 := hP1'.cell 0
    have p1 := hP1'.cell 1
    have hz1 := hb1.size
    rw [World.size_alloc, World.size_alloc] at hz1
    have hcw : w.heap.size < w1.heap.size := by omega
    have hpw : w.heap.size + 1 < w1.heap.size := by omega
    clear hC1 hP1' hb1 HC HP hAt
    have HBb := hide (HB1.out.alloc HB1.out.size (.cells #[.int .i64 0, .int .i64 0] 32))
    go_wp2_with fail
    refine (hP1.out _).mono ?_
    rintro e w2 ⟨rfl, hb2⟩
    have HB2 := hide (HBb.out.trans (hb2.mono HBb.out.size))
    clear hb2 k2 p0 p1
    go_wp2_with fail
    refine (hR1.out _).mono ?_
    rintro e w3 ⟨rfl, hb3⟩
    have HB3 := hide (HB2.out.trans (hb3.mono HB2.out.size))
    clear hb3
    have F1 := hide (blk_new w3 #[.int .i64 3, .int .i64 0, .int .i64 0] 34)
    have HB3a := hide (HB3.out.alloc HB3.out.size (.cells #[.int .i64 3, .int .i64 0, .int .i64 0] 34))
    go_wp2_with fail
    refine (hP2.out _).mono ?_
    rintro e w4 ⟨rfl, hb4⟩
    have HB4 := hide (HB3a.out.trans (hb4.mono HB3a.out.size))
    have F1b := hide (blk_kept hb4 F1.out)
    clear hb4 F1
    go_wp2_with fail
    refine (hR2.out _).mono ?_
    rintro e w5 ⟨⟨A5, rfl⟩, hb5⟩
    have HB5 := hide (HB4.out.trans (hb5.mono HB4.out.size))
    have F1c := blk_kept hb5 F1b.out
    have g0 := F1c.cell 0
    have g1 := F1c.cell 1
    have g2 := F1c.cell 2
    have hlt5 := F1c.lt
    have HB5a := hide (HB5.out.alloc HB5.out.size (.cells #[.int .i64 0, .int .i64 0, .int .i64 0] 34))
    clear hb5 F1b F1c
    go_wp2_with fail
    refine (hL.out _ HB5a.out).mono ?_
    rintro e w6 ⟨rfl, hb6⟩
    have HB6 := hide (HB5a.out.trans (hb6.mono HB5a.out.size))
    clear hb6
    go_wp2_with fail
    go_ret
    exact ⟨rfl, HB6.out⟩
end Go.Proofs.YtghgakdbfllbeaaDoor
