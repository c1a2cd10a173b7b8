/-
  THE WALK of the law CharsFill.
-/
import Derived.Test.YtlhkekdhgpmpaaaTrimL
namespace Go.Proofs.Ytlhkekdhgpmpaaa
open Go.RowKit Go.Shelf

theorem below_drewN {B : Nat} {a w : World} (h : Below B a w) (q : Nat) : Below B a (w.drewN q) := by
  induction q with
  | zero => exact h
  | succ q ih => exact ih.drew
theorem blk_drewN {w : World} {g : Nat} {l : List UInt8} (h : Blk8 w g l) (q : Nat) : Blk8 (w.drewN q) g l := by
  induction q with
  | zero => exact h
  | succ q ih => exact ih.drew
theorem sl_name (w : World) {B : Nat} {A : Option Addr} {l : List UInt8} (_ : Sl w B A l) : ∃ S : ByteArray, S.data.toList = l := ⟨⟨l.toArray⟩, rfl⟩

set_option maxHeartbeats 1000000 in
set_option maxRecDepth 100000 in
/-- what is too long for the law -/
theorem CharsFill_far (A : Option Addr) (n cap : Nat) (m : Int) (w : World) (hs : n ≤ maxLen) (h : 100 < n ∨ (1000 < m ∧ m ≤ 1048576)) :
    Calls Try.prog 6 #[.slice A n cap, .int .i64 m] w fun e w' => e = .returned (.bool true) ∧ Below w.heap.size w w' := by
  unfold maxLen at hs
  by_cases h1 : 100 < n
  · clear h
    go_enter Try.func6, Try.ntmps6
    go_wp2_with (go_at_call 9; refine (lives_c _).mono ?_; rintro e w' ⟨rfl, hb⟩)
    go_ret
    exact ⟨rfl, hb⟩
  · have h2 : 1000 < m := by omega
    have h3 : m ≤ 1048576 := by omega
    clear h
    go_enter Try.func6, Try.ntmps6
    go_wp2_with (go_at_call 9; refine (lives_c _).mono ?_; rintro e w' ⟨rfl, hb⟩)
    go_ret
    exact ⟨rfl, hb⟩

set_option maxHeartbeats 2000000 in
set_option maxRecDepth 100000 in
/-- where Fill returns an error -/
theorem CharsFill_bad (A : Option Addr) (l : List UInt8) (n cap B : Nat) (m : Int) (w : World) (hA : Sl w B A l) (hn : n = l.length) (hm1 : -9223372036854775808 ≤ m) (hm2 : m ≤ 9223372036854775807) (hn1 : n ≤ 100)
    (h : m < 0 ∨ 1048576 < m ∨ (n ≤ 0 ∧ 0 < m ∧ m ≤ 1000)) :
    Calls Try.prog 6 #[.slice A n cap, .int .i64 m] w fun e w' => e = .returned (.bool true) ∧ Below w.heap.size w w' := by
  obtain ⟨S, hS⟩ := sl_name w hA
  have htext := hA.str n cap hn S hS
  have hbad : Hid (fillErr n m = (if m < 0 then 1 else if 1048576 < m then 3 else 5)) := by
    unfold Hid fillErr
    rcases h with h | h | h
    · rw [if_pos h, if_pos h]
    · rw [if_neg (by omega), if_pos h, if_neg (by omega), if_pos h]
    · rw [if_neg (by omega), if_neg (by omega), if_pos ⟨by omega, by omega⟩, if_neg (by omega), if_neg (by omega)]
  have hne : Hid (fillErr n m ≠ 0) := by
    unfold Hid; rw [hbad.out]; split <;> (try split) <;> omega
  have HF := fun (w1 : World) => hide (Fill_bad A n cap m w1 (by unfold maxLen; omega) hm1 hm2 hne.out)
  have HFF := hide HF
  clear hA hn hS HF
  rcases h with h | h | ⟨h1, h2, h3⟩
  · have H1 : Hid (fillErr n m = 1) := by unfold Hid; rw [hbad.out, if_pos h]
    go_enter Try.func6, Try.ntmps6
    go_wp2_with fail
    refine (HFF.out _).out.mono ?_
    rw [H1.out]
    rintro e w' ⟨rfl, rfl⟩
    go_wp2_with fail
    refine wp_loop_rounds 1 ?_
    rw [rounds_succ]
    go_wp2_with (go_at_call 9; refine (lives_c _).mono ?_; rintro e w' ⟨rfl, hb⟩)
    go_ret
    exact ⟨rfl, hb⟩
  · have H1 : Hid (fillErr n m = 3) := by unfold Hid; rw [hbad.out, if_neg (by omega), if_pos h]
    go_enter Try.func6, Try.ntmps6
    go_wp2_with fail
    refine (HFF.out _).out.mono ?_
    rw [H1.out]
    rintro e w' ⟨rfl, rfl⟩
    go_wp2_with fail
    refine wp_loop_rounds 1 ?_
    rw [rounds_succ]
    go_wp2_with (go_at_call 9; refine (lives_c _).mono ?_; rintro e w' ⟨rfl, hb⟩)
    go_ret
    exact ⟨rfl, hb⟩
  · have H1 : Hid (fillErr n m = 5) := by unfold Hid; rw [hbad.out, if_neg (by omega), if_neg (by omega)]
    have hz : ((n : Int) == 0) = true := by rw [beq_iff_eq]; omega
    go_enter Try.func6, Try.ntmps6
    go_wp2_with fail
    refine (HFF.out _).out.mono ?_
    rw [H1.out]
    rintro e w' ⟨rfl, rfl⟩
    go_wp2_with fail
    refine wp_loop_rounds 1 ?_
    rw [rounds_succ]
    go_wp2_with (go_at_call 9; refine (lives_c _).mono ?_; rintro e w' ⟨rfl, hb⟩)
    go_ret
    exact ⟨rfl, hb⟩

set_option maxHeartbeats 2000000 in
set_option maxRecDepth 100000 in
/-- where Fill returns bytes -/
theorem CharsFill_good (A : Option Addr) (l : List UInt8) (n cap B m : Nat) (w : World) (hA : Sl w B A l) (hB : B ≤ w.heap.size) (hn : n = l.length) (hn1 : n ≤ 100) (hm : m ≤ 1000) (h : n = 0 → m = 0) :
    Calls Try.prog 6 #[.slice A n cap, .int .i64 (m : Int)] w fun e w' => e = .returned (.bool true) ∧ Below w.heap.size w w' := by
  obtain ⟨S, hS⟩ := sl_name w hA
  have htext := hA.str n cap hn S hS
  have HF := hide (Fill_c A l n cap B m w hA hB hn (by unfold maxLen; omega) (by omega) h)
  have HT := hide (fun (w1 : World) (hb : Below w.heap.size w w1) => (hA.keep hb hB B (Nat.le_refl _)).str n cap hn S hS)
  clear hS
  rcases Nat.eq_zero_or_pos m with h0 | h0
  · have hm0 : m ≤ 0 := by omega
    clear hn h h0 hA
    go_enter Try.func6, Try.ntmps6
    go_wp2_with fail
    refine HF.out.mono ?_
    rintro e w1 ⟨rfl, hblk, hb1⟩
    have htext2 := HT.out w1 hb1
    clear hblk htext
    go_wp2_with fail
    refine wp_loop_rounds 1 ?_
    rw [rounds_succ]
    go_wp2_with (go_at_call 9; refine (lives_c _).mono ?_; rintro e w' ⟨rfl, hb⟩)
    go_ret
    exact ⟨rfl, hb1.trans (hb.mono hb1.size)⟩
  · have hpos : 0 < n := by
      rcases Nat.eq_zero_or_pos n with h1 | h1
      · exact absurd (h h1) (by omega)
      · exact h1
    have hz : ((n : Int) == 0) = false := by rw [beq_eq_false_iff_ne]; omega
    have Hn := hide hn
    rcases hA with rfl | ⟨b, off, rfl, hbB, hc⟩
    · simp at hn; omega
    · have Hc := hide hc
      clear h hn hc
      go_enter Try.func6, Try.ntmps6
      go_wp2_with fail
      refine HF.out.mono ?_
      rintro e w1 ⟨rfl, hblk, hb1⟩
      have HB := hide hblk
      have htext2 := HT.out w1 hb1
      clear hblk htext
      go_wp2_with fail
      go_loopw [9] (fun i wr => ∃ k : Nat, k ≤ m ∧ i = .int .i64 k ∧ Blk8 wr w.heap.size (fillL l m) ∧ Below w.heap.size w wr) (fun i _ => m - (intOf i).toNat)
      case atStart => exact ⟨0, Nat.zero_le _, rfl, HB.out, hb1⟩
      case round =>
        obtain ⟨k, hk, rfl, hr, hbr⟩ := hrel
        have HR := hide hr
        clear hr htext2
        by_cases hlt : k < m
        · have hmod : k % n < n := Nat.mod_lt _ hpos
          have hkl : k < (fillL l m).length := by rw [fillL_length]; exact hlt
          have hc1 := (HR.out.row.at_ k hkl).1
          have hc2 : wr.cell? ⟨b, off + k % n, none⟩ = some (.int .u8 (((fillL l m)[k]).toNat : Int)) := by
            rw [hbr.cell (p := ⟨b, off + k % n, none⟩) (by show b < _; omega)]
            rw [fillL_at l m k hlt (by rw [← Hn.out]; exact hpos)]
            have e := Hn.out
            subst e
            exact Hc.out _ _ (List.getElem?_eq_getElem (Nat.mod_lt _ hpos))
          obtain ⟨u, hu⟩ : ∃ u, u = (fillL l m)[k] := ⟨_, rfl⟩
          rw [← hu] at hc1 hc2
          have hmi : ((k : Int).tmod (n : Int)) = ((k % n : Nat) : Int) := by rw [Int.tmod_eq_emod_of_nonneg (by omega)]; omega
          have hmod2 : ((k % n : Nat) : Int) < n := by omega
          clear hu hkl
          go_wp2_with fail
          go_quiet (fail)
          go_wp2_with fail
          exact ⟨⟨k + 1, by omega, by go_num, blk_drewN HR.out _, below_drewN hbr _⟩, by simp [intOf]; omega⟩
        · obtain rfl : k = m := by omega
          go_wp2_with (go_at_call 9; refine (lives_c _).mono ?_; rintro e w' ⟨rfl, hb⟩)
          go_ret
          exact ⟨rfl, hbr.trans (hb.mono hbr.size)⟩

theorem CharsFill_w (A : Option Addr) (l : List UInt8) (n cap B : Nat) (m : Int) (w : World) (hA : Sl w B A l) (hB : B ≤ w.heap.size) (hn : n = l.length) (hs : n ≤ maxLen) (hm1 : -9223372036854775808 ≤ m) (hm2 : m ≤ 9223372036854775807) :
    Calls Try.prog 6 #[.slice A n cap, .int .i64 m] w fun e w' => e = .returned (.bool true) ∧ Below w.heap.size w w' := by
  by_cases h1 : 100 < n ∨ (1000 < m ∧ m ≤ 1048576)
  · exact CharsFill_far A n cap m w hs h1
  · by_cases h2 : m < 0 ∨ 1048576 < m ∨ (n ≤ 0 ∧ 0 < m ∧ m ≤ 1000)
    · exact CharsFill_bad A l n cap B m w hA hn hm1 hm2 (by omega) h2
    · obtain ⟨k, rfl⟩ := Int.eq_ofNat_of_zero_le (show 0 ≤ m by omega)
      exact CharsFill_good A l n cap B k w hA hB hn (by omega) (by omega) (by omega)
end Go.Proofs.Ytlhkekdhgpmpaaa
