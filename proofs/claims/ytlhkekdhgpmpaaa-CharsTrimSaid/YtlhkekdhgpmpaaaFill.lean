/-
  THE CONTRACT of chars.Fill.
-/
import Derived.Test.YtlhkekdhgpmpaaaRows8
namespace Go.Proofs.Ytlhkekdhgpmpaaa
open Go.RowKit Go.Shelf

/-- m bytes that repeat l -/
def fillL (l : List UInt8) (m : Nat) : List UInt8 := (List.range m).map fun i => l.getD (i % l.length) 0
theorem fillL_length (l : List UInt8) (m : Nat) : (fillL l m).length = m := by simp [fillL]
theorem fillL_at (l : List UInt8) (m k : Nat) (hk : k < m) (hl : 0 < l.length) : (fillL l m)[k]'(by rw [fillL_length]; exact hk) = l[k % l.length]'(Nat.mod_lt _ hl) := by
  simp only [fillL, List.getElem_map, List.getElem_range]
  rw [List.getD_eq_getElem?_getD, List.getElem?_eq_getElem (Nat.mod_lt _ hl)]; rfl

/-- the error that a number, or an empty text, gives -/
def fillErr (len : Nat) (m : Int) : Int := if m < 0 then 1 else if 1048576 < m then 3 else if len = 0 ∧ m ≠ 0 then 5 else 0

set_option maxHeartbeats 400000 in
theorem Fill_bad (A : Option Addr) (n cap : Nat) (m : Int) (w : World) (hs : n ≤ maxLen) (hm1 : -9223372036854775808 ≤ m) (hm2 : m ≤ 9223372036854775807) (hbad : fillErr n m ≠ 0) :
    Calls Try.prog 18 #[.slice A n cap, .int .i64 m] w fun e w' => e = .returned (.tuple #[.slice none 0 0, .int .i64 (fillErr n m)]) ∧ w = w' := by
  unfold maxLen at hs
  by_cases h1 : m < 0
  · have H : Hid (fillErr n m = 1) := by unfold Hid fillErr; rw [if_pos h1]
    clear hbad
    go_enter Try.func18, Try.ntmps18
    go_wp2_with fail
    go_ret2
    exact ⟨by rw [H.out]; rfl, rfl⟩
  · by_cases h2 : 1048576 < m
    · have H : Hid (fillErr n m = 3) := by unfold Hid fillErr; rw [if_neg h1, if_pos h2]
      clear hbad
      go_enter Try.func18, Try.ntmps18
      go_wp2_with fail
      go_ret2
      exact ⟨by rw [H.out]; rfl, rfl⟩
    · have h3 : n = 0 ∧ m ≠ 0 := by
        by_cases h3 : n = 0 ∧ m ≠ 0
        · exact h3
        · exfalso; unfold fillErr at hbad; rw [if_neg h1, if_neg h2, if_neg h3] at hbad; exact hbad rfl
      obtain ⟨rfl, h4⟩ := h3
      have H : Hid (fillErr 0 m = 5) := by unfold Hid fillErr; rw [if_neg h1, if_neg h2, if_pos ⟨rfl, h4⟩]
      have h5 : 0 < m := by omega
      clear hbad h4
      go_enter Try.func18, Try.ntmps18
      go_wp2_with fail
      go_ret2
      exact ⟨by rw [H.out]; rfl, rfl⟩

set_option maxHeartbeats 400000 in
theorem Fill_c (A : Option Addr) (l : List UInt8) (n cap B m : Nat) (w : World) (hA : Sl w B A l) (hB : B ≤ w.heap.size) (hn : n = l.length) (hs : n ≤ maxLen) (hm : m ≤ 1048576) (hp : n = 0 → m = 0) :
    Calls Try.prog 18 #[.slice A n cap, .int .i64 (m : Int)] w fun e w' => e = .returned (.tuple #[.slice (some ⟨w.heap.size, 0, none⟩) m m, .int .i64 0]) ∧ Blk8 w' w.heap.size (fillL l m) ∧ Below w.heap.size w w' := by
  have hmk := make8 w m (by omega)
  have hnew := Blk8.new w (List.replicate m 0)
  have hbel : Below w.heap.size w (w.alloc (.cells (cells8 (List.replicate m 0)).toArray 5)) := (Below.refl _ _).alloc (Nat.le_refl _) _
  unfold maxLen at hs
  by_cases h0 : m = 0
  · subst h0
    have hF : Hid (fillL l 0 = List.replicate 0 0) := rfl
    have hmk0 : (Instr.makeSlice 25 (.int .i64 0) (.int .i64 0)).run Try.prog w = .ok (.slice (some ⟨w.heap.size, 0, none⟩) 0 0) (w.alloc (.cells (cells8 (List.replicate 0 0)).toArray 5)) := hmk
    have HN := hide hnew
    clear hA hn hp hnew hmk
    go_enter Try.func18, Try.ntmps18
    go_wp2_with fail
    all_goals
      refine wp_loop_rounds 1 ?_
      rw [rounds_succ]
      go_wp2_with fail
      go_ret2
      exact ⟨rfl, by rw [hF.out]; exact HN.out, hbel⟩
  · have hpos : 0 < n := by
      rcases Nat.eq_zero_or_pos n with h | h
      · exact absurd (hp h) h0
      · exact h
    rcases hA with rfl | ⟨b, off, rfl, hb, hc⟩
    · simp at hn; omega
    · have HN := hide hnew
      have Hc := hide hc
      have Hn := hide hn
      have Z : Hid ((List.replicate m (0 : UInt8)).length = (fillL l m).length) := by unfold Hid; rw [fillL_length, List.length_replicate]
      clear hnew hc hn hp
      go_enter Try.func18, Try.ntmps18
      go_wp2_with fail
      clear hmk
      go_loopw [25] (fun i wr => ∃ k : Nat, k ≤ m ∧ i = .int .i64 k ∧ Blk8 wr w.heap.size (mix (fillL l m) (List.replicate m 0) k) ∧ Below w.heap.size w wr) (fun i _ => m - (intOf i).toNat)
      case atStart => exact ⟨0, Nat.zero_le _, rfl, by rw [mix_zero]; exact HN.out, hbel⟩
      case round =>
        obtain ⟨k, hk, rfl, hr, hbw⟩ := hrel
        by_cases hlt : k < m
        · have hmod : k % n < n := Nat.mod_lt _ hpos
          have hmod2 : (k : Int) % (n : Int) < n := by omega
          have hmod3 : 0 ≤ (k : Int) % (n : Int) := by omega
          have hkl : k < (fillL l m).length := by rw [fillL_length]; exact hlt
          have R := hr.set_ k (fillL l m)[k]
          rw [← mix_succ _ _ k hkl Z.out] at R
          have hcell : wr.cell? ⟨b, off + k % n, none⟩ = some (.int .u8 (((fillL l m)[k]).toNat : Int)) := by
            rw [hbw.cell (p := ⟨b, off + k % n, none⟩) (by show b < _; omega)]
            rw [fillL_at l m k hlt (by rw [← Hn.out]; exact hpos)]
            have e := Hn.out
            subst e
            exact Hc.out _ _ (List.getElem?_eq_getElem (Nat.mod_lt _ hpos))
          obtain ⟨u, hu⟩ : ∃ u, u = (fillL l m)[k] := ⟨_, rfl⟩
          rw [← hu] at hcell R
          have HR := hide R
          have hrow := hr.row
          obtain ⟨c0, hc0⟩ : ∃ c, (mix (fillL l m) (List.replicate m 0) k)[k]? = some c :=
            ⟨_, List.getElem?_eq_getElem (by rw [mix_length _ _ _ Z.out]; exact hkl)⟩
          have hc1 := (hrow.2 k c0 hc0).1
          have hc2 := (hrow.2 k c0 hc0).2
          clear R hu hr hrow hc0 hkl
          go_wp2_with fail
          exact ⟨⟨k + 1, by omega, by go_num, HR.out, hbw.setCell (Nat.le_refl _) _⟩, by simp [intOf]; omega⟩
        · obtain rfl : k = m := by omega
          have hr' : Blk8 wr w.heap.size (fillL l k) := by
            have h := mix_all (fillL l k) (List.replicate k 0) Z.out
            rw [fillL_length] at h
            rw [← h]; exact hr
          clear hr
          have HR := hide hr'
          clear hr'
          go_wp2_with fail
          go_ret2
          exact ⟨rfl, HR.out, hbw⟩
end Go.Proofs.Ytlhkekdhgpmpaaa
