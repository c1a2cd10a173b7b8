/-
  CONTRACTS (layer 2, columns): chars.Printable; the closure that counts quotes; the first fault of a line (check).
-/
import Derived.Test.YteceealibfemjaaDoorFrame
import Derived.Test.YteceealibfemjaaDoorShelf
namespace Go.Proofs.YteceealibfemjaaDoor
open Go.RowKit

/-- the place of the last of the first k bytes that is not printable, or -1 -/
def lastBad (l : List UInt8) : Nat → Int
  | 0 => -1
  | k + 1 => if badC (l.getD k 0) then k else lastBad l k
theorem lastBad_neg (l : List UInt8) (k : Nat) (hk : k ≤ l.length) : decide (lastBad l k < 0) = !((l.take k).any badC) := by
  induction k with
  | zero => simp [lastBad]
  | succ k ih =>
    have e : l.getD k 0 = l[k] := by rw [List.getD_eq_getElem?_getD, List.getElem?_eq_getElem (by omega)]; rfl
    rw [List.take_succ_eq_append_getElem (by omega), List.any_append]
    unfold lastBad
    rw [e]
    cases h : badC l[k] <;> simp [h]
    simpa using ih (by omega)
/-- all bytes are printable -/
def goodL (l : List UInt8) : Bool := !l.any badC

set_option maxHeartbeats 400000 in
theorem bad_c (c : UInt8) (w : World) : Calls Tryd.prog 52 #[.int .u8 (c.toNat : Int)] w fun e w' => e = .returned (.bool (badC c)) ∧ w = w' := by
  go_enter Tryd.func52, Tryd.ntmps52
  go_wp2
  all_goals go_ret
  all_goals exact ⟨ret_bool (by unfold badC; rw [Bool.eq_iff_iff]; simp; omega), rfl⟩

set_option maxHeartbeats 400000 in
theorem last_c (s : ByteArray) (w : World) (hs : s.size ≤ 2000000) :
    Calls Tryd.prog 51 #[.string s, .func (.func 52) #[] #[]] w fun e w' => e = .returned (.int .i64 (lastBad s.data.toList s.size)) ∧ w = w' := by
  have eg : ∀ args w, (callFunc 52 args).run Tryd.prog w = .ok (.enter 52 args) w := enters_of Tryd.func52 (by kernel_rfl) rfl
  go_enter Tryd.func51, Tryd.ntmps51
  go_wp2
  go_loop [5] (fun i => ∃ k : Nat, k ≤ s.size ∧ i = .int .i64 ((k : Int) - 1) ∧ Hid (lastBad s.data.toList s.size = lastBad s.data.toList k)) (fun i => (intOf i + 1).toNat)
  case atStart => exact ⟨s.size, Nat.le_refl _, rfl, rfl⟩
  case round =>
    obtain ⟨k, hk, rfl, hl⟩ := hrel
    by_cases h0 : 1 ≤ k
    · obtain ⟨k, rfl⟩ : ∃ j, k = j + 1 := ⟨k - 1, by omega⟩
      have hd := getD_at s k (by omega)
      have hl2 : Hid (lastBad s.data.toList s.size = if badC (s[k]'(by omega)) then (k : Int) else lastBad s.data.toList k) := by
        rw [hl.out]; show (if badC (s.data.toList.getD k 0) then (k : Int) else lastBad s.data.toList k) = _; rw [hd]
      clear hd hl
      go_wp2_with (refine (bad_c _ _).mono ?_; rintro e w' ⟨rfl, rfl⟩)
      · have h : badC (s[k]'(by omega)) = true := by assumption
        go_ret
        exact ⟨by rw [hl2.out, if_pos h]; rfl, rfl⟩
      · have h : badC (s[k]'(by omega)) = false := by assumption
        exact ⟨⟨k, by omega, rfl, by rw [hl2.out, h]; rfl⟩, by simp [intOf]⟩
    · obtain rfl : k = 0 := by omega
      go_wp2_with fail
      go_ret
      exact ⟨by rw [hl.out]; rfl, rfl⟩

set_option maxHeartbeats 400000 in
theorem Printable_c (s : ByteArray) (w : World) (hs : s.size ≤ 2000000) :
    Calls Tryd.prog 30 #[.string s] w fun e w' => e = .returned (.bool (goodL s.data.toList)) ∧ w = w' := by
  have H0 := lastBad_neg s.data.toList s.size (by rw [len_data]; exact Nat.le_refl _)
  rw [List.take_of_length_le (by rw [len_data]; exact Nat.le_refl _)] at H0
  have H := hide H0
  clear H0
  go_enter Tryd.func30, Tryd.ntmps30
  go_wp2_with (go_at_call 51; refine (last_c _ _ hs).mono ?_; rintro e w' ⟨rfl, rfl⟩)
  go_ret
  exact ⟨ret_bool (by rw [H.out]; rfl), rfl⟩

set_option maxHeartbeats 400000 in
/-- quotes: the closure, and the variable that it captures -/
theorem quotes_c (q : Bool) (w : World) :
    Calls Tryd.prog 31 #[.bool q] w fun e w' => e = .returned (.func (.func 53) #[] #[.pointer (some ⟨w.heap.size, 0, none⟩)]) ∧ w' = w.alloc (.cells #[.bool q] 4) := by
  go_enter Tryd.func31, Tryd.ntmps31
  go_wp2_with fail
  go_ret
  exact ⟨rfl, rfl⟩

set_option maxHeartbeats 400000 in
/-- what the closure does at a piece -/
theorem count_c (s : ByteArray) (b : Nat) (q : Bool) (w : World) (h : Boxed w b 4 (.bool q)) (_hs : s.size ≤ 2000000) :
    Calls Tryd.prog 53 #[.string s, .pointer (some ⟨b, 0, none⟩)] w fun e w' => e = .returned (.bool (q != openL s.data.toList)) ∧ Boxed w' b 4 (.bool (q != openL s.data.toList)) ∧ Mods (· = b) w w' := by
  have hcnt := hide (fun (w1 : World) => Tryd.strings_Count_one s 34 w1)
  have hc := h.cell
  have hf := h.frozen
  have HB := hide h
  have hcle : Hid (Lib.countByte s.data.toList 34 = List.count 34 s.data.toList) := rfl
  have hle : List.count 34 s.data.toList ≤ s.size := by rw [← len_data]; exact List.count_le_length
  obtain ⟨n, hn⟩ : ∃ n, n = List.count 34 s.data.toList := ⟨_, rfl⟩
  have ho : Hid (openL s.data.toList = (n % 2 == 1)) := by unfold Hid openL; rw [hn]
  rw [hcle.out, ← hn] at hcnt
  rw [← hn] at hle
  clear hn h hcle
  by_cases h2 : n % 2 = 1
  · have e1 : ((n : Int) % 2 != 0) = true := by rw [bne_iff_ne]; omega
    have HO : Hid ((q != openL s.data.toList) = !q) := by unfold Hid; rw [ho.out, h2]; cases q <;> rfl
    go_enter Tryd.func53, Tryd.ntmps53
    go_wp2_with fail
    refine (hcnt.out _).mono ?_
    rintro e w' ⟨rfl, rfl⟩
    go_wp2_with fail
    go_ret
    rw [HO.out]
    exact ⟨rfl, HB.out.set _, (Mods.refl (· = b) _).set _ _ _ (fun _ => rfl)⟩
  · have e1 : ((n : Int) % 2 != 0) = false := by rw [bne_eq_false_iff_eq]; omega
    have HO : Hid ((q != openL s.data.toList) = q) := by
      unfold Hid; rw [ho.out, show n % 2 = 0 by omega]; cases q <;> rfl
    go_enter Tryd.func53, Tryd.ntmps53
    go_wp2_with fail
    refine (hcnt.out _).mono ?_
    rintro e w' ⟨rfl, rfl⟩
    go_wp2_with fail
    go_ret
    rw [HO.out]
    exact ⟨rfl, HB.out, Mods.refl _ _⟩
end Go.Proofs.YteceealibfemjaaDoor
