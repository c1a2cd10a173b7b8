/-
  CONTRACTS of the functions of chars that compute on strings: the closures, last over a string, IsDigits, IsName, Printable.
-/
import Derived.Test.YthdggnkpncoikaaDoorBase
import Derived.WalkKit
import Derived.WalkSpells
import Derived.WalkLawsBesides
import Derived.BigQuiet
import Derived.Deep.QuietTactic
import Derived.Shelf.Abstract
namespace Go.Proofs.YthdggnkpncoikaaDoor
open Go.RowKit Go.Shelf


/-- the place of the last of the first k bytes that has p, or -1 -/
def lastI (p : UInt8 → Bool) (l : List UInt8) : Nat → Int
  | 0 => -1
  | k + 1 => if p (l.getD k 0) then k else lastI p l k

theorem lastI_ge (p : UInt8 → Bool) (l : List UInt8) (k : Nat) : -1 ≤ lastI p l k ∧ lastI p l k < k := by
  induction k with
  | zero => simp [lastI]
  | succ k ih => unfold lastI; split <;> omega

def dig (c : UInt8) : Bool := decide (48 ≤ (c.toNat : Int)) && decide ((c.toNat : Int) ≤ 57)
def nodig (c : UInt8) : Bool := !dig c
def unprint (c : UInt8) : Bool := decide ((c.toNat : Int) < 32) || decide ((126 : Int) < (c.toNat : Int))
def nospace (c : UInt8) : Bool := ((c.toNat : Int) != 32)

/-- the contract of a test of one byte, given as a function value that captures nothing -/
structure Tests (f : Nat) (p : UInt8 → Bool) : Prop where
  enters : ∀ args w, (callFunc f args).run Tryd.prog w = .ok (.enter f args) w
  says : ∀ (c : UInt8) (w : World), Calls Tryd.prog f #[.int .u8 (c.toNat : Int)] w fun e w' => e = .returned (.bool (p c)) ∧ w = w'


set_option maxHeartbeats 400000 in
theorem isDigit_c : Tests 106 dig := by
  refine ⟨enters_of Tryd.func106 (by kernel_rfl) rfl, ?_⟩
  intro c w
  go_enter Tryd.func106, Tryd.ntmps106
  go_wp2
  all_goals go_ret
  all_goals exact ⟨ret_bool (by simp [dig]; omega), rfl⟩

set_option maxHeartbeats 400000 in
theorem nodig_c : Tests 105 nodig := by
  refine ⟨enters_of Tryd.func105 (by kernel_rfl) rfl, ?_⟩
  intro c w
  go_enter Tryd.func105, Tryd.ntmps105
  go_wp2_with (go_at_call 106; refine (isDigit_c.says _ _).mono ?_; rintro e w' ⟨rfl, rfl⟩)
  go_ret
  exact ⟨rfl, rfl⟩

set_option maxHeartbeats 400000 in
theorem last_str (f : Nat) (p : UInt8 → Bool) (hf : Tests f p) (s : ByteArray) (w : World) (hs : s.size ≤ maxLen) :
    Calls Tryd.prog 87 #[.string s, .func (.func f) #[] #[]] w fun e w' => e = .returned (.int .i64 (lastI p s.data.toList s.size)) ∧ w = w' := by
  unfold maxLen at hs
  have eg := hf.enters
  go_enter Tryd.func87, Tryd.ntmps87
  go_wp2
  go_loop [5] (fun i => ∃ k : Nat, k ≤ s.size ∧ i = .int .i64 ((k : Int) - 1) ∧ Hid (lastI p s.data.toList s.size = lastI p s.data.toList k)) (fun i => (intOf i + 1).toNat)
  case atStart => exact ⟨s.size, Nat.le_refl _, rfl, rfl⟩
  case round =>
    obtain ⟨k, hk, rfl, hl⟩ := hrel
    by_cases h0 : 1 ≤ k
    · obtain ⟨k, rfl⟩ : ∃ j, k = j + 1 := ⟨k - 1, by omega⟩
      have hd : s.data.toList.getD k 0 = s[k]'(by omega) := by
        rw [List.getD_eq_getElem?_getD, List.getElem?_eq_getElem (by simpa using (show k < s.size by omega))]; rfl
      have hl2 : Hid (lastI p s.data.toList s.size = if p (s[k]'(by omega)) then (k : Int) else lastI p s.data.toList k) := by
        rw [hl.out]; show (if p (s.data.toList.getD k 0) then (k : Int) else lastI p s.data.toList k) = _; rw [hd]
      clear hd hl
      go_wp2_with (refine (hf.says _ _).mono ?_; rintro e w' ⟨rfl, rfl⟩)
      · have h : p (s[k]'(by omega)) = true := by assumption
        go_ret
        exact ⟨by rw [hl2.out, if_pos h]; rfl, rfl⟩
      · have h : p (s[k]'(by omega)) = false := by assumption
        exact ⟨⟨k, by omega, rfl, by rw [hl2.out, h]; rfl⟩, by simp [intOf]⟩
    · obtain rfl : k = 0 := by omega
      go_wp2_with fail
      go_ret
      exact ⟨by rw [hl.out]; rfl, rfl⟩

theorem lastI_neg (p : UInt8 → Bool) (l : List UInt8) (k : Nat) (hk : k ≤ l.length) : decide (lastI p l k < 0) = !((l.take k).any p) := by
  induction k with
  | zero => simp [lastI]
  | succ k ih =>
    have hg := lastI_ge p l k
    have e : l.getD k 0 = l[k] := by rw [List.getD_eq_getElem?_getD, List.getElem?_eq_getElem (by omega)]; rfl
    rw [List.take_succ_eq_append_getElem (by omega), List.any_append]
    unfold lastI
    rw [e]
    cases h : p l[k] <;> simp [h]
    simpa using ih (by omega)

theorem lastI_all (p : UInt8 → Bool) (s : ByteArray) : decide (lastI p s.data.toList s.size < 0) = !(s.data.toList.any p) := by
  rw [lastI_neg _ _ _ (by simp)]
  congr 2
  exact List.take_of_length_le (by simp)

def isDigits (l : List UInt8) : Bool := !l.isEmpty && !l.any nodig
def printable (l : List UInt8) : Bool := !l.any unprint

set_option maxHeartbeats 400000 in
theorem IsDigits_c (s : ByteArray) (w : World) (hs : s.size ≤ maxLen) :
    Calls Tryd.prog 73 #[.string s] w fun e w' => e = .returned (.bool (isDigits s.data.toList)) ∧ w = w' := by
  cases h0 : s.toList.isEmpty
  · have H0 : Hid (s.data.toList.isEmpty = false) := by rw [← ByteArray.toList_eq]; exact h0
    go_enter Tryd.func73, Tryd.ntmps73
    go_wp2_with (go_at_call 87; refine (last_str _ _ nodig_c _ _ hs).mono ?_; rintro e w' ⟨rfl, rfl⟩)
    go_ret
    exact ⟨ret_bool (by rw [isDigits, H0.out, ← lastI_all]; rfl), rfl⟩
  · have H0 : Hid (s.data.toList.isEmpty = true) := by rw [← ByteArray.toList_eq]; exact h0
    go_enter Tryd.func73, Tryd.ntmps73
    go_wp2_with fail
    go_ret
    exact ⟨ret_bool (by rw [isDigits, H0.out]; rfl), rfl⟩

end Go.Proofs.YthdggnkpncoikaaDoor
