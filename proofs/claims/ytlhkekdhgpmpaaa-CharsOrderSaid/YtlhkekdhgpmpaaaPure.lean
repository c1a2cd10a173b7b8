/-
  CONTRACTS of the functions of chars that compute on strings: the closures, last over a string, IsDigits, IsName, Printable.
-/
import Derived.Test.YtlhkekdhgpmpaaaProg
import Derived.WalkKit
import Derived.WalkSpells
import Derived.WalkLawsBesides
import Derived.BigQuiet
import Derived.Deep.QuietTactic
import Derived.Shelf.Abstract
namespace Go.Proofs.Ytlhkekdhgpmpaaa
open Go.RowKit Go.Shelf

theorem hide {p : Prop} (h : p) : Hid p := h

/-- the place of the last of the first k bytes that has p, or -1 -/
def lastI (p : UInt8 → Bool) (l : List UInt8) : Nat → Int
  | 0 => -1
  | k + 1 => if p (l.getD k 0) then k else lastI p l k

theorem lastI_ge (p : UInt8 → Bool) (l : List UInt8) (k : Nat) : -1 ≤ lastI p l k ∧ lastI p l k < k := by
  induction k with
  | zero => simp [lastI]
  | succ k ih => unfold lastI; split <;> omega

def dig (c : UInt8) : Bool := decide (48 ≤ (c.toNat : Int)) && decide ((c.toNat : Int) ≤ 57)
def capi (c : UInt8) : Bool := decide (65 ≤ (c.toNat : Int)) && decide ((c.toNat : Int) ≤ 90)
def nodig (c : UInt8) : Bool := !dig c
def foreign (c : UInt8) : Bool := (!dig c && !capi c) && ((c.toNat : Int) != 45)
def unprint (c : UInt8) : Bool := decide ((c.toNat : Int) < 32) || decide ((126 : Int) < (c.toNat : Int))
def nospace (c : UInt8) : Bool := ((c.toNat : Int) != 32)

/-- the contract of a test of one byte, given as a function value that captures nothing -/
structure Tests (f : Nat) (p : UInt8 → Bool) : Prop where
  enters : ∀ args w, (callFunc f args).run Try.prog w = .ok (.enter f args) w
  says : ∀ (c : UInt8) (w : World), Calls Try.prog f #[.int .u8 (c.toNat : Int)] w fun e w' => e = .returned (.bool (p c)) ∧ w = w'

theorem ret_bool {a b : Bool} (h : a = b) : Ending.returned (.bool a) = .returned (.bool b) := by rw [h]

set_option maxHeartbeats 400000 in
theorem isDigit_c : Tests 22 dig := by
  refine ⟨enters_of Try.func22 (by kernel_rfl) rfl, ?_⟩
  intro c w
  go_enter Try.func22, Try.ntmps22
  go_wp2
  all_goals go_ret
  all_goals exact ⟨ret_bool (by simp [dig]; omega), rfl⟩

set_option maxHeartbeats 400000 in
theorem isCapital_c : Tests 24 capi := by
  refine ⟨enters_of Try.func24 (by kernel_rfl) rfl, ?_⟩
  intro c w
  go_enter Try.func24, Try.ntmps24
  go_wp2
  all_goals go_ret
  all_goals exact ⟨ret_bool (by simp [capi]; omega), rfl⟩

set_option maxHeartbeats 400000 in
theorem nodig_c : Tests 21 nodig := by
  refine ⟨enters_of Try.func21 (by kernel_rfl) rfl, ?_⟩
  intro c w
  go_enter Try.func21, Try.ntmps21
  go_wp2_with (go_at_call 22; refine (isDigit_c.says _ _).mono ?_; rintro e w' ⟨rfl, rfl⟩)
  go_ret
  exact ⟨rfl, rfl⟩

set_option maxHeartbeats 400000 in
theorem foreign_c : Tests 23 foreign := by
  refine ⟨enters_of Try.func23 (by kernel_rfl) rfl, ?_⟩
  intro c w
  go_enter Try.func23, Try.ntmps23
  go_wp2_with (first | (go_at_call 22; refine (isDigit_c.says _ _).mono ?_; rintro e w' ⟨rfl, rfl⟩) | (go_at_call 24; refine (isCapital_c.says _ _).mono ?_; rintro e w' ⟨rfl, rfl⟩))
  all_goals go_ret
  · have h : dig c = true := by assumption
    exact ⟨ret_bool (by simp [foreign, h]), rfl⟩
  · have h : capi c = true := by assumption
    exact ⟨ret_bool (by simp [foreign, h]), rfl⟩
  · have h : ¬dig c = true := by assumption
    have h' : ¬capi c = true := by assumption
    exact ⟨ret_bool (by simp [foreign, h, h']), rfl⟩

set_option maxHeartbeats 400000 in
theorem unprint_c : Tests 25 unprint := by
  refine ⟨enters_of Try.func25 (by kernel_rfl) rfl, ?_⟩
  intro c w
  go_enter Try.func25, Try.ntmps25
  go_wp2
  all_goals go_ret
  all_goals exact ⟨ret_bool (by simp [unprint]; try omega), rfl⟩

set_option maxHeartbeats 400000 in
theorem nospace_c : Tests 29 nospace := by
  refine ⟨enters_of Try.func29 (by kernel_rfl) rfl, ?_⟩
  intro c w
  go_enter Try.func29, Try.ntmps29
  go_wp2
  go_ret
  exact ⟨rfl, rfl⟩

set_option maxHeartbeats 400000 in
theorem last_str (f : Nat) (p : UInt8 → Bool) (hf : Tests f p) (s : ByteArray) (w : World) (hs : s.size ≤ maxLen) :
    Calls Try.prog 20 #[.string s, .func (.func f) #[] #[]] w fun e w' => e = .returned (.int .i64 (lastI p s.data.toList s.size)) ∧ w = w' := by
  unfold maxLen at hs
  have eg := hf.enters
  go_enter Try.func20, Try.ntmps20
  go_wp2
  go_loop [5] (fun i => ∃ k : Nat, k ≤ s.size ∧ i = .int .i64 ((k : Int) - 1) ∧ Hid (lastI p s.data.toList s.size = lastI p s.data.toList k)) (fun i => (intOf i + 1).toNat)
  case atStart => exact ⟨s.size, Nat.le_refl _, rfl, rfl⟩
  case round =>
    obtain ⟨k, hk, rfl, hl⟩ := hrel
    by_cases h0 : 1 ≤ k
    · obtain ⟨k, rfl⟩ : ∃ j, k = j + 1 := ⟨k - 1, by omega⟩
      have hd : s.data.toList.getD k 0 = s[k]'(by omega) := by
        rw [List.getD_eq_getElem?_getD, List.getElem?_eq_getElem (by simpa using (show k < s.size by omega))]; rfl
      have hl2 : Hid (lastI p s.data.toList s.size = if p (s[k]'(by omega)) then (k : Int) else lastI p s.data.toList k) := by
        rw [hl.out]; show (if p (s.data.toList.getD k 0) then (k : Int) else lastI p s.data.toList k) = _; rw [hd]
      clear hd hl
      go_wp2_with (refine (hf.says _ _).mono ?_; rintro e w' ⟨rfl, rfl⟩)
      · have h : p (s[k]'(by omega)) = true := by assumption
        go_ret
        exact ⟨by rw [hl2.out, if_pos h]; rfl, rfl⟩
      · have h : p (s[k]'(by omega)) = false := by assumption
        exact ⟨⟨k, by omega, rfl, by rw [hl2.out, h]; rfl⟩, by simp [intOf]⟩
    · obtain rfl : k = 0 := by omega
      go_wp2_with fail
      go_ret
      exact ⟨by rw [hl.out]; rfl, rfl⟩

theorem lastI_neg (p : UInt8 → Bool) (l : List UInt8) (k : Nat) (hk : k ≤ l.length) : decide (lastI p l k < 0) = !((l.take k).any p) := by
  induction k with
  | zero => simp [lastI]
  | succ k ih =>
    have hg := lastI_ge p l k
    have e : l.getD k 0 = l[k] := by rw [List.getD_eq_getElem?_getD, List.getElem?_eq_getElem (by omega)]; rfl
    rw [List.take_succ_eq_append_getElem (by omega), List.any_append]
    unfold lastI
    rw [e]
    cases h : p l[k] <;> simp [h]
    simpa using ih (by omega)

theorem lastI_all (p : UInt8 → Bool) (s : ByteArray) : decide (lastI p s.data.toList s.size < 0) = !(s.data.toList.any p) := by
  rw [lastI_neg _ _ _ (by simp)]
  congr 2
  exact List.take_of_length_le (by simp)

def isDigits (l : List UInt8) : Bool := !l.isEmpty && !l.any nodig
def printable (l : List UInt8) : Bool := !l.any unprint

set_option maxHeartbeats 400000 in
theorem IsDigits_c (s : ByteArray) (w : World) (hs : s.size ≤ maxLen) :
    Calls Try.prog 10 #[.string s] w fun e w' => e = .returned (.bool (isDigits s.data.toList)) ∧ w = w' := by
  cases h0 : s.toList.isEmpty
  · have H0 : Hid (s.data.toList.isEmpty = false) := by rw [← ByteArray.toList_eq]; exact h0
    go_enter Try.func10, Try.ntmps10
    go_wp2_with (go_at_call 20; refine (last_str _ _ nodig_c _ _ hs).mono ?_; rintro e w' ⟨rfl, rfl⟩)
    go_ret
    exact ⟨ret_bool (by rw [isDigits, H0.out, ← lastI_all]; rfl), rfl⟩
  · have H0 : Hid (s.data.toList.isEmpty = true) := by rw [← ByteArray.toList_eq]; exact h0
    go_enter Try.func10, Try.ntmps10
    go_wp2_with fail
    go_ret
    exact ⟨ret_bool (by rw [isDigits, H0.out]; rfl), rfl⟩

set_option maxHeartbeats 400000 in
theorem Printable_c (s : ByteArray) (w : World) (hs : s.size ≤ maxLen) :
    Calls Try.prog 12 #[.string s] w fun e w' => e = .returned (.bool (printable s.data.toList)) ∧ w = w' := by
  go_enter Try.func12, Try.ntmps12
  go_wp2_with (go_at_call 20; refine (last_str _ _ unprint_c _ _ hs).mono ?_; rintro e w' ⟨rfl, rfl⟩)
  go_ret
  exact ⟨ret_bool (lastI_all _ _), rfl⟩

def isName (l : List UInt8) : Bool := !(l.isEmpty || decide (30 < l.length) || (l.getD 0 0).toNat == 45 || (l.getD (l.length - 1) 0).toNat == 45) && (!l.any foreign && l.any capi)


theorem getD_at (s : ByteArray) (k : Nat) (h : k < s.size) : s.data.toList.getD k 0 = s[k] := by
  rw [List.getD_eq_getElem?_getD, List.getElem?_eq_getElem (by simpa using h)]; rfl

theorem lastI_some (p : UInt8 → Bool) (s : ByteArray) : decide (0 ≤ lastI p s.data.toList s.size) = s.data.toList.any p := by
  have h := lastI_all p s
  rw [Bool.eq_iff_iff] at h ⊢
  cases h' : s.data.toList.any p <;> simp [h'] at h ⊢ <;> omega

set_option maxHeartbeats 400000 in
theorem IsName_c (s : ByteArray) (w : World) (hs : s.size ≤ maxLen) :
    Calls Try.prog 11 #[.string s] w fun e w' => e = .returned (.bool (isName s.data.toList)) ∧ w = w' := by
  have hlen : Hid (s.data.toList.length = s.size) := by rw [Array.length_toList]; rfl
  by_cases h0 : s.size = 0
  · have he : s.toList.isEmpty = true := by rw [ByteArray.toList_eq, List.isEmpty_iff_length_eq_zero, hlen.out, h0]
    have H0 : Hid (s.data.toList.isEmpty = true) := by rw [← ByteArray.toList_eq]; exact he
    clear h0
    go_enter Try.func11, Try.ntmps11
    go_wp2_with fail
    go_ret
    exact ⟨ret_bool (by rw [isName, H0.out]; rfl), rfl⟩
  · have he : s.toList.isEmpty = false := by
      rw [ByteArray.toList_eq]
      cases h : s.data.toList.isEmpty
      · rfl
      · rw [List.isEmpty_iff_length_eq_zero, hlen.out] at h; exact absurd h h0
    have H0 : Hid (s.data.toList.isEmpty = false) := by rw [← ByteArray.toList_eq]; exact he
    by_cases h1 : 30 < s.size
    · go_enter Try.func11, Try.ntmps11
      go_wp2_with fail
      go_ret
      exact ⟨ret_bool (by rw [isName, H0.out, hlen.out]; simp [h1]), rfl⟩
    · have hp : 0 < s.size := by omega
      have g0 := getD_at s 0 hp
      have g1 := getD_at s (s.size - 1) (by omega)
      have G : Hid (isName s.data.toList = (!((s[0].toNat : Int) == 45 || ((s[s.size - 1]'(by omega)).toNat : Int) == 45) && (decide (lastI foreign s.data.toList s.size < 0) && decide (0 ≤ lastI capi s.data.toList s.size)))) := by
        unfold Hid
        rw [isName, H0.out, hlen.out, g0, g1, lastI_all, lastI_some]
        have e : ∀ n : Nat, ((n : Int) == 45) = (n == 45) := fun n => by rw [Bool.eq_iff_iff]; simp; omega
        simp [h1, e]
      clear g0 g1
      go_enter Try.func11, Try.ntmps11
      go_wp2_with (first | (go_at_call 20; ((with_reducible refine (last_str _ _ foreign_c _ _ hs).mono ?_); rintro e w' ⟨rfl, rfl⟩)) | (go_at_call 20; ((with_reducible refine (last_str _ _ isCapital_c _ _ hs).mono ?_); rintro e w' ⟨rfl, rfl⟩)))
      all_goals (go_ret; refine ⟨ret_bool ?_, rfl⟩; rw [G.out])
      · have h : ((s[0]'hp).toNat : Int) = 45 := by assumption
        simp [h]
      · have h : ((30 : Int) < s.size ∨ (((s[0]'hp).toNat : Int) == 45) = true) ∨ (((s[s.size - 1]'(by omega)).toNat : Int) == 45) = true := by assumption
        rcases h with (h | h) | h
        · omega
        · rw [h]; rfl
        · rw [h]; simp
      · have h : ((s.size : Int) ≤ 30 ∧ (((s[0]'hp).toNat : Int) == 45) = false) ∧ (((s[s.size - 1]'(by omega)).toNat : Int) == 45) = false := by assumption
        have h2 : lastI foreign s.data.toList s.size < 0 := by assumption
        rw [h.1.2, h.2, decide_eq_true h2]; rfl
      · have h2 : 0 ≤ lastI foreign s.data.toList s.size := by assumption
        rw [decide_eq_false (show ¬ lastI foreign s.data.toList s.size < 0 by omega)]; simp
end Go.Proofs.Ytlhkekdhgpmpaaa
