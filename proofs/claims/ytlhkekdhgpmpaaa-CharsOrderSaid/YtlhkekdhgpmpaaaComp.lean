/-
  THE CONTRACTS of the comparisons: isNaN, cmp.Compare, the padded byte, chars.Compare, the law's own 'at'.
-/
import Derived.Test.YtlhkekdhgpmpaaaRows8
namespace Go.Proofs.Ytlhkekdhgpmpaaa
open Go.RowKit Go.Shelf

/-- the byte of a padded text -/
def padAt (l : List UInt8) (k : Nat) : UInt8 := l.getD k 32
def cmpB (a b : UInt8) : Int := if a.toNat < b.toNat then -1 else if b.toNat < a.toNat then 1 else 0
/-- how f and g compare from place k on, over r places -/
def cmpF (f g : Nat → UInt8) : Nat → Nat → Int
  | _, 0 => 0
  | k, r + 1 => if cmpB (f k) (g k) = 0 then cmpF f g (k + 1) r else cmpB (f k) (g k)
def cmpL (a b : List UInt8) : Int := cmpF (padAt a) (padAt b) 0 (max a.length b.length)

set_option maxHeartbeats 400000 in
theorem isNaN_c (c : Int) (w : World) : Calls Try.prog 30 #[.int .u8 c] w fun e w' => e = .returned (.bool false) ∧ w = w' := by
  go_enter Try.func30, Try.ntmps30
  go_wp2
  go_ret
  exact ⟨rfl, rfl⟩

set_option maxHeartbeats 400000 in
theorem cmp_c (a b : UInt8) (w : World) : Calls Try.prog 27 #[.int .u8 (a.toNat : Int), .int .u8 (b.toNat : Int)] w fun e w' => e = .returned (.int .i64 (cmpB a b)) ∧ w = w' := by
  rcases Nat.lt_trichotomy a.toNat b.toNat with h | h | h
  all_goals
    have H := hide h
    go_enter Try.func27, Try.ntmps27
    go_wp2_with (go_at_call 30; refine (isNaN_c _ _).mono ?_; rintro e w' ⟨rfl, rfl⟩)
    go_ret
    refine ⟨?_, rfl⟩
    have h := H.out
  · rw [cmpB, if_pos h]; rfl
  · rw [cmpB, if_neg (by omega), if_neg (by omega)]; rfl
  · rw [cmpB, if_neg (by omega), if_pos (by omega)]; rfl

set_option maxHeartbeats 400000 in
theorem padded_c (A : Option Addr) (l : List UInt8) (n cap B k : Nat) (w : World) (hA : Sl w B A l) (hn : n = l.length) :
    Calls Try.prog 26 #[.slice A n cap, .int .i64 (k : Int)] w fun e w' => e = .returned (.int .u8 ((padAt l k).toNat : Int)) ∧ w = w' := by
  by_cases hk : k < n
  · rcases hA with rfl | ⟨b, off, rfl, _, hc⟩
    · simp at hn; omega
    · obtain ⟨u, hu, hcell⟩ : ∃ u, Hid (padAt l k = u) ∧ w.cell? ⟨b, off + k, none⟩ = some (.int .u8 (u.toNat : Int)) :=
        ⟨l[k]'(by omega), by unfold Hid padAt; rw [List.getD_eq_getElem?_getD, List.getElem?_eq_getElem (by omega)]; rfl, hc k _ (List.getElem?_eq_getElem (by omega))⟩
      clear hc hn
      go_enter Try.func26, Try.ntmps26
      go_wp2
      go_ret
      exact ⟨by rw [hu.out]; rfl, rfl⟩
  · have H : Hid (padAt l k = 32) := by
      unfold Hid padAt; rw [List.getD_eq_getElem?_getD, List.getElem?_eq_none (by omega)]; rfl
    clear hA hn
    go_enter Try.func26, Try.ntmps26
    go_wp2
    go_ret
    exact ⟨by rw [H.out]; rfl, rfl⟩

set_option maxHeartbeats 400000 in
theorem at_c (A : Option Addr) (l : List UInt8) (n cap B k : Nat) (w : World) (hA : Sl w B A l) (hn : n = l.length) :
    Calls Try.prog 14 #[.slice A n cap, .int .i64 (k : Int)] w fun e w' => e = .returned (.int .u8 ((padAt l k).toNat : Int)) ∧ w = w' := by
  by_cases hk : k < n
  · rcases hA with rfl | ⟨b, off, rfl, _, hc⟩
    · simp at hn; omega
    · obtain ⟨u, hu, hcell⟩ : ∃ u, Hid (padAt l k = u) ∧ w.cell? ⟨b, off + k, none⟩ = some (.int .u8 (u.toNat : Int)) :=
        ⟨l[k]'(by omega), by unfold Hid padAt; rw [List.getD_eq_getElem?_getD, List.getElem?_eq_getElem (by omega)]; rfl, hc k _ (List.getElem?_eq_getElem (by omega))⟩
      clear hc hn
      go_enter Try.func14, Try.ntmps14
      go_wp2
      go_ret
      exact ⟨by rw [hu.out]; rfl, rfl⟩
  · have H : Hid (padAt l k = 32) := by
      unfold Hid padAt; rw [List.getD_eq_getElem?_getD, List.getElem?_eq_none (by omega)]; rfl
    clear hA hn
    go_enter Try.func14, Try.ntmps14
    go_wp2
    go_ret
    exact ⟨by rw [H.out]; rfl, rfl⟩

theorem cmpF_step (f g : Nat → UInt8) (k m : Nat) (h : k < m) : cmpF f g k (m - k) = if cmpB (f k) (g k) = 0 then cmpF f g (k + 1) (m - (k + 1)) else cmpB (f k) (g k) := by
  rw [show m - k = (m - (k + 1)) + 1 by omega, cmpF]

set_option maxHeartbeats 400000 in
theorem Compare_c (A A' : Option Addr) (l l' : List UInt8) (n n' cap cap' B B' : Nat) (w : World) (hA : Sl w B A l) (hn : n = l.length) (hA' : Sl w B' A' l') (hn' : n' = l'.length) (hs : n ≤ maxLen) (hs' : n' ≤ maxLen) :
    Calls Try.prog 16 #[.slice A n cap, .slice A' n' cap'] w fun e w' => e = .returned (.int .i64 (cmpL l l')) ∧ w = w' := by
  unfold maxLen at hs hs'
  obtain ⟨m, hm⟩ : ∃ m, m = max n n' := ⟨_, rfl⟩
  have hc : Hid (cmpL l l' = cmpF (padAt l) (padAt l') 0 (m - 0)) := by unfold Hid cmpL; rw [hm, hn, hn', Nat.sub_zero]
  have HA := hide hA
  have HA' := hide hA'
  have Hn := hide hn
  have Hn' := hide hn'
  clear hA hA' hn hn'
  rcases Nat.lt_or_ge n n' with hlt | hge
  · obtain rfl : n' = m := by omega
    clear hm
    go_enter Try.func16, Try.ntmps16
    go_wp2_with fail
    go_loop [13] (fun i => ∃ k : Nat, k ≤ n' ∧ i = .int .i64 k ∧ Hid (cmpL l l' = cmpF (padAt l) (padAt l') k (n' - k))) (fun i => n' - (intOf i).toNat)
    case atStart => exact ⟨0, Nat.zero_le _, rfl, hc⟩
    case round =>
      obtain ⟨k, hk, rfl, hr⟩ := hrel
      by_cases hlt2 : k < n'
      · have hst := hide (cmpF_step (padAt l) (padAt l') k n' hlt2)
        go_wp2_with fail
        refine (padded_c A l _ cap B k _ HA.out Hn.out).mono ?_
        rintro e w' ⟨rfl, rfl⟩
        go_wp2_with fail
        refine (padded_c A' l' _ cap' B' k _ HA'.out Hn'.out).mono ?_
        rintro e w' ⟨rfl, rfl⟩
        go_wp2_with fail
        refine (cmp_c _ _ _).mono ?_
        rintro e w' ⟨rfl, rfl⟩
        go_wp2_with fail
        · have h : (cmpB (padAt l k) (padAt l' k) != 0) = true := by assumption
          go_ret
          exact ⟨by rw [hr.out, hst.out, if_neg (by simpa using h)]; rfl, rfl⟩
        · have h : (cmpB (padAt l k) (padAt l' k) != 0) = false := by assumption
          exact ⟨⟨k + 1, by omega, by go_num, by unfold Hid; rw [hr.out, hst.out, if_pos (by simpa using h)]⟩, by simp [intOf]; omega⟩
      · obtain rfl : k = n' := by omega
        go_wp2_with fail
        go_ret
        exact ⟨by rw [hr.out, Nat.sub_self, cmpF]; rfl, rfl⟩
  · obtain rfl : n = m := by omega
    clear hm
    go_enter Try.func16, Try.ntmps16
    go_wp2_with fail
    go_loop [13] (fun i => ∃ k : Nat, k ≤ n ∧ i = .int .i64 k ∧ Hid (cmpL l l' = cmpF (padAt l) (padAt l') k (n - k))) (fun i => n - (intOf i).toNat)
    case atStart => exact ⟨0, Nat.zero_le _, rfl, hc⟩
    case round =>
      obtain ⟨k, hk, rfl, hr⟩ := hrel
      by_cases hlt2 : k < n
      · have hst := hide (cmpF_step (padAt l) (padAt l') k n hlt2)
        go_wp2_with fail
        refine (padded_c A l _ cap B k _ HA.out Hn.out).mono ?_
        rintro e w' ⟨rfl, rfl⟩
        go_wp2_with fail
        refine (padded_c A' l' _ cap' B' k _ HA'.out Hn'.out).mono ?_
        rintro e w' ⟨rfl, rfl⟩
        go_wp2_with fail
        refine (cmp_c _ _ _).mono ?_
        rintro e w' ⟨rfl, rfl⟩
        go_wp2_with fail
        · have h : (cmpB (padAt l k) (padAt l' k) != 0) = true := by assumption
          go_ret
          exact ⟨by rw [hr.out, hst.out, if_neg (by simpa using h)]; rfl, rfl⟩
        · have h : (cmpB (padAt l k) (padAt l' k) != 0) = false := by assumption
          exact ⟨⟨k + 1, by omega, by go_num, by unfold Hid; rw [hr.out, hst.out, if_pos (by simpa using h)]⟩, by simp [intOf]; omega⟩
      · obtain rfl : k = n := by omega
        go_wp2_with fail
        go_ret
        exact ⟨by rw [hr.out, Nat.sub_self, cmpF]; rfl, rfl⟩
end Go.Proofs.Ytlhkekdhgpmpaaa
