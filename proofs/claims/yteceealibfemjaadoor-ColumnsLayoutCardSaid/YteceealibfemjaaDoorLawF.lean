/-
  CONTRACTS of digits and divide of the laws (layer 2, columns).
-/
import Derived.Test.YteceealibfemjaaDoorBase
namespace Go.Proofs.YteceealibfemjaaDoor
open Go.RowKit

set_option maxHeartbeats 1000000 in
theorem digits_c (n : Nat) (w : World) (hs : n ≤ 2000000) :
    Calls Tryd.prog 8 #[.int .i64 (n : Int)] w fun e w' => e = .returned (.string (mk (digs n))) ∧ w = w' := by
  go_enter Tryd.func8, Tryd.ntmps8
  go_wp2_with fail
  go_loop [0, 3] (fun v o => ∃ (m : Nat) (X : ByteArray), v = .int .i64 m ∧ o = .string X ∧ X.size + m ≤ n ∧ Hid (digs n = digs m ++ X.data.toList)) (fun v _ => (intOf v).toNat)
  case atStart => exact ⟨n, ⟨#[]⟩, rfl, rfl, by show 0 + n ≤ n; omega, by simp [Hid]⟩
  case round =>
    obtain ⟨m, X, rfl, rfl, hX, hI⟩ := hrel
    by_cases h0 : 0 < m
    · have hd := digit_at ⟨m % 10, by omega⟩
      have hg := digs_pos m h0
      simp only at hd
      generalize UInt8.ofNat (48 + m % 10) = c at hd hg
      have hs1 : (⟨#[c]⟩ : ByteArray).size = 1 := rfl
      have hadd := fun wx : World => run_string_add_sum (P := Tryd.prog) wx ⟨#[c]⟩ X (by omega)
      have hsz : ((⟨#[c]⟩ : ByteArray) ++ X).size = 1 + X.size := by rw [ByteArray.size_append, hs1]
      have H : Hid (digs n = digs (m / 10) ++ ((⟨#[c]⟩ : ByteArray) ++ X).data.toList) := by
        unfold Hid; rw [hI.out, hg]; simp
      have HZ := hide hsz
      clear hsz hs1 hI hg
      go_wp2_with fail
      exact ⟨⟨m / 10, _, by go_num, rfl, by rw [HZ.out]; omega, H⟩, by simp [intOf]; omega⟩
    · obtain rfl : m = 0 := by omega
      have H : Hid (digs n = X.data.toList) := by unfold Hid; rw [hI.out, digs_zero, List.nil_append]
      clear hI
      go_wp2_with fail
      go_ret
      exact ⟨by rw [H.out, mk_of]; rfl, rfl⟩
set_option maxHeartbeats 2000000 in
set_option maxRecDepth 100000 in
theorem divide_c (s : ByteArray) (room : Nat) (inside : Bool) (w : World) (hs : s.size ≤ 2000000) (hr : room ≤ 100) :
    Calls Tryd.prog 9 #[.string s, .int .i64 (room : Int), .bool inside] w fun e w' => e = .returned (.tuple #[.int .i64 (((divK s.data.toList inside room).getD room : Nat) : Int), .bool (divK s.data.toList inside room).isSome]) ∧ w = w' := by
  go_enter Tryd.func9, Tryd.ntmps9
  go_wp2_with fail
  go_loop [8] (fun v => ∃ k : Nat, v = .int .i64 k ∧ k ≤ room ∧ Hid (divK s.data.toList inside room = divK s.data.toList inside k)) (fun v => (intOf v).toNat)
  case atStart => exact ⟨room, rfl, Nat.le_refl _, rfl⟩
  case round =>
    obtain ⟨k, rfl, hk, hI⟩ := hrel
    by_cases h0 : 0 < k
    · by_cases hl : k < s.size
      · have hg := hide (getD_at s k hl)
        by_cases hc : (s[k]'hl).toNat = 32
        · have ec : (((s[k]'hl).toNat : Int) == 32) = true := by rw [beq_iff_eq]; omega
          have ht : Hid ((s.extract 0 k).data.toList = s.data.toList.take k) := by
            unfold Hid
            rw [ByteArray.data_extract, Array.toList_extract]; simp only [List.extract_eq_take_drop, List.drop_zero, Nat.sub_zero]
          have hopen := hide (fun (w1 : World) => Open_c (s.extract 0 k) w1 (by unfold maxLen; simp; omega))
          by_cases ho : openL (s.data.toList.take k) = inside
          · have H : Hid (divK s.data.toList inside room = some k) := by
              obtain ⟨j, rfl⟩ : ∃ j, k = j + 1 := ⟨k - 1, by omega⟩
              unfold Hid; rw [hI.out, divK, if_pos ⟨by rw [len_data]; exact hl, by rw [hg.out]; exact UInt8.toNat_inj.1 hc, ho⟩]
            have HO := hide ho
            clear hI hc ho
            go_wp2_with fail
            refine (hopen.out _).mono ?_
            rw [ht.out, HO.out]
            rintro e w' ⟨rfl, rfl⟩
            go_wp2_with fail
            go_ret2
            exact ⟨by rw [H.out]; rfl, rfl⟩
          · have H : Hid (divK s.data.toList inside room = divK s.data.toList inside (k - 1)) := by
              obtain ⟨j, rfl⟩ : ∃ j, k = j + 1 := ⟨k - 1, by omega⟩
              unfold Hid; rw [hI.out, divK, if_neg (fun h => ho h.2.2)]; rfl
            have HO : Hid (openL (s.data.toList.take k) = !inside) := by
              unfold Hid; cases inside <;> simpa using ho
            clear hI hc ho
            go_wp2_with fail
            refine (hopen.out _).mono ?_
            rw [ht.out, HO.out]
            rintro e w' ⟨rfl, rfl⟩
            cases inside
            all_goals
              go_wp2_with fail
              exact ⟨⟨k - 1, by go_num, by omega, H⟩, by simp [intOf]; omega⟩
        · have ec : (((s[k]'hl).toNat : Int) == 32) = false := by rw [beq_eq_false_iff_ne]; omega
          have H : Hid (divK s.data.toList inside room = divK s.data.toList inside (k - 1)) := by
            obtain ⟨j, rfl⟩ : ∃ j, k = j + 1 := ⟨k - 1, by omega⟩
            unfold Hid; rw [hI.out, divK, if_neg (fun h => hc (by have := h.2.1; rw [hg.out] at this; rw [this]; rfl))]; rfl
          clear hI hc
          go_wp2_with fail
          exact ⟨⟨k - 1, by go_num, by omega, H⟩, by simp [intOf]; omega⟩
      · have H : Hid (divK s.data.toList inside room = divK s.data.toList inside (k - 1)) := by
          obtain ⟨j, rfl⟩ : ∃ j, k = j + 1 := ⟨k - 1, by omega⟩
          unfold Hid; rw [hI.out, divK, if_neg (fun h => hl (by have := h.1; rwa [len_data] at this))]; rfl
        clear hI
        go_wp2_with fail
        exact ⟨⟨k - 1, by go_num, by omega, H⟩, by simp [intOf]; omega⟩
    · obtain rfl : k = 0 := by omega
      have H : Hid (divK s.data.toList inside room = none) := hI.out
      clear hI
      go_wp2_with fail
      go_ret2
      exact ⟨by rw [H.out]; rfl, rfl⟩
end Go.Proofs.YteceealibfemjaaDoor
