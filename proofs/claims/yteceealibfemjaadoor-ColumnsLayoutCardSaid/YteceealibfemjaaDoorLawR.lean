/-
  THE CONTRACT of the laws' right (layer 2, columns).
-/
import Derived.Test.YteceealibfemjaaDoorLawS
namespace Go.Proofs.YteceealibfemjaaDoor
open Go.RowKit

set_option maxHeartbeats 1000000 in
theorem right_c (s : ByteArray) (w : World) (hs : s.size ≤ 2000000) :
    Calls Tryd.prog 4 #[.string s] w fun e w' => e = .returned (.bool (rightL s.data.toList)) ∧ Below w.heap.size w w' := by
  go_enter Tryd.func4, Tryd.ntmps4
  go_wp2_with fail
  go_loop [3] (fun i => ∃ k : Nat, k ≤ s.size ∧ i = .int .i64 k ∧ Hid (∀ j (h : j < s.size), j < k → badC (s[j]'h) = false)) (fun i => s.size - (intOf i).toNat)
  case atStart => exact ⟨0, Nat.zero_le _, rfl, fun j _ hj => by omega⟩
  case round =>
    obtain ⟨k, hk, rfl, hf⟩ := hrel
    by_cases hlt : k < s.size
    · by_cases hb : badC (s[k]'hlt) = true
      · have hbn : Hid (badN s.data.toList = k) := badN_at _ k (by rw [len_data]; exact hlt) (fun j h hj => hf.out j (by rw [← len_data]; exact h) hj) hb
        have hR : Hid (rightL s.data.toList = false) := by unfold Hid rightL; rw [hbn.out, len_data, decide_eq_false (by omega)]; rfl
        have hbx : (s[k]'hlt).toNat < 32 ∨ 126 < (s[k]'hlt).toNat := by simpa [badC] using hb
        clear hb hf
        rcases hbx with hb | hb
        all_goals
          go_wp2_with fail
          go_ret
          exact ⟨by rw [hR.out]; rfl, Below.refl _ _⟩
      · have hbx : ¬ (s[k]'hlt).toNat < 32 ∧ ¬ 126 < (s[k]'hlt).toNat := by simpa [badC] using hb
        have H : Hid (∀ j (h : j < s.size), j < k + 1 → badC (s[j]'h) = false) := fun j h hj => by
          rcases Nat.lt_or_ge j k with h' | h'
          · exact hf.out j h h'
          · obtain rfl : k = j := by omega
            simpa using hb
        obtain ⟨hb1, hb2⟩ := hbx
        clear hb hf
        go_wp2_with fail
        exact ⟨⟨k + 1, by omega, by go_num, H⟩, by simp [intOf]; omega⟩
    · have hbn : Hid (badN s.data.toList = s.size) := by
        unfold Hid
        rw [badN_none _ (fun j h => hf.out j (by rw [← len_data]; exact h) (by rw [len_data] at h; omega)), len_data]
      have hR0 : Hid (rightL s.data.toList = (decide (0 < s.size) && (!(s.data.toList.getD 0 0 == 32) && (!(s.data.toList.getD (s.size - 1) 0 == 32) && !openL s.data.toList)))) := by
        unfold Hid rightL; rw [hbn.out, len_data, decide_eq_true rfl, Bool.true_and]
      obtain rfl : k = s.size := by omega
      clear hf hbn
      by_cases h0 : 0 < s.size
      · have he : s.toList.isEmpty = false := by rw [ByteArray.toList_eq, ← Bool.not_eq_true, List.isEmpty_iff_length_eq_zero, len_data]; omega
        have g0 := hide (getD_at s 0 h0)
        have g1 := hide (getD_at s (s.size - 1) (by omega))
        by_cases hf : (s[0]'h0).toNat = 32
        · have ef : (((s[0]'h0).toNat : Int) != 32) = false := by rw [bne_eq_false_iff_eq]; omega
          have hR : Hid (rightL s.data.toList = false) := by
            unfold Hid; rw [hR0.out, g0.out, show (s[0]'h0) = 32 from UInt8.toNat_inj.1 hf]; simp
          clear hf
          go_wp2_with fail
          go_ret
          exact ⟨by rw [hR.out]; rfl, Below.refl _ _⟩
        · have ef : (((s[0]'h0).toNat : Int) != 32) = true := by rw [bne_iff_ne]; omega
          have bf : Hid (((s[0]'h0) == 32) = false) := by unfold Hid; rw [beq_eq_false_iff_ne]; exact fun e => hf (by rw [e]; rfl)
          by_cases hz : (s[s.size - 1]'(by omega)).toNat = 32
          · have ez : (((s[s.size - 1]'(by omega)).toNat : Int) != 32) = false := by rw [bne_eq_false_iff_eq]; omega
            have hR : Hid (rightL s.data.toList = false) := by
              unfold Hid; rw [hR0.out, g1.out, show (s[s.size - 1]'(by omega)) = 32 from UInt8.toNat_inj.1 hz]; simp
            clear hf hz
            go_wp2_with fail
            go_ret
            exact ⟨by rw [hR.out]; rfl, Below.refl _ _⟩
          · have ez : (((s[s.size - 1]'(by omega)).toNat : Int) != 32) = true := by rw [bne_iff_ne]; omega
            have bz : Hid (((s[s.size - 1]'(by omega)) == 32) = false) := by unfold Hid; rw [beq_eq_false_iff_ne]; exact fun e => hz (by rw [e]; rfl)
            have hR : Hid (rightL s.data.toList = !openL s.data.toList) := by
              unfold Hid; rw [hR0.out, g0.out, g1.out, bf.out, bz.out, decide_eq_true h0]; rfl
            have hcle : Hid (Lib.countByte s.data.toList 34 ≤ 2000000) := by
              have h1 := List.count_le_length (a := (34 : UInt8)) (l := s.data.toList)
              rw [len_data] at h1
              show List.count 34 s.data.toList ≤ _
              omega
            have hcnt := hide (fun (w1 : World) => Tryd.strings_Count_one s 34 w1)
            clear hf hz
            go_wp2_with fail
            refine (hcnt.out _).mono ?_
            rintro e w' ⟨rfl, rfl⟩
            go_wp2_with fail
            go_ret
            refine ⟨ret_bool ?_, Below.refl _ _⟩
            rw [hR.out, openL, Lib.countByte]
            generalize List.count 34 s.data.toList = c
            rw [Bool.eq_iff_iff]
            simp
            omega
      · have hR : Hid (rightL s.data.toList = false) := by unfold Hid; rw [hR0.out, decide_eq_false h0]; rfl
        have he : s.toList.isEmpty = true := by rw [ByteArray.toList_eq, List.isEmpty_iff_length_eq_zero, len_data]; omega
        go_wp2_with fail
        go_ret
        exact ⟨by rw [hR.out]; rfl, Below.refl _ _⟩
end Go.Proofs.YteceealibfemjaaDoor
