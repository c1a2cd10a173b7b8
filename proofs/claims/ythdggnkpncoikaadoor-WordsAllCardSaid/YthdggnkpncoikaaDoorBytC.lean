/-
  CONTRACT of Byte (layer 5, words).
-/
import Derived.Test.YthdggnkpncoikaaDoorBase
import Derived.Lib.Hide
namespace Go.Proofs.YthdggnkpncoikaaDoor
open Go.RowKit

/-- the figurative constants and their bytes -/
def figT : List (List UInt8 × Int) := [([90, 69, 82, 79], 48), ([90, 69, 82, 79, 83], 48), ([90, 69, 82, 79, 69, 83], 48), ([83, 80, 65, 67, 69], 32), ([83, 80, 65, 67, 69, 83], 32), ([72, 73, 71, 72, 45, 86, 65, 76, 85, 69], 255), ([72, 73, 71, 72, 45, 86, 65, 76, 85, 69, 83], 255), ([76, 79, 87, 45, 86, 65, 76, 85, 69], 0), ([76, 79, 87, 45, 86, 65, 76, 85, 69, 83], 0), ([81, 85, 79, 84, 69], 34), ([81, 85, 79, 84, 69, 83], 34)]
/-- the byte of a figurative constant -/
def byteL (l : List UInt8) : Option Int := (figT.find? (fun p => p.1 == l)).map (·.2)
def byteN (l : List UInt8) : Int := (byteL l).getD 0
def byteB (l : List UInt8) : Bool := (byteL l).isSome
theorem byteL_none (l : List UInt8) (h0 : (l == [90, 69, 82, 79]) = false) (h1 : (l == [90, 69, 82, 79, 83]) = false) (h2 : (l == [90, 69, 82, 79, 69, 83]) = false) (h3 : (l == [83, 80, 65, 67, 69]) = false) (h4 : (l == [83, 80, 65, 67, 69, 83]) = false) (h5 : (l == [72, 73, 71, 72, 45, 86, 65, 76, 85, 69]) = false) (h6 : (l == [72, 73, 71, 72, 45, 86, 65, 76, 85, 69, 83]) = false) (h7 : (l == [76, 79, 87, 45, 86, 65, 76, 85, 69]) = false) (h8 : (l == [76, 79, 87, 45, 86, 65, 76, 85, 69, 83]) = false) (h9 : (l == [81, 85, 79, 84, 69]) = false) (h10 : (l == [81, 85, 79, 84, 69, 83]) = false) : byteL l = none := by
  have e : ∀ a : List UInt8, (l == a) = false → (a == l) = false := fun a h => by
    rw [beq_eq_false_iff_ne] at h ⊢; exact fun e => h e.symm
  unfold byteL figT
  simp only [List.find?, e _ h0, e _ h1, e _ h2, e _ h3, e _ h4, e _ h5, e _ h6, e _ h7, e _ h8, e _ h9, e _ h10, Option.map_none]
set_option maxHeartbeats 2000000 in
theorem Byte_c (s : ByteArray) (w : World) :
    Calls Tryd.prog 43 #[.string s] w fun e w' => e = .returned (.tuple #[.int .u8 (byteN s.data.toList), .bool (byteB s.data.toList)]) ∧ w = w' := by
  obtain ⟨N, hN⟩ : ∃ N, N = byteN s.data.toList := ⟨_, rfl⟩
  obtain ⟨B, hB⟩ : ∃ B, B = byteB s.data.toList := ⟨_, rfl⟩
  rw [← hN, ← hB]
  unfold byteN at hN
  unfold byteB at hB
  by_cases h0 : (s.data.toList == [90, 69, 82, 79]) = true
  · have HN : Hid (N = 48) := by unfold Hid; rw [hN, beq_iff_eq.1 h0]; rfl
    have HB : Hid (B = true) := by unfold Hid; rw [hB, beq_iff_eq.1 h0]; rfl
    have hs : (s.toList == [90, 69, 82, 79]) = true := by rw [ByteArray.toList_eq]; exact h0
    clear hN hB h0
    go_enter Tryd.func43, Tryd.ntmps43
    go_wp2_with fail
    go_ret2
    exact ⟨by rw [HN.out, HB.out]; rfl, rfl⟩
  by_cases h1 : (s.data.toList == [90, 69, 82, 79, 83]) = true
  · have HN : Hid (N = 48) := by unfold Hid; rw [hN, beq_iff_eq.1 h1]; rfl
    have HB : Hid (B = true) := by unfold Hid; rw [hB, beq_iff_eq.1 h1]; rfl
    have hs : (s.toList == [90, 69, 82, 79, 83]) = true := by rw [ByteArray.toList_eq]; exact h1
    have k0 : (s.toList == [90, 69, 82, 79]) = false := by rw [ByteArray.toList_eq]; simpa using h0
    clear hN hB h0 h1
    go_enter Tryd.func43, Tryd.ntmps43
    go_wp2_with fail
    go_ret2
    exact ⟨by rw [HN.out, HB.out]; rfl, rfl⟩
  by_cases h2 : (s.data.toList == [90, 69, 82, 79, 69, 83]) = true
  · have HN : Hid (N = 48) := by unfold Hid; rw [hN, beq_iff_eq.1 h2]; rfl
    have HB : Hid (B = true) := by unfold Hid; rw [hB, beq_iff_eq.1 h2]; rfl
    have hs : (s.toList == [90, 69, 82, 79, 69, 83]) = true := by rw [ByteArray.toList_eq]; exact h2
    have k0 : (s.toList == [90, 69, 82, 79]) = false := by rw [ByteArray.toList_eq]; simpa using h0
    have k1 : (s.toList == [90, 69, 82, 79, 83]) = false := by rw [ByteArray.toList_eq]; simpa using h1
    clear hN hB h0 h1 h2
    go_enter Tryd.func43, Tryd.ntmps43
    go_wp2_with fail
    go_ret2
    exact ⟨by rw [HN.out, HB.out]; rfl, rfl⟩
  by_cases h3 : (s.data.toList == [83, 80, 65, 67, 69]) = true
  · have HN : Hid (N = 32) := by unfold Hid; rw [hN, beq_iff_eq.1 h3]; rfl
    have HB : Hid (B = true) := by unfold Hid; rw [hB, beq_iff_eq.1 h3]; rfl
    have hs : (s.toList == [83, 80, 65, 67, 69]) = true := by rw [ByteArray.toList_eq]; exact h3
    have k0 : (s.toList == [90, 69, 82, 79]) = false := by rw [ByteArray.toList_eq]; simpa using h0
    have k1 : (s.toList == [90, 69, 82, 79, 83]) = false := by rw [ByteArray.toList_eq]; simpa using h1
    have k2 : (s.toList == [90, 69, 82, 79, 69, 83]) = false := by rw [ByteArray.toList_eq]; simpa using h2
    clear hN hB h0 h1 h2 h3
    go_enter Tryd.func43, Tryd.ntmps43
    go_wp2_with fail
    go_ret2
    exact ⟨by rw [HN.out, HB.out]; rfl, rfl⟩
  by_cases h4 : (s.data.toList == [83, 80, 65, 67, 69, 83]) = true
  · have HN : Hid (N = 32) := by unfold Hid; rw [hN, beq_iff_eq.1 h4]; rfl
    have HB : Hid (B = true) := by unfold Hid; rw [hB, beq_iff_eq.1 h4]; rfl
    have hs : (s.toList == [83, 80, 65, 67, 69, 83]) = true := by rw [ByteArray.toList_eq]; exact h4
    have k0 : (s.toList == [90, 69, 82, 79]) = false := by rw [ByteArray.toList_eq]; simpa using h0
    have k1 : (s.toList == [90, 69, 82, 79, 83]) = false := by rw [ByteArray.toList_eq]; simpa using h1
    have k2 : (s.toList == [90, 69, 82, 79, 69, 83]) = false := by rw [ByteArray.toList_eq]; simpa using h2
    have k3 : (s.toList == [83, 80, 65, 67, 69]) = false := by rw [ByteArray.toList_eq]; simpa using h3
    clear hN hB h0 h1 h2 h3 h4
    go_enter Tryd.func43, Tryd.ntmps43
    go_wp2_with fail
    go_ret2
    exact ⟨by rw [HN.out, HB.out]; rfl, rfl⟩
  by_cases h5 : (s.data.toList == [72, 73, 71, 72, 45, 86, 65, 76, 85, 69]) = true
  · have HN : Hid (N = 255) := by unfold Hid; rw [hN, beq_iff_eq.1 h5]; rfl
    have HB : Hid (B = true) := by unfold Hid; rw [hB, beq_iff_eq.1 h5]; rfl
    have hs : (s.toList == [72, 73, 71, 72, 45, 86, 65, 76, 85, 69]) = true := by rw [ByteArray.toList_eq]; exact h5
    have k0 : (s.toList == [90, 69, 82, 79]) = false := by rw [ByteArray.toList_eq]; simpa using h0
    have k1 : (s.toList == [90, 69, 82, 79, 83]) = false := by rw [ByteArray.toList_eq]; simpa using h1
    have k2 : (s.toList == [90, 69, 82, 79, 69, 83]) = false := by rw [ByteArray.toList_eq]; simpa using h2
    have k3 : (s.toList == [83, 80, 65, 67, 69]) = false := by rw [ByteArray.toList_eq]; simpa using h3
    have k4 : (s.toList == [83, 80, 65, 67, 69, 83]) = false := by rw [ByteArray.toList_eq]; simpa using h4
    clear hN hB h0 h1 h2 h3 h4 h5
    go_enter Tryd.func43, Tryd.ntmps43
    go_wp2_with fail
    go_ret2
    exact ⟨by rw [HN.out, HB.out]; rfl, rfl⟩
  by_cases h6 : (s.data.toList == [72, 73, 71, 72, 45, 86, 65, 76, 85, 69, 83]) = true
  · have HN : Hid (N = 255) := by unfold Hid; rw [hN, beq_iff_eq.1 h6]; rfl
    have HB : Hid (B = true) := by unfold Hid; rw [hB, beq_iff_eq.1 h6]; rfl
    have hs : (s.toList == [72, 73, 71, 72, 45, 86, 65, 76, 85, 69, 83]) = true := by rw [ByteArray.toList_eq]; exact h6
    have k0 : (s.toList == [90, 69, 82, 79]) = false := by rw [ByteArray.toList_eq]; simpa using h0
    have k1 : (s.toList == [90, 69, 82, 79, 83]) = false := by rw [ByteArray.toList_eq]; simpa using h1
    have k2 : (s.toList == [90, 69, 82, 79, 69, 83]) = false := by rw [ByteArray.toList_eq]; simpa using h2
    have k3 : (s.toList == [83, 80, 65, 67, 69]) = false := by rw [ByteArray.toList_eq]; simpa using h3
    have k4 : (s.toList == [83, 80, 65, 67, 69, 83]) = false := by rw [ByteArray.toList_eq]; simpa using h4
    have k5 : (s.toList == [72, 73, 71, 72, 45, 86, 65, 76, 85, 69]) = false := by rw [ByteArray.toList_eq]; simpa using h5
    clear hN hB h0 h1 h2 h3 h4 h5 h6
    go_enter Tryd.func43, Tryd.ntmps43
    go_wp2_with fail
    go_ret2
    exact ⟨by rw [HN.out, HB.out]; rfl, rfl⟩
  by_cases h7 : (s.data.toList == [76, 79, 87, 45, 86, 65, 76, 85, 69]) = true
  · have HN : Hid (N = 0) := by unfold Hid; rw [hN, beq_iff_eq.1 h7]; rfl
    have HB : Hid (B = true) := by unfold Hid; rw [hB, beq_iff_eq.1 h7]; rfl
    have hs : (s.toList == [76, 79, 87, 45, 86, 65, 76, 85, 69]) = true := by rw [ByteArray.toList_eq]; exact h7
    have k0 : (s.toList == [90, 69, 82, 79]) = false := by rw [ByteArray.toList_eq]; simpa using h0
    have k1 : (s.toList == [90, 69, 82, 79, 83]) = false := by rw [ByteArray.toList_eq]; simpa using h1
    have k2 : (s.toList == [90, 69, 82, 79, 69, 83]) = false := by rw [ByteArray.toList_eq]; simpa using h2
    have k3 : (s.toList == [83, 80, 65, 67, 69]) = false := by rw [ByteArray.toList_eq]; simpa using h3
    have k4 : (s.toList == [83, 80, 65, 67, 69, 83]) = false := by rw [ByteArray.toList_eq]; simpa using h4
    have k5 : (s.toList == [72, 73, 71, 72, 45, 86, 65, 76, 85, 69]) = false := by rw [ByteArray.toList_eq]; simpa using h5
    have k6 : (s.toList == [72, 73, 71, 72, 45, 86, 65, 76, 85, 69, 83]) = false := by rw [ByteArray.toList_eq]; simpa using h6
    clear hN hB h0 h1 h2 h3 h4 h5 h6 h7
    go_enter Tryd.func43, Tryd.ntmps43
    go_wp2_with fail
    go_ret2
    exact ⟨by rw [HN.out, HB.out]; rfl, rfl⟩
  by_cases h8 : (s.data.toList == [76, 79, 87, 45, 86, 65, 76, 85, 69, 83]) = true
  · have HN : Hid (N = 0) := by unfold Hid; rw [hN, beq_iff_eq.1 h8]; rfl
    have HB : Hid (B = true) := by unfold Hid; rw [hB, beq_iff_eq.1 h8]; rfl
    have hs : (s.toList == [76, 79, 87, 45, 86, 65, 76, 85, 69, 83]) = true := by rw [ByteArray.toList_eq]; exact h8
    have k0 : (s.toList == [90, 69, 82, 79]) = false := by rw [ByteArray.toList_eq]; simpa using h0
    have k1 : (s.toList == [90, 69, 82, 79, 83]) = false := by rw [ByteArray.toList_eq]; simpa using h1
    have k2 : (s.toList == [90, 69, 82, 79, 69, 83]) = false := by rw [ByteArray.toList_eq]; simpa using h2
    have k3 : (s.toList == [83, 80, 65, 67, 69]) = false := by rw [ByteArray.toList_eq]; simpa using h3
    have k4 : (s.toList == [83, 80, 65, 67, 69, 83]) = false := by rw [ByteArray.toList_eq]; simpa using h4
    have k5 : (s.toList == [72, 73, 71, 72, 45, 86, 65, 76, 85, 69]) = false := by rw [ByteArray.toList_eq]; simpa using h5
    have k6 : (s.toList == [72, 73, 71, 72, 45, 86, 65, 76, 85, 69, 83]) = false := by rw [ByteArray.toList_eq]; simpa using h6
    have k7 : (s.toList == [76, 79, 87, 45, 86, 65, 76, 85, 69]) = false := by rw [ByteArray.toList_eq]; simpa using h7
    clear hN hB h0 h1 h2 h3 h4 h5 h6 h7 h8
    go_enter Tryd.func43, Tryd.ntmps43
    go_wp2_with fail
    go_ret2
    exact ⟨by rw [HN.out, HB.out]; rfl, rfl⟩
  by_cases h9 : (s.data.toList == [81, 85, 79, 84, 69]) = true
  · have HN : Hid (N = 34) := by unfold Hid; rw [hN, beq_iff_eq.1 h9]; rfl
    have HB : Hid (B = true) := by unfold Hid; rw [hB, beq_iff_eq.1 h9]; rfl
    have hs : (s.toList == [81, 85, 79, 84, 69]) = true := by rw [ByteArray.toList_eq]; exact h9
    have k0 : (s.toList == [90, 69, 82, 79]) = false := by rw [ByteArray.toList_eq]; simpa using h0
    have k1 : (s.toList == [90, 69, 82, 79, 83]) = false := by rw [ByteArray.toList_eq]; simpa using h1
    have k2 : (s.toList == [90, 69, 82, 79, 69, 83]) = false := by rw [ByteArray.toList_eq]; simpa using h2
    have k3 : (s.toList == [83, 80, 65, 67, 69]) = false := by rw [ByteArray.toList_eq]; simpa using h3
    have k4 : (s.toList == [83, 80, 65, 67, 69, 83]) = false := by rw [ByteArray.toList_eq]; simpa using h4
    have k5 : (s.toList == [72, 73, 71, 72, 45, 86, 65, 76, 85, 69]) = false := by rw [ByteArray.toList_eq]; simpa using h5
    have k6 : (s.toList == [72, 73, 71, 72, 45, 86, 65, 76, 85, 69, 83]) = false := by rw [ByteArray.toList_eq]; simpa using h6
    have k7 : (s.toList == [76, 79, 87, 45, 86, 65, 76, 85, 69]) = false := by rw [ByteArray.toList_eq]; simpa using h7
    have k8 : (s.toList == [76, 79, 87, 45, 86, 65, 76, 85, 69, 83]) = false := by rw [ByteArray.toList_eq]; simpa using h8
    clear hN hB h0 h1 h2 h3 h4 h5 h6 h7 h8 h9
    go_enter Tryd.func43, Tryd.ntmps43
    go_wp2_with fail
    go_ret2
    exact ⟨by rw [HN.out, HB.out]; rfl, rfl⟩
  by_cases h10 : (s.data.toList == [81, 85, 79, 84, 69, 83]) = true
  · have HN : Hid (N = 34) := by unfold Hid; rw [hN, beq_iff_eq.1 h10]; rfl
    have HB : Hid (B = true) := by unfold Hid; rw [hB, beq_iff_eq.1 h10]; rfl
    have hs : (s.toList == [81, 85, 79, 84, 69, 83]) = true := by rw [ByteArray.toList_eq]; exact h10
    have k0 : (s.toList == [90, 69, 82, 79]) = false := by rw [ByteArray.toList_eq]; simpa using h0
    have k1 : (s.toList == [90, 69, 82, 79, 83]) = false := by rw [ByteArray.toList_eq]; simpa using h1
    have k2 : (s.toList == [90, 69, 82, 79, 69, 83]) = false := by rw [ByteArray.toList_eq]; simpa using h2
    have k3 : (s.toList == [83, 80, 65, 67, 69]) = false := by rw [ByteArray.toList_eq]; simpa using h3
    have k4 : (s.toList == [83, 80, 65, 67, 69, 83]) = false := by rw [ByteArray.toList_eq]; simpa using h4
    have k5 : (s.toList == [72, 73, 71, 72, 45, 86, 65, 76, 85, 69]) = false := by rw [ByteArray.toList_eq]; simpa using h5
    have k6 : (s.toList == [72, 73, 71, 72, 45, 86, 65, 76, 85, 69, 83]) = false := by rw [ByteArray.toList_eq]; simpa using h6
    have k7 : (s.toList == [76, 79, 87, 45, 86, 65, 76, 85, 69]) = false := by rw [ByteArray.toList_eq]; simpa using h7
    have k8 : (s.toList == [76, 79, 87, 45, 86, 65, 76, 85, 69, 83]) = false := by rw [ByteArray.toList_eq]; simpa using h8
    have k9 : (s.toList == [81, 85, 79, 84, 69]) = false := by rw [ByteArray.toList_eq]; simpa using h9
    clear hN hB h0 h1 h2 h3 h4 h5 h6 h7 h8 h9 h10
    go_enter Tryd.func43, Tryd.ntmps43
    go_wp2_with fail
    go_ret2
    exact ⟨by rw [HN.out, HB.out]; rfl, rfl⟩
  have hn := byteL_none s.data.toList (by simpa using h0) (by simpa using h1) (by simpa using h2) (by simpa using h3) (by simpa using h4) (by simpa using h5) (by simpa using h6) (by simpa using h7) (by simpa using h8) (by simpa using h9) (by simpa using h10)
  have HN : Hid (N = 0) := by unfold Hid; rw [hN, hn]; rfl
  have HB : Hid (B = false) := by unfold Hid; rw [hB, hn]; rfl
  have k0 : (s.toList == [90, 69, 82, 79]) = false := by rw [ByteArray.toList_eq]; simpa using h0
  have k1 : (s.toList == [90, 69, 82, 79, 83]) = false := by rw [ByteArray.toList_eq]; simpa using h1
  have k2 : (s.toList == [90, 69, 82, 79, 69, 83]) = false := by rw [ByteArray.toList_eq]; simpa using h2
  have k3 : (s.toList == [83, 80, 65, 67, 69]) = false := by rw [ByteArray.toList_eq]; simpa using h3
  have k4 : (s.toList == [83, 80, 65, 67, 69, 83]) = false := by rw [ByteArray.toList_eq]; simpa using h4
  have k5 : (s.toList == [72, 73, 71, 72, 45, 86, 65, 76, 85, 69]) = false := by rw [ByteArray.toList_eq]; simpa using h5
  have k6 : (s.toList == [72, 73, 71, 72, 45, 86, 65, 76, 85, 69, 83]) = false := by rw [ByteArray.toList_eq]; simpa using h6
  have k7 : (s.toList == [76, 79, 87, 45, 86, 65, 76, 85, 69]) = false := by rw [ByteArray.toList_eq]; simpa using h7
  have k8 : (s.toList == [76, 79, 87, 45, 86, 65, 76, 85, 69, 83]) = false := by rw [ByteArray.toList_eq]; simpa using h8
  have k9 : (s.toList == [81, 85, 79, 84, 69]) = false := by rw [ByteArray.toList_eq]; simpa using h9
  have k10 : (s.toList == [81, 85, 79, 84, 69, 83]) = false := by rw [ByteArray.toList_eq]; simpa using h10
  clear hN hB hn h0 h1 h2 h3 h4 h5 h6 h7 h8 h9 h10
  go_enter Tryd.func43, Tryd.ntmps43
  go_wp2_with fail
  go_ret2
  exact ⟨by rw [HN.out, HB.out]; rfl, rfl⟩
end Go.Proofs.YthdggnkpncoikaaDoor
