/-
  CONTRACTS of what Write calls (layer 2, columns): writable, follow, division, digits.
-/
import Derived.Test.YteceealibfemjaaDoorLawS
namespace Go.Proofs.YteceealibfemjaaDoor
open Go.RowKit Go.Shelf

theorem badN_good (l : List UInt8) : decide (badN l = l.length) = goodL l := by
  unfold badN goodL
  rw [Bool.eq_iff_iff, decide_eq_true_iff]
  constructor
  · intro h
    rw [Bool.not_eq_true', List.any_eq_false]
    intro x hx hb
    have := List.findIdx_lt_length_of_exists ⟨x, hx, hb⟩
    omega
  · intro h
    rw [Bool.not_eq_true', List.any_eq_false] at h
    rcases Nat.lt_or_ge (l.findIdx badC) l.length with h1 | h1
    · exact absurd (List.findIdx_getElem (w := h1)) (h _ (List.getElem_mem h1))
    · have := List.findIdx_le_length (p := badC) (xs := l); omega

set_option maxHeartbeats 1000000 in
set_option maxRecDepth 100000 in
theorem writable_c (s : ByteArray) (w : World) (hs : s.size ≤ 2000000) :
    Calls Tryd.prog 14 #[.string s] w fun e w' => e = .returned (.bool (rightL s.data.toList)) ∧ Below w.heap.size w w' := by
  have hR0 : Hid (rightL s.data.toList = (goodL s.data.toList && (decide (0 < s.size) && (!(s.data.toList.getD 0 0 == 32) && (!(s.data.toList.getD (s.size - 1) 0 == 32) && !openL s.data.toList))))) := by
    unfold Hid rightL; rw [badN_good, len_data]
  by_cases h0 : 0 < s.size
  · have he : s.toList.isEmpty = false := by rw [ByteArray.toList_eq, ← Bool.not_eq_true, List.isEmpty_iff_length_eq_zero, len_data]; omega
    have g0 := hide (getD_at s 0 h0)
    have g1 := hide (getD_at s (s.size - 1) (by omega))
    by_cases hf : (s[0]'h0).toNat = 32
    · have ef : (((s[0]'h0).toNat : Int) == 32) = true := by rw [beq_iff_eq]; omega
      have hR : Hid (rightL s.data.toList = false) := by
        unfold Hid; rw [hR0.out, g0.out, show (s[0]'h0) = 32 from UInt8.toNat_inj.1 hf]; simp
      clear hf
      go_enter Tryd.func14, Tryd.ntmps14
      go_wp2_with fail
      go_ret
      exact ⟨by rw [hR.out]; rfl, Below.refl _ _⟩
    · have ef : (((s[0]'h0).toNat : Int) == 32) = false := by rw [beq_eq_false_iff_ne]; omega
      have bf : Hid (((s[0]'h0) == 32) = false) := by unfold Hid; rw [beq_eq_false_iff_ne]; exact fun e => hf (by rw [e]; rfl)
      by_cases hz : (s[s.size - 1]'(by omega)).toNat = 32
      · have ez : (((s[s.size - 1]'(by omega)).toNat : Int) == 32) = true := by rw [beq_iff_eq]; omega
        have hR : Hid (rightL s.data.toList = false) := by
          unfold Hid; rw [hR0.out, g1.out, show (s[s.size - 1]'(by omega)) = 32 from UInt8.toNat_inj.1 hz]; simp
        clear hf hz
        go_enter Tryd.func14, Tryd.ntmps14
        go_wp2_with fail
        go_ret
        exact ⟨by rw [hR.out]; rfl, Below.refl _ _⟩
      · have ez : (((s[s.size - 1]'(by omega)).toNat : Int) == 32) = false := by rw [beq_eq_false_iff_ne]; omega
        have bz : Hid (((s[s.size - 1]'(by omega)) == 32) = false) := by unfold Hid; rw [beq_eq_false_iff_ne]; exact fun e => hz (by rw [e]; rfl)
        have hR : Hid (rightL s.data.toList = (goodL s.data.toList && !openL s.data.toList)) := by
          unfold Hid; rw [hR0.out, g0.out, g1.out, bf.out, bz.out, decide_eq_true h0]; rfl
        have hP := hide (fun (w1 : World) => Printable_c s w1 hs)
        clear hf hz hR0 g0 g1 bf bz
        cases hg : goodL s.data.toList
        · rw [hg] at hR hP
          go_enter Tryd.func14, Tryd.ntmps14
          go_wp2_with fail
          refine (hP.out _).mono ?_
          rintro e w1 ⟨rfl, rfl⟩
          go_wp2_with fail
          go_ret
          exact ⟨by rw [hR.out]; rfl, Below.refl _ _⟩
        · rw [hg] at hR hP
          go_enter Tryd.func14, Tryd.ntmps14
          go_wp2_with fail
          refine (hP.out _).mono ?_
          rintro e w1 ⟨rfl, rfl⟩
          go_wp2_with fail
          refine (quotes_c false _).mono ?_
          rintro e w1 ⟨rfl, rfl⟩
          go_wp2_with fail
          refine (count_c s w.heap.size false _ (Boxed.new w 4 (.bool false)) hs).mono ?_
          rintro e w1 ⟨rfl, -, hm⟩
          go_wp2_with fail
          go_ret
          exact ⟨ret_bool (by rw [hR.out]; cases openL s.data.toList <;> rfl), ((Below.refl _ w).alloc (Nat.le_refl _) _).trans (hm.toBelow (by simp) (by omega))⟩
  · have hR : Hid (rightL s.data.toList = false) := by unfold Hid; rw [hR0.out, decide_eq_false h0]; simp
    have he : s.toList.isEmpty = true := by rw [ByteArray.toList_eq, List.isEmpty_iff_length_eq_zero, len_data]; omega
    go_enter Tryd.func14, Tryd.ntmps14
    go_wp2_with fail
    go_ret
    exact ⟨by rw [hR.out]; rfl, Below.refl _ _⟩

/-- what stands in front of the rest in the next line, and the rest -/
def followL (r : List UInt8) (op : Bool) : List UInt8 × List UInt8 :=
  if op then ([45, 32, 32, 32, 32, 34], r) else if r.getD 0 0 = 32 then ([32, 32, 32, 32, 32], Lib.trimLeftB r 32) else ([45, 32, 32, 32, 32], r)
set_option maxHeartbeats 400000 in
theorem follow_c (s : ByteArray) (op : Bool) (w : World) (h0 : 0 < s.size) (_hs : s.size ≤ 2000000) :
    Calls Tryd.prog 34 #[.string s, .bool op] w fun e w' => e = .returned (.tuple #[.string (mk (followL s.data.toList op).1), .string (mk (followL s.data.toList op).2)]) ∧ w = w' := by
  have g0 := hide (getD_at s 0 h0)
  have hT := hide (fun (w1 : World) => Tryd.strings_TrimLeft_one s 32 (by decide) w1)
  cases op
  · by_cases hf : (s[0]'h0).toNat = 32
    · have ef : (((s[0]'h0).toNat : Int) == 32) = true := by rw [beq_iff_eq]; omega
      have hF : Hid (followL s.data.toList false = ([32, 32, 32, 32, 32], Lib.trimLeftB s.data.toList 32)) := by
        unfold Hid followL; rw [if_neg (by decide), if_pos (by rw [g0.out]; exact UInt8.toNat_inj.1 hf)]
      clear hf
      go_enter Tryd.func34, Tryd.ntmps34
      go_wp2_with fail
      refine (hT.out _).mono ?_
      rintro e w1 ⟨rfl, rfl⟩
      go_wp2_with fail
      go_ret2
      exact ⟨by rw [hF.out]; rfl, rfl⟩
    · have ef : (((s[0]'h0).toNat : Int) == 32) = false := by rw [beq_eq_false_iff_ne]; omega
      have hF : Hid (followL s.data.toList false = ([45, 32, 32, 32, 32], s.data.toList)) := by
        unfold Hid followL; rw [if_neg (by decide), if_neg (by rw [g0.out]; exact fun e => hf (by rw [e]; rfl))]
      clear hf
      go_enter Tryd.func34, Tryd.ntmps34
      go_wp2_with fail
      go_ret2
      exact ⟨by rw [hF.out]; rfl, rfl⟩
  · have hF : Hid (followL s.data.toList true = ([45, 32, 32, 32, 32, 34], s.data.toList)) := rfl
    go_enter Tryd.func34, Tryd.ntmps34
    go_wp2_with fail
    go_ret2
    exact ⟨by rw [hF.out]; rfl, rfl⟩
end Go.Proofs.YteceealibfemjaaDoor
