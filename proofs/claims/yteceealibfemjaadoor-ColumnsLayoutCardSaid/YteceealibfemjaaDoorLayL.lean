/-
  THE WALK of the law ColumnsLayout (layer 2, columns): its ends without Write. What lacks: two texts that are right (Write at two lines).
-/
import Derived.Test.YteceealibfemjaaDoorWrtQ
import Derived.Test.YteceealibfemjaaDoorLayP
import Derived.Test.YteceealibfemjaaDoorLvs
import Derived.Test.YteceealibfemjaaDoorLawR
import Derived.Test.YteceealibfemjaaDoorLawF
namespace Go.Proofs.YteceealibfemjaaDoor
open Go.RowKit Go.Shelf

set_option maxHeartbeats 4000000 in
set_option maxRecDepth 100000 in
/-- a text that is too long for the law, or not right -/
theorem LayLaw_far (s t : ByteArray) (left : Bool) (w : World) (hs : s.size ≤ maxLen) (ht : t.size ≤ maxLen) (h : 400 < s.size ∨ 400 < t.size) (htab : Lib.TabIs Tryd.prog w "internal/strconv.uint64pow10" .u64 Lib.pow10Tab) :
    Calls Tryd.prog 3 #[.string s, .string t, .bool left] w fun e w' => e = .returned (.bool true) ∧ Below w.heap.size w w' := by
  unfold maxLen at hs ht
  have hL := hide (lives_c w htab)
  clear htab
  by_cases h1 : 400 < s.size
  · clear h
    go_enter Tryd.func3, Tryd.ntmps3
    go_wp2_with fail
    refine hL.out.mono ?_
    rintro e w1 ⟨rfl, hb1⟩
    go_wp2_with fail
    go_ret
    exact ⟨rfl, hb1⟩
  · have h2 : 400 < t.size := by omega
    clear h
    go_enter Tryd.func3, Tryd.ntmps3
    go_wp2_with fail
    refine hL.out.mono ?_
    rintro e w1 ⟨rfl, hb1⟩
    go_wp2_with fail
    go_ret
    exact ⟨rfl, hb1⟩
set_option maxHeartbeats 4000000 in
set_option maxRecDepth 100000 in
theorem LayLaw_bad (s t : ByteArray) (left : Bool) (w : World) (hs : s.size ≤ 400) (ht : t.size ≤ 400) (hr : rightL s.data.toList = false ∨ rightL t.data.toList = false) (htab : Lib.TabIs Tryd.prog w "internal/strconv.uint64pow10" .u64 Lib.pow10Tab) :
    Calls Tryd.prog 3 #[.string s, .string t, .bool left] w fun e w' => e = .returned (.bool true) ∧ Below w.heap.size w w' := by
  have hL : Hid (∀ w1, Below w.heap.size w w1 → Calls Tryd.prog 5 #[] w1 fun e w' => e = .returned (.bool true) ∧ Below w1.heap.size w1 w') := fun w1 hb => lives_c w1 (tab_below htab hb)
  have hR1 : Hid (∀ w1, Calls Tryd.prog 4 #[.string s] w1 fun e w' => e = .returned (.bool (rightL s.data.toList)) ∧ Below w1.heap.size w1 w') := fun w1 => right_c s w1 (by omega)
  have hR2 : Hid (∀ w1, Calls Tryd.prog 4 #[.string t] w1 fun e w' => e = .returned (.bool (rightL t.data.toList)) ∧ Below w1.heap.size w1 w') := fun w1 => right_c t w1 (by omega)
  clear htab
  cases h1 : rightL s.data.toList
  · rw [h1] at hR1
    clear hr h1
    go_enter Tryd.func3, Tryd.ntmps3
    go_wp2_with fail
    refine (hR1.out _).mono ?_
    rintro e w1 ⟨rfl, hb1⟩
    have HB1 := hide hb1
    clear hb1
    go_wp2_with fail
    refine (hL.out _ HB1.out).mono ?_
    rintro e w2 ⟨rfl, hb2⟩
    have HB2 := hide (HB1.out.trans (hb2.mono HB1.out.size))
    clear hb2
    go_wp2_with fail
    go_ret
    exact ⟨rfl, HB2.out⟩
  · have h2 : rightL t.data.toList = false := by
      rcases hr with h | h
      · rw [h1] at h; cases h
      · exact h
    rw [h1] at hR1
    rw [h2] at hR2
    clear hr h1 h2
    go_enter Tryd.func3, Tryd.ntmps3
    go_wp2_with fail
    refine (hR1.out _).mono ?_
    rintro e w1 ⟨rfl, hb1⟩
    have HB1 := hide hb1
    clear hb1
    go_wp2_with fail
    refine (hR2.out _).mono ?_
    rintro e w2 ⟨rfl, hb2⟩
    have HB2 := hide (HB1.out.trans (hb2.mono HB1.out.size))
    clear hb2
    go_wp2_with fail
    refine (hL.out _ HB2.out).mono ?_
    rintro e w3 ⟨rfl, hb3⟩
    have HB3 := hide (HB2.out.trans (hb3.mono HB2.out.size))
    clear hb3
    go_wp2_with fail
    go_ret
    exact ⟨rfl, HB3.out⟩
end Go.Proofs.YteceealibfemjaaDoor
