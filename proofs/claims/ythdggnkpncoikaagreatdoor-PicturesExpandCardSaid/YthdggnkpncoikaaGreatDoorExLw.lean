/-
  THE LAW PicturesExpand (layer 6, pictures).
-/
import Derived.Test.YthdggnkpncoikaaGreatDoorLvP
import Derived.Test.YthdggnkpncoikaaGreatDoorRfE
namespace Go.Proofs.YthdggnkpncoikaaGreatDoor
open Go.RowKit Go.Shelf

def LawEnd (w : World) (e : Ending) (w' : World) : Prop := e = .returned (.bool true) ∧ Below w.heap.size w w'
set_option maxRecDepth 100000 in
theorem ExpLaw_far (s : ByteArray) (w : World) (hs : s.size ≤ maxLen) (he : EnvP w) (h : 300 < s.size) :
    Calls Tryz.prog 3 #[.string s] w (LawEnd w) := by
  unfold maxLen at hs
  have HL := hide (livesP_c w he)
  clear he
  go_enter Tryz.func3, Tryz.ntmps3
  go_wp2_with fail
  refine HL.out.mono ?_
  rintro e w' ⟨rfl, hb⟩
  go_wp2_with fail
  go_ret
  exact ⟨rfl, hb⟩
set_option maxRecDepth 100000 in
theorem ExpLaw_near (s : ByteArray) (w : World) (hs : s.size ≤ 300) (he : EnvP w) :
    Calls Tryz.prog 3 #[.string s] w (LawEnd w) := by
  have HLv : Hid (∀ W, Below w.heap.size w W → Calls Tryz.prog 7 #[] W fun e w' => e = .returned (.bool true) ∧ Below W.heap.size W w') := fun W hb => livesP_c W (he.below hb)
  obtain ⟨P, hP⟩ : ∃ P, P = mk (Pic.expL s.data.toList).1 := ⟨_, rfl⟩
  obtain ⟨E, hE⟩ : ∃ E, E = (Pic.expL s.data.toList).2 := ⟨_, rfl⟩
  have HX : Hid (∀ W, Below w.heap.size w W → Calls Tryz.prog 9 #[.string s] W fun e w' => e = .returned (.tuple #[.string P, .int .i64 E]) ∧ Below W.heap.size W w') := fun W hb => by
    have := Expand_c s W (by omega) (he.below hb)
    rw [← hP, ← hE] at this
    exact this
  have HR := hide (refExpand_c s w hs)
  rw [← hP, ← hE] at HR
  clear he hP hE
  go_enter Tryz.func3, Tryz.ntmps3
  go_wp2_with fail
  refine HR.out.mono ?_
  rintro e w1 ⟨rfl, hb1⟩
  have HB1 := hide hb1
  clear hb1
  go_wp2_with fail
  refine (HX.out w1 HB1.out).mono ?_
  rintro e w2 ⟨rfl, hb2⟩
  have HB2 : Hid (Below w.heap.size w w2) := HB1.out.trans (hb2.mono HB1.out.size)
  clear hb2
  go_wp2_with fail
  refine (HLv.out w2 HB2.out).mono ?_
  rintro e w3 ⟨rfl, hb3⟩
  go_wp2_with fail
  go_ret
  exact ⟨rfl, HB2.out.trans (hb3.mono HB2.out.size)⟩
theorem ExpLaw (s : ByteArray) (w : World) (hs : s.size ≤ maxLen) (he : EnvP w) :
    Calls Tryz.prog 3 #[.string s] w (LawEnd w) := by
  by_cases h : 300 < s.size
  · exact ExpLaw_far s w hs he h
  · exact ExpLaw_near s w (by omega) he
end Go.Proofs.YthdggnkpncoikaaGreatDoor
