/-
  WHAT THE ROWS' LIST OF TABLES GIVES (the tokens' rows that list two tables): a world that holds them.
-/
import Derived.Test.YtghnffdjdjlomaaGreatDoorRows
import Derived.Test.YtghnffdjdjlomaaGreatDoorTie
import Derived.Test.YtghnffdjdjlomaaGreatDoorMaxT
import Derived.Test.YtghnffdjdjlomaaGreatDoorShelf
import Derived.ProofKit
import Derived.OpenShut
import Derived.LaidMore
import Derived.Lay
import Derived.Lib.LaidTab
import Derived.Deep.DeepHandedRow
import Derived.SevenTiedAt
import Derived.Stop.Joined
namespace Go.Proofs.YtghnffdjdjlomaaGreatDoor
open Go.ChangeShapes Go.WideShapes Go.ChangeAt Go.RowKit

/-- what the rows list -/
noncomputable def laidT : List (String × DataW Unit) := [("unicode/utf8.acceptRanges", Rows.laid_unicode_utf8_acceptRanges), ("unicode/utf8.first", Rows.laid_unicode_utf8_first)]
theorem ownT : ownKnob Tryz.prog.godebug = none := by kernel_rfl
theorem maxIT {W : World} (h : W.ShapedOpen Tryz.prog) : MaxI W := Tryz.laysM143.s1_3 W h
theorem laidT_witness (os : Os) (args : Array Value) : laidMetH Tryz.prog laidT ((World.laidAll Tryz.prog os laidT).forCall (fun _ _ => 0) ⟨#[], args, []⟩).memory := by
  rw [MakeChecks.laidMetH_plain _ _ _ (by kernel_rfl)]
  exact laidMet_laidAll _ (by kernel_rfl) (by kernel_rfl)
theorem shapedT_witness (os : Os) : (World.laidAll Tryz.prog os laidT).Shaped Tryz.prog := World.shaped_of_ZipB (by kernel_rfl) (by kernel_rfl)
end Go.Proofs.YtghnffdjdjlomaaGreatDoor
