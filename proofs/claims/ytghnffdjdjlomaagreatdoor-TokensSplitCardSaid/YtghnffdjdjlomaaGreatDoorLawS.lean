/-
  CONTRACTS of the laws' functions that call package strings (layer 2, columns): spaces; it imports the shelf's contracts as laid at the seat (wip/tools/shelf.sh writes them).
-/
import Derived.Test.YtghnffdjdjlomaaGreatDoorPart
import Derived.Test.YtghnffdjdjlomaaGreatDoorShelf
namespace Go.Proofs.YtghnffdjdjlomaaGreatDoor
open Go.RowKit

set_option maxHeartbeats 400000 in
theorem spaces_c (n : Nat) (w : World) (hn : n ≤ 100000) :
    Calls Tryz.prog 27 #[.int .i64 (n : Int)] w fun e w' => e = .returned (.string (mk (List.replicate n 32))) ∧ Below w.heap.size w w' := by
  go_enter Tryz.func27, Tryz.ntmps27
  go_wp2_with fail
  refine (Tryz.strings_Repeat ⟨#[32]⟩ n _ (by omega) (by show 1 * n ≤ _; omega)).mono ?_
  rintro e w' ⟨rfl, hb⟩
  go_wp2_with fail
  go_ret
  exact ⟨by rw [← repeat_one]; rfl, hb⟩
end Go.Proofs.YtghnffdjdjlomaaGreatDoor
