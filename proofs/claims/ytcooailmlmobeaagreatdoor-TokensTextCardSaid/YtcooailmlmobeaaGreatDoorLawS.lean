/-
  CONTRACTS of the laws' functions that call package strings (layer 2, columns): spaces; it imports the shelf's contracts as laid at the seat (wip/tools/shelf.sh writes them).
-/
import Derived.Test.YtcooailmlmobeaaGreatDoorPart
import Derived.Test.YtcooailmlmobeaaGreatDoorShelf
namespace Go.Proofs.YtcooailmlmobeaaGreatDoor
open Go.RowKit

set_option maxHeartbeats 400000 in
theorem spaces_c (n : Nat) (w : World) (hn : n ≤ 100000) :
    Calls Tryz.prog 31 #[.int .i64 (n : Int)] w fun e w' => e = .returned (.string (mk (List.replicate n 32))) ∧ Below w.heap.size w w' := by
  go_enter Tryz.func31, Tryz.ntmps31
  go_wp2_with fail
  refine (Tryz.strings_Repeat ⟨#[32]⟩ n _ (by omega) (by show 1 * n ≤ _; omega)).mono ?_
  rintro e w' ⟨rfl, hb⟩
  go_wp2_with fail
  go_ret
  exact ⟨by rw [← repeat_one]; rfl, hb⟩
end Go.Proofs.YtcooailmlmobeaaGreatDoor
