/-
  CONTRACTS of the laws' functions that call package strings (layer 2, columns): spaces; it imports the shelf's contracts as laid at the seat (wip/tools/shelf.sh writes them).
-/
import Derived.Test.YteceealibfemjaaDoorPart
import Derived.Test.YteceealibfemjaaDoorShelf
namespace Go.Proofs.YteceealibfemjaaDoor
open Go.RowKit

set_option maxHeartbeats 400000 in
theorem spaces_c (n : Nat) (w : World) (hn : n ≤ 100000) :
    Calls Tryd.prog 7 #[.int .i64 (n : Int)] w fun e w' => e = .returned (.string (mk (List.replicate n 32))) ∧ Below w.heap.size w w' := by
  go_enter Tryd.func7, Tryd.ntmps7
  go_wp2_with fail
  refine (Tryd.strings_Repeat ⟨#[32]⟩ n _ (by omega) (by show 1 * n ≤ _; omega)).mono ?_
  rintro e w' ⟨rfl, hb⟩
  go_wp2_with fail
  go_ret
  exact ⟨by rw [← repeat_one]; rfl, hb⟩
end Go.Proofs.YteceealibfemjaaDoor
