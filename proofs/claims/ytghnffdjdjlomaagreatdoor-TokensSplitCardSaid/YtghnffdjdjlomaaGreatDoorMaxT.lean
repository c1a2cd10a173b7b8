/-
  WHAT A CALL OF strings.Index AND ITS LIKE ASKS OF THE WORLD: internal/bytealg.MaxLen holds a number.
-/
import Derived.Test.YtghnffdjdjlomaaGreatDoorBase
import Derived.Test.YtghnffdjdjlomaaGreatDoorFrame
namespace Go.Proofs.YtghnffdjdjlomaaGreatDoor
open Go.RowKit

theorem mk_size (l : List UInt8) : (mk l).size = l.length := by
  show l.toArray.size = _
  rw [List.size_toArray]
/-- the variable internal/bytealg.MaxLen holds a number -/
def MaxI (w : World) : Prop := ∃ m : Int, w.cell? ⟨0, 0, none⟩ = some (.int .i64 m)
theorem MaxI.below {w w' : World} (h : MaxI w) (hb : Below w.heap.size w w') : MaxI w' := by
  obtain ⟨m, hm⟩ := h
  refine ⟨m, ?_⟩
  have hlt : 0 < w.heap.size := by
    rcases Nat.lt_or_ge 0 w.heap.size with h | h
    · exact h
    · exfalso
      have : w.heap[0]? = none := Array.getElem?_eq_none h
      simp [World.cell?, this] at hm
  exact (World.cell?_of_block (hb.block _ hlt)).trans hm
end Go.Proofs.YtghnffdjdjlomaaGreatDoor
