/-
  strings.Split AT THE BYTE 10 (layer 2, columns): the contract by splitNL.
-/
import Derived.Test.YtcooailmlmobeaaGreatDoorSplP
import Derived.Test.YtcooailmlmobeaaGreatDoorMaxT
import Derived.Lib.SplitLaws
namespace Go.Proofs.YtcooailmlmobeaaGreatDoor
open Go.RowKit Go.Shelf

/-- lines in memory -/
structure LinesAt (w : World) (b : Nat) (xs : List ByteArray) : Prop where
  blk : w.heap[b]? = some (.cells (xs.map Value.string).toArray 9 (0, 0))
theorem LinesAt.cell {w : World} {b : Nat} {xs : List ByteArray} (h : LinesAt w b xs) (j : Nat) (hj : j < xs.length) : w.cell? ⟨b, j, none⟩ = some (.string xs[j]) := by
  rw [Lib.cell_of_heap h.blk j]
  simp [hj]
theorem LinesAt.below {w w' : World} {b : Nat} {xs : List ByteArray} (h : LinesAt w b xs) (hb : Below w.heap.size w w') : LinesAt w' b xs := ⟨(hb.block b (lt_of_block h.blk)).trans h.blk⟩
theorem Split_nl (s : ByteArray) (w : World) (hs : s.size ≤ 2000000) (hm : MaxI w) :
    Calls Tryz.prog 24 #[.string s, .string ⟨#[10]⟩] w fun e w' => ∃ xs : List ByteArray, xs.map (·.data.toList) = splitNL s.data.toList ∧ e = .returned (.slice (some ⟨w.heap.size, 0, none⟩) xs.length xs.length) ∧ LinesAt w' w.heap.size xs ∧ Below w.heap.size w w' := by
  obtain ⟨m, hm⟩ := hm
  refine (Tryz.strings_Split s ⟨#[10]⟩ m w (by omega) hm (by decide)).mono ?_
  rintro e w' ⟨rfl, rfl⟩
  have hl : (Lib.splitB ⟨#[10]⟩ 0 (Lib.countB s ⟨#[10]⟩) s).length = Lib.countB s ⟨#[10]⟩ + 1 := Lib.splitB_all ⟨#[10]⟩ (by decide) 0 _ s rfl
  refine ⟨_, ?_, by rw [hl], ⟨heap_alloc_new w _⟩, (Below.refl _ w).alloc (Nat.le_refl _) _⟩
  rw [Lib.splitB_data]
  exact split_NL s.data.toList
end Go.Proofs.YtcooailmlmobeaaGreatDoor
