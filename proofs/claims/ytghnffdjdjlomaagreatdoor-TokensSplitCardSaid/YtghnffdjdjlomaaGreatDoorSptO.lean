/-
  The capacity of a list of tokens that came in (layer 3, tokens).
-/
import Derived.Test.YtghnffdjdjlomaaGreatDoorTxtO
namespace Go.Proofs.YtghnffdjdjlomaaGreatDoor
open Go.ChangeShapes Go.WideShapes Go.ChangeAt Go.RowKit
section
variable {H : Type} {enc : TypeId × Value → H}
theorem cap_tokens {W : World} {A : Option Addr} {n cap : Nat} {d : DataW H} {p : List MemPlace} (h : DataW.Trod enc Tryz.prog W 0 (fun _ => true) true 36 (.slice A n cap) d p) : n ≤ cap ∧ cap ≤ maxLen := by
  obtain ⟨fuel, hf⟩ := h
  rcases Go.Deep.open_slice Tryz.underlying36 hf with ⟨e2, _⟩ | ⟨a, len, cap1, m, n2, D, Pl, e2, _, hl, hm, _⟩
  · simp [Value.cells] at e2
    obtain ⟨rfl, rfl, rfl⟩ := e2
    exact ⟨Nat.le_refl _, Nat.zero_le _⟩
  · simp [Value.cells] at e2
    obtain ⟨rfl, rfl, rfl⟩ := e2
    exact ⟨hl, hm⟩
end
end Go.Proofs.YtghnffdjdjlomaaGreatDoor
