/-
  READ OF NEWLINES ALONE (layer 2, columns): no card; too many: a fault.
-/
import Derived.Test.YtghgakdbfllbeaaDoorSplP
namespace Go.Proofs.YtghgakdbfllbeaaDoor
open Go.RowKit Go.Shelf

theorem chunks_nl (n : Nat) : (chunks (List.replicate n 10)).map stripL = List.replicate n [] := by
  induction n with
  | zero => rw [List.replicate_zero, chunks_nil]; rfl
  | succ n ih =>
    have e : List.replicate (n + 1) (10 : UInt8) = [] ++ 10 :: List.replicate n 10 := by rw [List.replicate_succ]; rfl
    have e1 : ([] ++ 10 :: List.replicate n (10 : UInt8)).take ([] : List UInt8).length.succ = [10] := by simp
    have e2 : ([] ++ 10 :: List.replicate n (10 : UInt8)).drop ([] : List UInt8).length.succ = List.replicate n 10 := by simp
    rw [e, chunks_cons _ (by simp), lineLen_nl [] _ (by simp), e1, e2, List.map_cons, ih, List.replicate_succ]
    rw [show ([10] : List UInt8) = [] ++ [10] from rfl, strip_nl]
theorem run_blanks (debug : Bool) (n : Nat) : ∀ (k : Nat) (st : RSt), runL debug st k (List.replicate n []) = .ok st := by
  induction n with
  | zero => intro k st; rfl
  | succ n ih => intro k st; rw [List.replicate_succ, runL, step_blank]; exact ih _ _
theorem read_nl (n : Nat) : readL false (List.replicate n 10) = .ok [] := by
  unfold readL; rw [chunks_nl, run_blanks]; rfl
theorem counts_blanks (n : Nat) : (List.replicate n ([] : List UInt8)).filter (countsL false) = [] := by
  have h : countsL false [] = false := by decide
  rw [List.filter_replicate, h]; rfl
theorem rep_data (n : Nat) : (mk (List.replicate n 10)).data.toList = List.replicate n 10 := rfl
theorem rep_size (n : Nat) : (mk (List.replicate n 10)).size = n := by
  show (List.replicate n (10 : UInt8)).toArray.size = n
  rw [List.size_toArray, List.length_replicate]
/-- Read of as many newlines as are allowed -/
theorem Read_nl (n : Nat) (w : World) (h : n ≤ 1048576) :
    Calls Tryd.prog 11 #[.string (mk (List.replicate n 10)), .bool false] w fun e w' => (∃ A, e = .returned (.tuple #[.slice A 0 0, .agg #[.int .i64 0, .int .i64 0, .int .i64 0]])) ∧ Below w.heap.size w w' := by
  have hr : readT false (mk (List.replicate n 10)).data.toList = .ok [] := by
    unfold readT; rw [rep_data, if_neg (by rw [List.length_replicate]; omega), read_nl]
  refine (Read_all (mk (List.replicate n 10)) false w (by rw [rep_size]; omega) (fun _ => by rw [rep_data, chunks_nl, counts_blanks]; decide)).mono fun e w' hp => ?_
  rw [hr] at hp
  obtain ⟨A, h1, _, _, h4⟩ := hp
  exact ⟨⟨A, h1⟩, h4⟩
theorem Read_nls (n : Nat) (w : World) (h : 1048576 < n) (h2 : n ≤ 2000000) :
    Calls Tryd.prog 11 #[.string (mk (List.replicate n 10)), .bool false] w fun e w' => e = .returned (.tuple #[.slice none 0 0, .agg #[.int .i64 3, .int .i64 0, .int .i64 0]]) ∧ Below w.heap.size w w' :=
  Read_big _ false w (by rw [rep_size]; exact h) (by rw [rep_size]; omega)
theorem Repeat_nl (n : Nat) (w : World) (hn : n ≤ 2000000) :
    Calls Tryd.prog 23 #[.string ⟨#[10]⟩, .int .i64 (n : Int)] w fun e w' => e = .returned (.string (mk (List.replicate n 10))) ∧ Below w.heap.size w w' := by
  refine (Tryd.strings_Repeat ⟨#[10]⟩ n _ (by omega) (by show 1 * n ≤ _; omega)).mono ?_
  rintro e w' ⟨rfl, hb⟩
  exact ⟨by rw [← repeat_one]; rfl, hb⟩
end Go.Proofs.YtghgakdbfllbeaaDoor
