/-
  READ OF A TEXT THAT IS TOO LONG; both contracts of Read in one (layer 2, columns).
-/
import Derived.Test.YteceealibfemjaaDoorRea
namespace Go.Proofs.YteceealibfemjaaDoor
open Go.RowKit Go.Shelf
attribute [local go_sem] Oper.semAt_some

set_option maxHeartbeats 2000000 in
set_option maxRecDepth 100000 in
theorem Read_big (s : ByteArray) (debug : Bool) (w : World) (hs : 1048576 < s.size) (hs2 : s.size ≤ 100000000) :
    Calls Tryd.prog 28 #[.string s, .bool debug] w fun e w' => e = .returned (.tuple #[.slice none 0 0, fault (3, 0, 0)]) ∧ Below w.heap.size w w' := by
  refine (callsIn_wide (n := 10)).1 (callsIn_of_wp_marks Tryd.func28 rfl trivial ?_ rfl)
  simp only [Tryd.ntmps28, List.size_toArray, List.length_cons, List.length_nil, Nat.reduceAdd, Nat.reduceSub, Array.replicate_succ, Array.replicate_zero, List.push_toArray, List.append_toArray, List.nil_append, List.cons_append]
  refine wpIn_wide.2 ?_
  have hlt : (1048576 : Int) < (s.size : Int) := by omega
  go_wp2_with fail
  go_step3
  go_wp2_with fail
  refine ⟨.tuple #[.slice none 0 0, .agg #[.int .i64 3, .int .i64 0, .int .i64 0]], by simp [results, Tryd.results28, go_sem], rfl, ?_⟩
  exact ((Below.refl _ w).alloc (Nat.le_refl _) _).alloc (by simp) _
end Go.Proofs.YteceealibfemjaaDoor
