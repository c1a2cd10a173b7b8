/-
  THE CONTRACT of Write at one line (layer 2, columns).
-/
import Derived.Test.YteceealibfemjaaDoorDvd
import Derived.Handy
import Derived.Outline
import Derived.WalkMore
namespace Go.Proofs.YteceealibfemjaaDoor
open Go.RowKit Go.Shelf
attribute [local go_sem] Oper.semAt_some

set_option maxHeartbeats 2000000 in
set_option maxRecDepth 100000 in
theorem Write_bad (left : Bool) (s : ByteArray) (b off c : Nat) (w : World) (hs : s.size ≤ 2000000) (hc0 : w.cell? ⟨b, off, none⟩ = some (.bool left)) (hc1 : w.cell? ⟨b, off + 1, none⟩ = some (.string s)) (hb : b < w.heap.size) (hbad : rightL s.data.toList = false) :
    Calls Tryd.prog 6 #[.slice (some ⟨b, off, none⟩) 1 c] w fun e w' => e = .returned (.tuple #[.string ⟨#[]⟩, .int .i64 1]) ∧ Below w.heap.size w w' := by
  have hW := hide (fun (w1 : World) => writable_c s w1 hs)
  rw [hbad] at hW
  refine (callsIn_wide (n := 10)).1 (callsIn_of_wp_marks Tryd.func6 rfl trivial ?_ rfl)
  simp only [Tryd.ntmps6, List.size_toArray, List.length_cons, List.length_nil, Nat.reduceAdd, Nat.reduceSub, Array.replicate_succ, Array.replicate_zero, List.push_toArray, List.append_toArray, List.nil_append, List.cons_append]
  refine wpIn_wide.2 ?_
  go_wp2_with fail
  refine wp_loop_rounds 2 ?_
  rw [rounds_succ]
  go_wp2_with fail
  refine (hW.out _).mono ?_
  rintro e w1 ⟨rfl, hb1⟩
  have hA := (Blk.alloc (Blk.alloc (blk_new w #[.string ⟨#[]⟩] 9) (.cells #[.int .i64 0] 24)) (.cells #[.bool left, .string s] 28))
  have hB := Blk.alloc (blk_new (w.alloc (.cells #[.string ⟨#[]⟩] 9)) #[.int .i64 0] 24) (.cells #[.bool left, .string s] 28)
  rw [World.size_alloc] at hB
  have hA1 := blk_kept hb1 hA
  have hB1 := blk_kept hb1 hB
  have a0 := hA1.cell 0
  have a1 := hA1.free 0
  have b0 := hB1.cell 0
  have b1 := hB1.free 0
  have hB3 := (((Below.refl _ w).alloc (Nat.le_refl _) (.cells #[.string ⟨#[]⟩] 9)).alloc (by simp) (.cells #[.int .i64 0] 24)).alloc (by simp; omega) (.cells #[.bool left, .string s] 28)
  have HB := hide (hB3.trans (hb1.mono hB3.size))
  clear hB3
  clear hA hB hA1 hB1 hb1
  go_wp2_with fail
  refine ⟨.tuple #[.string ⟨#[]⟩, .int .i64 1], by simp [results, Tryd.results6, go_sem, a0, b0], rfl, ?_⟩
  exact (HB.out.setCell (p := ⟨w.heap.size, 0, none⟩) (Nat.le_refl _) _).setCell (p := ⟨w.heap.size + 1, 0, none⟩) (by simp) _
end Go.Proofs.YteceealibfemjaaDoor
