/-
  CONTRACT of text (layer 5, words): the field of an alphanumeric literal.
-/
import Derived.Test.YthdggnkpncoikaaDoorRowW
import Derived.Test.YthdggnkpncoikaaDoorShelf
import Derived.Lib.Repeat
import Derived.RegionTactic
import Derived.BigRegion
import Derived.Deep.RegionWith
import Derived.Outline
namespace Go.Proofs.YthdggnkpncoikaaDoor
open Go.RowKit Go.Shelf

/-- a shape whose other fields are zero -/
def shapeV (c : Int) (pic : ByteArray) (d sc : Int) (sg : Bool) (n : Int) : List Value := [.int .u8 c, .int .u8 0, .string pic, .int .i64 d, .int .i64 sc, .bool sg, .bool false, .bool false, .bool false, .bool false, .int .i64 n]
def fieldV (c : Int) (pic : ByteArray) (d sc : Int) (sg : Bool) (n : Int) (b : Value) : Value := .agg (shapeV c pic d sc sg n ++ [b]).toArray
/-- the field that comes with an error -/
def fieldZ : Value := fieldV 0 ⟨#[]⟩ 0 0 false 0 (.slice none 0 0)
theorem repeatL_one (c : UInt8) (n : Nat) : Lib.repeatL [c] n = List.replicate n c := by
  induction n with
  | zero => rfl
  | succ n ih => rw [List.replicate_succ, ← ih]; rfl
theorem clip8 (A : Option Addr) (n c : Nat) (w : World) (_hn : n ≤ 281474976710656) (hc : n ≤ c) :
    Calls Tryd.prog 75 #[.slice A n c] w fun e w' => e = .returned (.slice A n n) ∧ w = w' := by
  go_enter Tryd.func75, Tryd.ntmps75
  go_wp2_with fail
  go_ret
  exact ⟨rfl, rfl⟩
/-- a variable of type api.Field that holds nothing yet -/
def Blk12 (w : World) (b : Nat) : Prop := w.heap[b]? = some (.cells #[.int .u8 0, .int .u8 0, .string ⟨#[]⟩, .int .i64 0, .int .i64 0, .bool false, .bool false, .bool false, .bool false, .bool false, .int .i64 0, .slice none 0 0] 49 (0, 0))
/-- a variable of type api.Shape -/
def Shp (w : World) (b : Nat) (l : List Value) : Prop := w.heap[b]? = some (.cells l.toArray 46 (0, 0))
theorem Blk12.cells {w : World} {b : Nat} (h : Blk12 w b) : w.cell? ⟨b, 0, none⟩ = some (.int .u8 0) ∧ w.cell? ⟨b, 1, none⟩ = some (.int .u8 0) ∧ w.cell? ⟨b, 2, none⟩ = some (.string ⟨#[]⟩) ∧ w.cell? ⟨b, 3, none⟩ = some (.int .i64 0) ∧ w.cell? ⟨b, 4, none⟩ = some (.int .i64 0) ∧ w.cell? ⟨b, 5, none⟩ = some (.bool false) ∧ w.cell? ⟨b, 6, none⟩ = some (.bool false) ∧ w.cell? ⟨b, 7, none⟩ = some (.bool false) ∧ w.cell? ⟨b, 8, none⟩ = some (.bool false) ∧ w.cell? ⟨b, 9, none⟩ = some (.bool false) ∧ w.cell? ⟨b, 10, none⟩ = some (.int .i64 0) ∧ w.cell? ⟨b, 11, none⟩ = some (.slice none 0 0) :=
  ⟨cell_of_row w b 0 _ _ _ h, cell_of_row w b 1 _ _ _ h, cell_of_row w b 2 _ _ _ h, cell_of_row w b 3 _ _ _ h, cell_of_row w b 4 _ _ _ h, cell_of_row w b 5 _ _ _ h, cell_of_row w b 6 _ _ _ h, cell_of_row w b 7 _ _ _ h, cell_of_row w b 8 _ _ _ h, cell_of_row w b 9 _ _ _ h, cell_of_row w b 10 _ _ _ h, cell_of_row w b 11 _ _ _ h⟩
theorem Blk12.free {w : World} {b : Nat} (h : Blk12 w b) : w.frozen? ⟨b, 0, none⟩ = false ∧ w.frozen? ⟨b, 1, none⟩ = false ∧ w.frozen? ⟨b, 2, none⟩ = false ∧ w.frozen? ⟨b, 3, none⟩ = false ∧ w.frozen? ⟨b, 4, none⟩ = false ∧ w.frozen? ⟨b, 5, none⟩ = false ∧ w.frozen? ⟨b, 6, none⟩ = false ∧ w.frozen? ⟨b, 7, none⟩ = false ∧ w.frozen? ⟨b, 8, none⟩ = false ∧ w.frozen? ⟨b, 9, none⟩ = false ∧ w.frozen? ⟨b, 10, none⟩ = false ∧ w.frozen? ⟨b, 11, none⟩ = false :=
  ⟨frozen_of_row w b 0 _ _ h, frozen_of_row w b 1 _ _ h, frozen_of_row w b 2 _ _ h, frozen_of_row w b 3 _ _ h, frozen_of_row w b 4 _ _ h, frozen_of_row w b 5 _ _ h, frozen_of_row w b 6 _ _ h, frozen_of_row w b 7 _ _ h, frozen_of_row w b 8 _ _ h, frozen_of_row w b 9 _ _ h, frozen_of_row w b 10 _ _ h, frozen_of_row w b 11 _ _ h⟩
theorem Shp.cells {w : World} {b : Nat} {c : Int} {pic : ByteArray} {d sc : Int} {sg : Bool} {n : Int} (h : Shp w b (shapeV c pic d sc sg n)) : w.cell? ⟨b, 0, none⟩ = some (.int .u8 c) ∧ w.cell? ⟨b, 1, none⟩ = some (.int .u8 0) ∧ w.cell? ⟨b, 2, none⟩ = some (.string pic) ∧ w.cell? ⟨b, 3, none⟩ = some (.int .i64 d) ∧ w.cell? ⟨b, 4, none⟩ = some (.int .i64 sc) ∧ w.cell? ⟨b, 5, none⟩ = some (.bool sg) ∧ w.cell? ⟨b, 6, none⟩ = some (.bool false) ∧ w.cell? ⟨b, 7, none⟩ = some (.bool false) ∧ w.cell? ⟨b, 8, none⟩ = some (.bool false) ∧ w.cell? ⟨b, 9, none⟩ = some (.bool false) ∧ w.cell? ⟨b, 10, none⟩ = some (.int .i64 n) :=
  ⟨cell_of_row w b 0 _ _ _ h, cell_of_row w b 1 _ _ _ h, cell_of_row w b 2 _ _ _ h, cell_of_row w b 3 _ _ _ h, cell_of_row w b 4 _ _ _ h, cell_of_row w b 5 _ _ _ h, cell_of_row w b 6 _ _ _ h, cell_of_row w b 7 _ _ _ h, cell_of_row w b 8 _ _ _ h, cell_of_row w b 9 _ _ _ h, cell_of_row w b 10 _ _ _ h⟩
/-- a variable of type api.Field -/
def FldAt (w : World) (b : Nat) (c : Int) (pic : ByteArray) (d sc : Int) (sg : Bool) (n : Int) (v : Value) : Prop := w.heap[b]? = some (.cells (shapeV c pic d sc sg n ++ [v]).toArray 49 (0, 0))
theorem FldAt.cells {w : World} {b : Nat} {c : Int} {pic : ByteArray} {d sc : Int} {sg : Bool} {n : Int} {v : Value} (h : FldAt w b c pic d sc sg n v) : w.cell? ⟨b, 0, none⟩ = some (.int .u8 c) ∧ w.cell? ⟨b, 1, none⟩ = some (.int .u8 0) ∧ w.cell? ⟨b, 2, none⟩ = some (.string pic) ∧ w.cell? ⟨b, 3, none⟩ = some (.int .i64 d) ∧ w.cell? ⟨b, 4, none⟩ = some (.int .i64 sc) ∧ w.cell? ⟨b, 5, none⟩ = some (.bool sg) ∧ w.cell? ⟨b, 6, none⟩ = some (.bool false) ∧ w.cell? ⟨b, 7, none⟩ = some (.bool false) ∧ w.cell? ⟨b, 8, none⟩ = some (.bool false) ∧ w.cell? ⟨b, 9, none⟩ = some (.bool false) ∧ w.cell? ⟨b, 10, none⟩ = some (.int .i64 n) ∧ w.cell? ⟨b, 11, none⟩ = some (v) :=
  ⟨cell_of_row w b 0 _ _ _ h, cell_of_row w b 1 _ _ _ h, cell_of_row w b 2 _ _ _ h, cell_of_row w b 3 _ _ _ h, cell_of_row w b 4 _ _ _ h, cell_of_row w b 5 _ _ _ h, cell_of_row w b 6 _ _ _ h, cell_of_row w b 7 _ _ _ h, cell_of_row w b 8 _ _ _ h, cell_of_row w b 9 _ _ _ h, cell_of_row w b 10 _ _ _ h, cell_of_row w b 11 _ _ _ h⟩
theorem set1 {W : World} {b : Nat} {cs cs' : Array Value} {t : TypeId} (k : Nat) (v : Value) (h : W.heap[b]? = some (.cells cs t (0, 0))) (hc : cs.setIfInBounds k v = cs') :
    (W.setCell ⟨b, k, none⟩ v).heap[b]? = some (.cells cs' t (0, 0)) ∧ (W.setCell ⟨b, k, none⟩ v).heap.size = W.heap.size ∧ (∀ B w, B ≤ b → Below B w W → Below B w (W.setCell ⟨b, k, none⟩ v)) ∧ ∀ j, b ≠ j → (W.setCell ⟨b, k, none⟩ v).heap[j]? = W.heap[j]? := by
  refine ⟨?_, by simp [World.setCell], fun B w hB hb => hb.setCell hB _, fun j hj => Below.heap_setCell W ⟨b, k, none⟩ v j (fun e => hj e.symm)⟩
  have := heap_setCell_same W b k _ _ v h
  rw [this, ← hc]
theorem set12 {W : World} {b : Nat} (h : Blk12 W b) (v0 v1 v2 v3 v4 v5 v6 v7 v8 v9 v10 v11 : Value) : ∃ N, N = ((((((((((((W.setCell ⟨b, 0, none⟩ v0).setCell ⟨b, 1, none⟩ v1).setCell ⟨b, 2, none⟩ v2).setCell ⟨b, 3, none⟩ v3).setCell ⟨b, 4, none⟩ v4).setCell ⟨b, 5, none⟩ v5).setCell ⟨b, 6, none⟩ v6).setCell ⟨b, 7, none⟩ v7).setCell ⟨b, 8, none⟩ v8).setCell ⟨b, 9, none⟩ v9).setCell ⟨b, 10, none⟩ v10).setCell ⟨b, 11, none⟩ v11) ∧ N.heap[b]? = some (.cells #[v0, v1, v2, v3, v4, v5, v6, v7, v8, v9, v10, v11] 49 (0, 0)) ∧ N.heap.size = W.heap.size ∧ (∀ B w, B ≤ b → Below B w W → Below B w N) ∧ ∀ j, b ≠ j → N.heap[j]? = W.heap[j]? := by
  unfold Blk12 at h
  obtain ⟨h1, z1, q1, t1⟩ := set1 (cs' := #[v0, .int .u8 0, .string ⟨#[]⟩, .int .i64 0, .int .i64 0, .bool false, .bool false, .bool false, .bool false, .bool false, .int .i64 0, .slice none 0 0]) 0 v0 h rfl
  obtain ⟨W1, e1⟩ : ∃ X, X = W.setCell ⟨b, 0, none⟩ v0 := ⟨_, rfl⟩
  rw [← e1] at h1 z1 q1 t1 ⊢
  obtain ⟨h2, z2, q2, t2⟩ := set1 (cs' := #[v0, v1, .string ⟨#[]⟩, .int .i64 0, .int .i64 0, .bool false, .bool false, .bool false, .bool false, .bool false, .int .i64 0, .slice none 0 0]) 1 v1 h1 rfl
  obtain ⟨W2, e2⟩ : ∃ X, X = W1.setCell ⟨b, 1, none⟩ v1 := ⟨_, rfl⟩
  rw [← e2] at h2 z2 q2 t2 ⊢
  obtain ⟨h3, z3, q3, t3⟩ := set1 (cs' := #[v0, v1, v2, .int .i64 0, .int .i64 0, .bool false, .bool false, .bool false, .bool false, .bool false, .int .i64 0, .slice none 0 0]) 2 v2 h2 rfl
  obtain ⟨W3, e3⟩ : ∃ X, X = W2.setCell ⟨b, 2, none⟩ v2 := ⟨_, rfl⟩
  rw [← e3] at h3 z3 q3 t3 ⊢
  obtain ⟨h4, z4, q4, t4⟩ := set1 (cs' := #[v0, v1, v2, v3, .int .i64 0, .bool false, .bool false, .bool false, .bool false, .bool false, .int .i64 0, .slice none 0 0]) 3 v3 h3 rfl
  obtain ⟨W4, e4⟩ : ∃ X, X = W3.setCell ⟨b, 3, none⟩ v3 := ⟨_, rfl⟩
  rw [← e4] at h4 z4 q4 t4 ⊢
  obtain ⟨h5, z5, q5, t5⟩ := set1 (cs' := #[v0, v1, v2, v3, v4, .bool false, .bool false, .bool false, .bool false, .bool false, .int .i64 0, .slice none 0 0]) 4 v4 h4 rfl
  obtain ⟨W5, e5⟩ : ∃ X, X = W4.setCell ⟨b, 4, none⟩ v4 := ⟨_, rfl⟩
  rw [← e5] at h5 z5 q5 t5 ⊢
  obtain ⟨h6, z6, q6, t6⟩ := set1 (cs' := #[v0, v1, v2, v3, v4, v5, .bool false, .bool false, .bool false, .bool false, .int .i64 0, .slice none 0 0]) 5 v5 h5 rfl
  obtain ⟨W6, e6⟩ : ∃ X, X = W5.setCell ⟨b, 5, none⟩ v5 := ⟨_, rfl⟩
  rw [← e6] at h6 z6 q6 t6 ⊢
  obtain ⟨h7, z7, q7, t7⟩ := set1 (cs' := #[v0, v1, v2, v3, v4, v5, v6, .bool false, .bool false, .bool false, .int .i64 0, .slice none 0 0]) 6 v6 h6 rfl
  obtain ⟨W7, e7⟩ : ∃ X, X = W6.setCell ⟨b, 6, none⟩ v6 := ⟨_, rfl⟩
  rw [← e7] at h7 z7 q7 t7 ⊢
  obtain ⟨h8, z8, q8, t8⟩ := set1 (cs' := #[v0, v1, v2, v3, v4, v5, v6, v7, .bool false, .bool false, .int .i64 0, .slice none 0 0]) 7 v7 h7 rfl
  obtain ⟨W8, e8⟩ : ∃ X, X = W7.setCell ⟨b, 7, none⟩ v7 := ⟨_, rfl⟩
  rw [← e8] at h8 z8 q8 t8 ⊢
  obtain ⟨h9, z9, q9, t9⟩ := set1 (cs' := #[v0, v1, v2, v3, v4, v5, v6, v7, v8, .bool false, .int .i64 0, .slice none 0 0]) 8 v8 h8 rfl
  obtain ⟨W9, e9⟩ : ∃ X, X = W8.setCell ⟨b, 8, none⟩ v8 := ⟨_, rfl⟩
  rw [← e9] at h9 z9 q9 t9 ⊢
  obtain ⟨h10, z10, q10, t10⟩ := set1 (cs' := #[v0, v1, v2, v3, v4, v5, v6, v7, v8, v9, .int .i64 0, .slice none 0 0]) 9 v9 h9 rfl
  obtain ⟨W10, e10⟩ : ∃ X, X = W9.setCell ⟨b, 9, none⟩ v9 := ⟨_, rfl⟩
  rw [← e10] at h10 z10 q10 t10 ⊢
  obtain ⟨h11, z11, q11, t11⟩ := set1 (cs' := #[v0, v1, v2, v3, v4, v5, v6, v7, v8, v9, v10, .slice none 0 0]) 10 v10 h10 rfl
  obtain ⟨W11, e11⟩ : ∃ X, X = W10.setCell ⟨b, 10, none⟩ v10 := ⟨_, rfl⟩
  rw [← e11] at h11 z11 q11 t11 ⊢
  obtain ⟨h12, z12, q12, t12⟩ := set1 (cs' := #[v0, v1, v2, v3, v4, v5, v6, v7, v8, v9, v10, v11]) 11 v11 h11 rfl
  obtain ⟨W12, e12⟩ : ∃ X, X = W11.setCell ⟨b, 11, none⟩ v11 := ⟨_, rfl⟩
  rw [← e12] at h12 z12 q12 t12 ⊢
  refine ⟨W12, rfl, h12, by omega, fun B w hB hb => ?_, fun j hj => ?_⟩
  rotate_left
  · rw [t12 j hj, t11 j hj, t10 j hj, t9 j hj, t8 j hj, t7 j hj, t6 j hj, t5 j hj, t4 j hj, t3 j hj, t2 j hj, t1 j hj]
  have r1 := q1 B w hB hb
  have r2 := q2 B w hB r1
  have r3 := q3 B w hB r2
  have r4 := q4 B w hB r3
  have r5 := q5 B w hB r4
  have r6 := q6 B w hB r5
  have r7 := q7 B w hB r6
  have r8 := q8 B w hB r7
  have r9 := q9 B w hB r8
  have r10 := q10 B w hB r9
  have r11 := q11 B w hB r10
  have r12 := q12 B w hB r11
  exact r12
theorem text_bad (s : ByteArray) (w : World) (h : s.size = 0 ∨ 256 < s.size) (hs : s.size ≤ maxLen) :
    Calls Tryd.prog 46 #[.string s] w fun e w' => e = .returned (.tuple #[fieldZ, .int .i64 5]) ∧ Below w.heap.size w w' := by
  unfold maxLen at hs
  by_cases h0 : s.size = 0
  · obtain rfl : s = ⟨#[]⟩ := ByteArray.ext (Array.eq_empty_of_size_eq_zero h0)
    clear h hs h0
    go_enter Tryd.func46, Tryd.ntmps46
    go_wp2_with fail
    refine bodyPost_ret (v := .tuple #[fieldZ, .int .i64 5]) ?_ rfl ⟨rfl, ?_⟩
    · simp [results, Tryd.results46, go_sem, fieldZ, fieldV, shapeV]
    · exact (Below.refl _ _).alloc (Nat.le_refl _) _
  · have h1 : 256 < s.size := by omega
    have he : (s.toList == []) = false := by
      rw [ByteArray.toList_eq, beq_eq_false_iff_ne]
      intro e
      have := congrArg List.length e
      rw [len_data] at this
      exact h0 this
    have h1' : (256 : Int) < (s.size : Int) := by omega
    clear h h0
    go_enter Tryd.func46, Tryd.ntmps46
    go_wp2_with fail
    refine bodyPost_ret (v := .tuple #[fieldZ, .int .i64 5]) ?_ rfl ⟨rfl, ?_⟩
    · simp [results, Tryd.results46, go_sem, fieldZ, fieldV, shapeV]
    · exact (Below.refl _ _).alloc (Nat.le_refl _) _

set_option maxHeartbeats 2000000 in
theorem text_ok (s : ByteArray) (w : World) (h0 : 0 < s.size) (h1 : s.size ≤ 256) :
    Calls Tryd.prog 46 #[.string s] w fun e w' => ∃ g, e = .returned (.tuple #[fieldV 2 (mk (List.replicate s.size 88)) 0 0 false s.size (.slice (some ⟨g, 0, none⟩) s.size s.size), .int .i64 0]) ∧
      w.heap.size ≤ g ∧ Row w' g s.data.toList ∧ Below w.heap.size w w' := by
  have he : (s.toList == []) = false := by
    rw [ByteArray.toList_eq, beq_eq_false_iff_ne]
    intro e
    have := congrArg List.length e
    rw [len_data] at this
    rw [List.length_nil] at this
    omega
  have h1' : ¬ (256 : Int) < (s.size : Int) := by omega
  obtain ⟨P, hP⟩ : ∃ P, P = mk (List.replicate s.size 88) := ⟨_, rfl⟩
  have HRep : Hid (∀ w1, Calls Tryd.prog 30 #[.string ⟨#[88]⟩, .int .i64 (s.size : Int)] w1 fun e w' => e = .returned (.string P) ∧ Below w1.heap.size w1 w') := fun w1 => by
    refine (Tryd.strings_Repeat ⟨#[88]⟩ s.size w1 (by omega) (by show 1 * s.size ≤ _; omega)).mono ?_
    rintro e w' ⟨rfl, hb⟩
    refine ⟨?_, hb⟩
    rw [hP, show (⟨#[88]⟩ : ByteArray).data.toList = [88] from rfl, repeatL_one]
    rfl
  rw [← hP]
  clear hP
  have hrow : Hid (∀ W, ∃ cap C, s.size ≤ cap ∧ (convert 9 47 (.string s)).run Tryd.prog W = .ok (.slice (some ⟨W.heap.size, 0, none⟩) s.size cap) (W.drew.alloc (.cells C 5 (C.size, C.size + 1))) ∧
    Row (W.drew.alloc (.cells C 5 (C.size, C.size + 1))) W.heap.size s.data.toList) := fun W => row_of_string W s
  go_enter Tryd.func46, Tryd.ntmps46
  go_wp2_with fail
  refine (HRep.out _).mono ?_
  rintro e w1 ⟨rfl, hb1⟩
  have HB1 := hide hb1
  clear hb1
  go_wp2_with fail
  obtain ⟨W2, hW2⟩ : ∃ W2, W2 = w1.alloc (.cells (shapeV 2 P 0 0 false s.size).toArray 46) := ⟨_, rfl⟩
  have hsz := HB1.out.size
  rw [World.size_alloc] at hsz
  have hbk : Blk12 W2 w.heap.size := by
    rw [hW2]
    exact ((HB1.out.block w.heap.size (by simp)).trans (heap_alloc_new w _)) |> fun h => (heap_alloc_old _ _ (by omega)).trans h
  have hw2 : W2.heap.size = w1.heap.size + 1 := by rw [hW2]; simp
  have hbs : Shp W2 w1.heap.size (shapeV 2 P 0 0 false s.size) := by rw [hW2]; exact heap_alloc_new w1 _
  have hbl2 : Below w.heap.size w W2 := by
    rw [hW2]
    exact (((Below.refl _ w).alloc (Nat.le_refl _) _).trans (HB1.out.mono (by simp))).alloc (by omega) _
  rw [show (Obj.cells #[.int .u8 2, .int .u8 0, .string P, .int .i64 0, .int .i64 0, .bool false, .bool false, .bool false, .bool false, .bool false, .int .i64 s.size] 46) = Obj.cells (shapeV 2 P 0 0 false s.size).toArray 46 from rfl, ← hW2]
  clear hW2
  have hlt : w.heap.size < W2.heap.size := by omega
  obtain ⟨c0, c1, c2, c3, c4, c5, c6, c7, c8, c9, c10, c11⟩ := hbk.cells
  obtain ⟨f0, f1, f2, f3, f4, f5, f6, f7, f8, f9, f10, f11⟩ := hbk.free
  obtain ⟨d0, d1, d2, d3, d4, d5, d6, d7, d8, d9, d10⟩ := hbs.cells
  have hltb : w1.heap.size < W2.heap.size := by omega
  obtain ⟨cap, C, hcap, hconv, hrw⟩ := hrow.out W2.drew
  have HRW := hide hrw
  have HBL := hide hbl2
  have HBK := hide hbk
  clear hbk hbs hbl2 hrw HB1 hw2
  have HC := hide (fun W => clip8 (some ⟨W2.drew.heap.size, 0, none⟩) s.size cap W (by omega) hcap)
  clear hcap
  go_cut [2, 3] (fun s2 s3 wx => s2 = .pointer (some ⟨w.heap.size, 0, none⟩) ∧ s3 = .int .i64 0 ∧ FldAt wx w.heap.size 2 P 0 0 false s.size (.slice (some ⟨W2.drew.heap.size, 0, none⟩) s.size s.size) ∧ Row wx W2.drew.heap.size s.data.toList ∧ Below w.heap.size w wx)
  case first =>
    go_region_with (go_at_call 75; refine (HC.out _).mono ?_; rintro e w' ⟨rfl, rfl⟩)
    all_goals
      go_wp2_with fail
      go_meet
      obtain ⟨N, hN, h12, z12, q12, -⟩ := set12 HBK.out (.int .u8 2) (.int .u8 0) (.string P) (.int .i64 0) (.int .i64 0) (.bool false) (.bool false) (.bool false) (.bool false) (.bool false) (.int .i64 (s.size : Int)) (.slice (some ⟨W2.heap.size, 0, none⟩) s.size s.size)
      rw [← hN]
      refine ⟨rfl, rfl, ?_, ?_, ?_⟩
      · exact (heap_alloc_old N _ (by omega)).trans h12
      · refine HRW.out.block (by show W2.heap.size < (N.alloc _).heap.size; simp; omega) ?_
        have e1 := heap_alloc_new N (.cells C 5 (C.size, C.size + 1))
        have e2 := heap_alloc_new W2.drew.drew (.cells C 5 (C.size, C.size + 1))
        rw [z12] at e1
        exact e1.trans e2.symm
      · exact ((q12 _ w (Nat.le_refl _) HBL.out).alloc (by omega) _).drew.drew
  case rest =>
    obtain ⟨rfl, rfl, hf, hr, hb⟩ := hcut
    obtain ⟨c0, c1, c2, c3, c4, c5, c6, c7, c8, c9, c10, c11⟩ := hf.cells
    have HR := hide hr
    have HB := hide hb
    clear hf hr hb
    go_wp2_with fail
    refine bodyPost_ret (v := .tuple #[fieldV 2 P 0 0 false s.size (.slice (some ⟨W2.drew.heap.size, 0, none⟩) s.size s.size), .int .i64 0]) ?_ rfl ⟨_, rfl, ?_, HR.out, HB.out⟩
    · simp [results, Tryd.results46, go_sem, fieldV, shapeV, *]
    · have := HBL.out.size; exact this
end Go.Proofs.YthdggnkpncoikaaDoor
