/-
  WORDS for memory (layer 6, pictures): rows of bytes ('Row', 'Sl'), what a step may turn ('Mods'), blocks of given cells ('Blk').
-/
import Derived.Test.YteceealibfemjaaGreatDoorProg
import Derived.WalkKit
import Derived.WalkSpells
import Derived.WalkLawsBesides
import Derived.BigQuiet
import Derived.Deep.QuietTactic
import Derived.RegionTactic
import Derived.BigRegion
import Derived.Deep.RegionWith
import Derived.Deep.AppendLies
import Derived.Laws.OwnMore
import Derived.OneCell
import Derived.Test.YteceealibfemjaaGreatDoorPicE
import Derived.Laws.CopyOwn
import Derived.Shelf.Abstract
import Derived.Lib.Builder
namespace Go.Proofs.YteceealibfemjaaGreatDoor
open Go.RowKit Go.Shelf

theorem hide {p : Prop} (h : p) : Hid p := h
theorem ret_bool {a b : Bool} (h : a = b) : Ending.returned (.bool a) = .returned (.bool b) := by rw [h]
theorem ret_str {a b : ByteArray} (h : a = b) : Ending.returned (.string a) = .returned (.string b) := by rw [h]
/-- the text of a list -/
def mk (l : List UInt8) : ByteArray := ⟨l.toArray⟩
theorem mk_data (l : List UInt8) : (mk l).data.toList = l := rfl
theorem mk_of (s : ByteArray) : mk s.data.toList = s := rfl
theorem len_data (s : ByteArray) : s.data.toList.length = s.size := by rw [Array.length_toList]; rfl
theorem getD_at (s : ByteArray) (k : Nat) (h : k < s.size) : s.data.toList.getD k 0 = s[k] := by
  rw [List.getD_eq_getElem?_getD, List.getElem?_eq_getElem (by simpa using h)]; rfl
/-- the cells of block g, from its head on, hold the bytes l, and may be written -/
def Row (w : World) (g : Nat) (l : List UInt8) : Prop :=
  g < w.heap.size ∧ ∀ j u, l[j]? = some u → w.cell? ⟨g, j, none⟩ = some (.int .u8 (u.toNat : Int)) ∧ w.frozen? ⟨g, j, none⟩ = false

theorem Row.block {w w' : World} {g : Nat} {l : List UInt8} (h : Row w g l) (hs : g < w'.heap.size) (hb : w'.heap[g]? = w.heap[g]?) : Row w' g l :=
  ⟨hs, fun j u hu => ⟨(World.cell?_of_block (a := ⟨g, j, none⟩) hb).trans (h.2 j u hu).1, (World.frozen?_of_block (a := ⟨g, j, none⟩) hb).trans (h.2 j u hu).2⟩⟩
theorem Row.below {w w' : World} {g B : Nat} {l : List UInt8} (h : Row w g l) (hb : Below B w w') (hg : g < B) : Row w' g l :=
  h.block (Nat.lt_of_lt_of_le h.1 hb.size) (hb.block g hg)
theorem Row.drew {w : World} {g : Nat} {l : List UInt8} (h : Row w g l) : Row w.drew g l := h.block h.1 rfl
theorem Row.alloc {w : World} {g : Nat} {l : List UInt8} (h : Row w g l) (o : Obj) : Row (w.alloc o) g l :=
  h.block (by have := h.1; simp; omega) (Below.heap_alloc w o g h.1)
theorem Row.far {w : World} {g : Nat} {l : List UInt8} (h : Row w g l) {p : Addr} (hp : g ≠ p.block) (u : Value) : Row (w.setCell p u) g l :=
  h.block (by have := h.1; simp [World.setCell]; omega) (Below.heap_setCell w p u g hp)
theorem Row.set_ {w : World} {g : Nat} {l : List UInt8} (h : Row w g l) (k : Nat) (hk : k < l.length) (c : UInt8) : Row (w.setCell ⟨g, k, none⟩ (.int .u8 (c.toNat : Int))) g (l.set k c) := by
  refine ⟨by have := h.1; simp [World.setCell]; omega, fun j u hu => ?_⟩
  rw [World.frozen?_setCell]
  by_cases e : k = j
  · subst e
    rw [List.getElem?_set_self hk] at hu
    injection hu with hu
    subst hu
    have h1 := h.2 k l[k] (List.getElem?_eq_getElem hk)
    exact ⟨World.cell?_setCell_same _ _ _ h1.1, h1.2⟩
  · rw [List.getElem?_set_ne e] at hu
    exact ⟨(World.cell?_setCell_other _ _ _ _ (by simp)).trans (h.2 j u hu).1, (h.2 j u hu).2⟩
theorem Row.at_ {w : World} {g : Nat} {l : List UInt8} (h : Row w g l) (k : Nat) (hk : k < l.length) : w.cell? ⟨g, k, none⟩ = some (.int .u8 (l[k].toNat : Int)) ∧ w.frozen? ⟨g, k, none⟩ = false :=
  h.2 k l[k] (List.getElem?_eq_getElem hk)

/-- 'string(b)' of a row -/
theorem Row.text {w : World} {g : Nat} {l : List UInt8} (h : Row w g l) (n cap : Nat) (hn : n = l.length) :
    (convert 22 9 (.slice (some ⟨g, 0, none⟩) n cap)).run Tryz.prog w = .ok (.string ⟨l.toArray⟩) w := by
  subst hn
  refine run_convert_bytes_back (P := Tryz.prog) w 22 9 5 ⟨g, 0, none⟩ cap l Tryz.underlying22 Tryz.underlying5 Tryz.underlying9 fun j hj => ?_
  have e : (⟨g, 0, none⟩ : Addr).add j = ⟨g, j, none⟩ := by unfold Addr.add; split <;> simp_all
  rw [e]
  exact (h.at_ j hj).1

/-- '[]byte(s)' lays a row -/
theorem row_of_string (w : World) (s : ByteArray) : ∃ cap C, s.size ≤ cap ∧ (convert 9 22 (.string s)).run Tryz.prog w = .ok (.slice (some ⟨w.heap.size, 0, none⟩) s.size cap) (w.drew.alloc (.cells C 5 (C.size, C.size + 1))) ∧
    Row (w.drew.alloc (.cells C 5 (C.size, C.size + 1))) w.heap.size s.data.toList := by
  refine ⟨_, _, grownCap_ge w s.size 0 5, run_bytes_of_string (P := Tryz.prog) w 9 22 5 s Tryz.underlying9 Tryz.underlying22 Tryz.underlying5, ?_, fun j u hu => ?_⟩
  · simp
  · obtain ⟨hj, rfl⟩ := List.getElem?_eq_some_iff.1 hu
    have hj' : j < s.data.size := by simpa using hj
    have hb := bytesRow_at s (grownCap w s.size 0 5) j hj'
    have hlt : j < (bytesRow s (grownCap w s.size 0 5)).size := by
      rcases Nat.lt_or_ge j (bytesRow s (grownCap w s.size 0 5)).size with h | h
      · exact h
      · rw [Array.getElem?_eq_none h] at hb; cases hb
    constructor
    · rw [show w.heap.size = w.drew.heap.size from rfl, World.cell?_alloc_mark, hb]; simp
    · rw [show w.heap.size = w.drew.heap.size from rfl, World.frozen?_alloc_mark]
      simp; omega

/-- a slice of bytes that lies below block B; of an empty one nothing is known -/
def Sl (w : World) (B : Nat) (A : Option Addr) (l : List UInt8) : Prop :=
  l = [] ∨ ∃ b off, A = some ⟨b, off, none⟩ ∧ b < B ∧ ∀ j u, l[j]? = some u → w.cell? ⟨b, off + j, none⟩ = some (.int .u8 (u.toNat : Int))

theorem Sl.keep {w w' : World} {B B0 : Nat} {A : Option Addr} {l : List UInt8} (h : Sl w B A l) (hb : Below B0 w w') (h1 : B ≤ B0) (B' : Nat) (h2 : B ≤ B') : Sl w' B' A l := by
  rcases h with h | ⟨b, off, hA, hlt, hc⟩
  · exact .inl h
  · exact .inr ⟨b, off, hA, by omega, fun j u hu => (hb.cell (p := ⟨b, off + j, none⟩) (by show b < _; omega)).trans (hc j u hu)⟩
theorem Sl.drop {w : World} {B b off : Nat} {l : List UInt8} (h : Sl w B (some ⟨b, off, none⟩) l) (d : Nat) : Sl w B (some ⟨b, off + d, none⟩) (l.drop d) := by
  rcases h with rfl | ⟨b', off', hA, hlt, hc⟩
  · exact .inl (by simp)
  · injection hA with hA
    injection hA with h1 h2
    subst h1; subst h2
    exact .inr ⟨b, off + d, rfl, hlt, fun j u hu => by rw [Nat.add_assoc]; exact hc _ u (by rw [← hu, List.getElem?_drop])⟩
theorem Row.sl {w : World} {g B : Nat} {l : List UInt8} (h : Row w g l) (hg : g < B) : Sl w B (some ⟨g, 0, none⟩) l :=
  .inr ⟨g, 0, rfl, hg, fun j u hu => by rw [Nat.zero_add]; exact (h.2 j u hu).1⟩
theorem Sl.text {w : World} {B : Nat} {A : Option Addr} {l : List UInt8} (h : Sl w B A l) (n cap : Nat) (hn : n = l.length) :
    (convert 22 9 (.slice A n cap)).run Tryz.prog w = .ok (.string ⟨l.toArray⟩) w := by
  subst hn
  rcases h with rfl | ⟨b, off, rfl, _, hc⟩
  · rw [run_convert_bytes_string w 22 9 5 A _ cap Tryz.underlying22 Tryz.underlying5 Tryz.underlying9]
    cases A <;> simp [Conv.bytesToString, loadCells]
    all_goals rfl
  · refine run_convert_bytes_back (P := Tryz.prog) w 22 9 5 ⟨b, off, none⟩ cap l Tryz.underlying22 Tryz.underlying5 Tryz.underlying9 fun j hj => ?_
    have e : (⟨b, off, none⟩ : Addr).add j = ⟨b, off + j, none⟩ := by unfold Addr.add; split <;> simp_all
    rw [e]
    exact hc j _ (List.getElem?_eq_getElem hj)

/-- block g is a row of just these bytes -/
def cells8 (l : List UInt8) : List Value := l.map fun u => .int .u8 (u.toNat : Int)
def Blk8 (w : World) (g : Nat) (l : List UInt8) : Prop := w.heap[g]? = some (.cells (cells8 l).toArray 5 (0, 0))

theorem cells8_one (l : List UInt8) : ∀ v ∈ cells8 l, v.oneCell' = true := by
  intro v hv
  obtain ⟨u, _, rfl⟩ := List.mem_map.1 hv
  rfl
theorem cells8_at (l : List UInt8) (j : Nat) (v : Value) (h : (cells8 l)[j]? = some v) : ∃ u, l[j]? = some u ∧ v = .int .u8 (u.toNat : Int) := by
  rw [cells8, List.getElem?_map] at h
  obtain ⟨u, hu, rfl⟩ := Option.map_eq_some_iff.1 h
  exact ⟨u, hu, rfl⟩
theorem cells8_length (l : List UInt8) : (cells8 l).length = l.length := by simp [cells8]
theorem cells8_set (l : List UInt8) (k : Nat) (c : UInt8) : cells8 (l.set k c) = (cells8 l).set k (.int .u8 (c.toNat : Int)) := by
  simp [cells8, List.map_set]
theorem Blk8.lt {w : World} {g : Nat} {l : List UInt8} (h : Blk8 w g l) : g < w.heap.size := by
  rcases Nat.lt_or_ge g w.heap.size with hlt | hge
  · exact hlt
  · unfold Blk8 at h; rw [Array.getElem?_eq_none hge] at h; cases h
theorem Blk8.row {w : World} {g : Nat} {l : List UInt8} (h : Blk8 w g l) : Row w g l := by
  refine ⟨h.lt, fun j u hu => ⟨?_, frozen_of_row w g j _ _ h⟩⟩
  rw [cell_of_row w g j _ _ _ h]
  simp [cells8, hu]
theorem Blk8.below {w w' : World} {g B : Nat} {l : List UInt8} (h : Blk8 w g l) (hb : Below B w w') (hg : g < B) : Blk8 w' g l := (hb.block g hg).trans h
theorem Blk8.drew {w : World} {g : Nat} {l : List UInt8} (h : Blk8 w g l) : Blk8 w.drew g l := h
theorem Blk8.alloc {w : World} {g : Nat} {l : List UInt8} (h : Blk8 w g l) (o : Obj) : Blk8 (w.alloc o) g l := (Below.heap_alloc w o g h.lt).trans h
theorem Blk8.set_ {w : World} {g : Nat} {l : List UInt8} (h : Blk8 w g l) (k : Nat) (c : UInt8) : Blk8 (w.setCell ⟨g, k, none⟩ (.int .u8 (c.toNat : Int))) g (l.set k c) := by
  have := heap_setCell_same w g k _ _ (.int .u8 (c.toNat : Int)) h
  unfold Blk8
  rw [this, cells8_set]
  simp
theorem Blk8.new (w : World) (l : List UInt8) : Blk8 (w.alloc (.cells (cells8 l).toArray 5)) w.heap.size l := heap_alloc_new w _

structure Mods (M : Nat → Prop) (w w' : World) : Prop where
  os : w'.os = w.os
  tape : w'.tape = w.tape
  output : w'.output = w.output
  size : w.heap.size ≤ w'.heap.size
  block : ∀ k, k < w.heap.size → ¬ M k → w'.heap[k]? = w.heap[k]?

theorem Mods.refl (M : Nat → Prop) (w : World) : Mods M w w := ⟨rfl, rfl, rfl, Nat.le_refl _, fun _ _ _ => rfl⟩
theorem Mods.trans {M : Nat → Prop} {a b c : World} (h : Mods M a b) (k : Mods M b c) : Mods M a c :=
  ⟨k.os.trans h.os, k.tape.trans h.tape, k.output.trans h.output, Nat.le_trans h.size k.size, fun i hi hM => (k.block i (Nat.lt_of_lt_of_le hi h.size) hM).trans (h.block i hi hM)⟩
/-- a step that may turn more, but of the first world's blocks no more -/
theorem Mods.trans' {M M' : Nat → Prop} {a b c : World} (h : Mods M a b) (k : Mods M' b c) (hM : ∀ i, i < a.heap.size → M' i → M i) : Mods M a c :=
  ⟨k.os.trans h.os, k.tape.trans h.tape, k.output.trans h.output, Nat.le_trans h.size k.size, fun i hi hn => (k.block i (Nat.lt_of_lt_of_le hi h.size) (fun e => hn (hM i hi e))).trans (h.block i hi hn)⟩
theorem Mods.weak {M M' : Nat → Prop} {a b : World} (h : Mods M a b) (hM : ∀ i, i < a.heap.size → M i → M' i) : Mods M' a b :=
  ⟨h.os, h.tape, h.output, h.size, fun i hi hn => h.block i hi (fun e => hn (hM i hi e))⟩
theorem Mods.drew {M : Nat → Prop} {a b : World} (h : Mods M a b) : Mods M a b.drew := ⟨h.os, h.tape, h.output, h.size, h.block⟩
theorem Mods.drewN {M : Nat → Prop} {a b : World} (h : Mods M a b) (n : Nat) : Mods M a (b.drewN n) := ⟨h.os, h.tape, h.output, h.size, h.block⟩
theorem Mods.alloc {M : Nat → Prop} {a b : World} (h : Mods M a b) (o : Obj) : Mods M a (b.alloc o) :=
  h.trans' (M' := fun _ => False) ⟨rfl, rfl, rfl, by simp, fun k hk _ => heap_alloc_old b o hk⟩ (fun _ _ e => e.elim)
theorem Mods.set {M : Nat → Prop} {a b : World} (h : Mods M a b) (blk i : Nat) (v : Value) (hM : blk < a.heap.size → M blk) : Mods M a (b.setCell ⟨blk, i, none⟩ v) :=
  h.trans' (M' := fun k => k = blk) ⟨rfl, rfl, rfl, by simp [World.setCell], fun k _ hk => Below.heap_setCell _ _ _ _ hk⟩ (fun i hi e => by subst e; exact hM hi)
theorem Mods.of_below {w w' : World} (h : Below w.heap.size w w') : Mods (fun _ => False) w w' := ⟨h.os, h.tape, h.output, h.size, fun k hk _ => h.block k hk⟩
theorem Mods.below {M : Nat → Prop} {a b c : World} (h : Mods M a b) (k : Below b.heap.size b c) : Mods M a c := h.trans' (Mods.of_below k) (fun _ _ e => e.elim)
theorem Mods.of_grown {w w' : World} {row : Option Nat} (h : w.grownBy w' row) : Mods (fun k => row = some k) w w' := ⟨h.os, h.tape, h.output, h.size, fun k hk hn => h.block k hk (fun e => hn e.symm)⟩
theorem Mods.toBelow {M : Nat → Prop} {B : Nat} {w w' : World} (h : Mods M w w') (hB : B ≤ w.heap.size) (hM : ∀ i, i < B → ¬ M i) : Below B w w' := ⟨h.os, h.tape, h.output, h.size, fun k hk => h.block k (by omega) (hM k hk)⟩
theorem Mods.grown {M : Nat → Prop} {w w' : World} (h : Mods M w w') (row : Option Nat) (hM : ∀ i, i < w.heap.size → M i → row = some i) : w.grownBy w' row := ⟨h.os, h.tape, h.output, h.size, fun k hk hn => h.block k hk (fun e => hn (hM k hk e).symm)⟩
theorem Mods.cell {M : Nat → Prop} {w w' : World} (h : Mods M w w') (b o : Nat) (hb : b < w.heap.size) (hM : ¬ M b) : w'.cell? ⟨b, o, none⟩ = w.cell? ⟨b, o, none⟩ := World.cell?_of_block (h.block b hb hM)
theorem Mods.free {M : Nat → Prop} {w w' : World} (h : Mods M w w') (b o : Nat) (hb : b < w.heap.size) (hM : ¬ M b) : w'.frozen? ⟨b, o, none⟩ = w.frozen? ⟨b, o, none⟩ := World.frozen?_of_block (h.block b hb hM)

/-- a block of cells, none of them frozen -/
def Blk (w : World) (b : Nat) (cs : Array Value) (T : TypeId) : Prop := w.heap[b]? = some (.cells cs T (0, 0))
theorem Blk.lt {w : World} {b : Nat} {cs : Array Value} {T : TypeId} (h : Blk w b cs T) : b < w.heap.size := lt_of_block h
theorem Blk.cell {w : World} {b : Nat} {cs : Array Value} {T : TypeId} (h : Blk w b cs T) (j : Nat) : w.cell? ⟨b, j, none⟩ = cs[j]? := Lib.cell_of_heap h j
theorem Blk.free {w : World} {b : Nat} {cs : Array Value} {T : TypeId} (h : Blk w b cs T) (j : Nat) : w.frozen? ⟨b, j, none⟩ = false := Lib.frozen_of_heap h j
theorem blk_new (w : World) (cs : Array Value) (T : TypeId) : Blk (w.alloc (.cells cs T)) w.heap.size cs T := heap_alloc_new w _
theorem blk_kept {w w' : World} {b : Nat} {cs : Array Value} {T : TypeId} (hb : Below w.heap.size w w') (h : Blk w b cs T) : Blk w' b cs T := (hb.block b h.lt).trans h
theorem Blk.mods {M : Nat → Prop} {w w' : World} {b : Nat} {cs : Array Value} {T : TypeId} (h : Blk w b cs T) (hm : Mods M w w') (hM : ¬ M b) : Blk w' b cs T := (hm.block b h.lt hM).trans h
theorem Blk.alloc {w : World} {b : Nat} {cs : Array Value} {T : TypeId} (h : Blk w b cs T) (o : Obj) : Blk (w.alloc o) b cs T := (heap_alloc_old w o h.lt).trans h
theorem Blk.set {w : World} {b : Nat} {cs : Array Value} {T : TypeId} (h : Blk w b cs T) (j : Nat) (v : Value) : Blk (w.setCell ⟨b, j, none⟩ v) b (cs.setIfInBounds j v) T := by
  simp [Blk, World.setCell, Array.getElem?_modify, show w.heap[b]? = _ from h]

theorem below_set3 {B b : Nat} {w w' : World} (h : Below B w w') (hb : B ≤ b) (x y z : Value) : Below B w (((w'.setCell ⟨b, 0, none⟩ x).setCell ⟨b, 1, none⟩ y).setCell ⟨b, 2, none⟩ z) :=
  ((h.setCell (p := ⟨b, 0, none⟩) hb _).setCell (p := ⟨b, 1, none⟩) hb _).setCell (p := ⟨b, 2, none⟩) hb _
theorem below_drewN' {n : Nat} {w w' : World} (h : Below n w w') (k : Nat) : Below n w (w'.drewN k) := ⟨h.os, h.tape, h.output, h.size, h.block⟩
theorem below1 (w : World) (o : Obj) : Below w.heap.size w (w.alloc o) := (Below.refl _ _).alloc (Nat.le_refl _) _
end Go.Proofs.YteceealibfemjaaGreatDoor
