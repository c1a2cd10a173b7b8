/-
  WORDS for bytes in memory: 'Row': a row that the call made; 'Sl': a slice of bytes that lies below a block; what keeps them.
-/
import Derived.Test.YthdggnkpncoikaaDoorPurW
import Derived.Laws.CopyOwn
namespace Go.Proofs.YthdggnkpncoikaaDoor
open Go.RowKit Go.Shelf

/-- the cells of block g, from its head on, hold the bytes l, and may be written -/
def Row (w : World) (g : Nat) (l : List UInt8) : Prop :=
  g < w.heap.size ∧ ∀ j u, l[j]? = some u → w.cell? ⟨g, j, none⟩ = some (.int .u8 (u.toNat : Int)) ∧ w.frozen? ⟨g, j, none⟩ = false

theorem Row.block {w w' : World} {g : Nat} {l : List UInt8} (h : Row w g l) (hs : g < w'.heap.size) (hb : w'.heap[g]? = w.heap[g]?) : Row w' g l :=
  ⟨hs, fun j u hu => ⟨(World.cell?_of_block (a := ⟨g, j, none⟩) hb).trans (h.2 j u hu).1, (World.frozen?_of_block (a := ⟨g, j, none⟩) hb).trans (h.2 j u hu).2⟩⟩
theorem Row.below {w w' : World} {g B : Nat} {l : List UInt8} (h : Row w g l) (hb : Below B w w') (hg : g < B) : Row w' g l :=
  h.block (Nat.lt_of_lt_of_le h.1 hb.size) (hb.block g hg)
theorem Row.drew {w : World} {g : Nat} {l : List UInt8} (h : Row w g l) : Row w.drew g l := h.block h.1 rfl
theorem Row.alloc {w : World} {g : Nat} {l : List UInt8} (h : Row w g l) (o : Obj) : Row (w.alloc o) g l :=
  h.block (by have := h.1; simp; omega) (Below.heap_alloc w o g h.1)
theorem Row.far {w : World} {g : Nat} {l : List UInt8} (h : Row w g l) {p : Addr} (hp : g ≠ p.block) (u : Value) : Row (w.setCell p u) g l :=
  h.block (by have := h.1; simp [World.setCell]; omega) (Below.heap_setCell w p u g hp)
theorem Row.set_ {w : World} {g : Nat} {l : List UInt8} (h : Row w g l) (k : Nat) (hk : k < l.length) (c : UInt8) : Row (w.setCell ⟨g, k, none⟩ (.int .u8 (c.toNat : Int))) g (l.set k c) := by
  refine ⟨by have := h.1; simp [World.setCell]; omega, fun j u hu => ?_⟩
  rw [World.frozen?_setCell]
  by_cases e : k = j
  · subst e
    rw [List.getElem?_set_self hk] at hu
    injection hu with hu
    subst hu
    have h1 := h.2 k l[k] (List.getElem?_eq_getElem hk)
    exact ⟨World.cell?_setCell_same _ _ _ h1.1, h1.2⟩
  · rw [List.getElem?_set_ne e] at hu
    exact ⟨(World.cell?_setCell_other _ _ _ _ (by simp)).trans (h.2 j u hu).1, (h.2 j u hu).2⟩
theorem Row.at_ {w : World} {g : Nat} {l : List UInt8} (h : Row w g l) (k : Nat) (hk : k < l.length) : w.cell? ⟨g, k, none⟩ = some (.int .u8 (l[k].toNat : Int)) ∧ w.frozen? ⟨g, k, none⟩ = false :=
  h.2 k l[k] (List.getElem?_eq_getElem hk)

/-- 'string(b)' of a row -/
theorem Row.text {w : World} {g : Nat} {l : List UInt8} (h : Row w g l) (n cap : Nat) (hn : n = l.length) :
    (convert 47 9 (.slice (some ⟨g, 0, none⟩) n cap)).run Tryd.prog w = .ok (.string ⟨l.toArray⟩) w := by
  subst hn
  refine run_convert_bytes_back (P := Tryd.prog) w 47 9 5 ⟨g, 0, none⟩ cap l Tryd.underlying47 Tryd.underlying5 Tryd.underlying9 fun j hj => ?_
  have e : (⟨g, 0, none⟩ : Addr).add j = ⟨g, j, none⟩ := by unfold Addr.add; split <;> simp_all
  rw [e]
  exact (h.at_ j hj).1

/-- '[]byte(s)' lays a row -/
theorem row_of_string (w : World) (s : ByteArray) : ∃ cap C, s.size ≤ cap ∧ (convert 9 47 (.string s)).run Tryd.prog w = .ok (.slice (some ⟨w.heap.size, 0, none⟩) s.size cap) (w.drew.alloc (.cells C 5 (C.size, C.size + 1))) ∧
    Row (w.drew.alloc (.cells C 5 (C.size, C.size + 1))) w.heap.size s.data.toList := by
  refine ⟨_, _, grownCap_ge w s.size 0 5, run_bytes_of_string (P := Tryd.prog) w 9 47 5 s Tryd.underlying9 Tryd.underlying47 Tryd.underlying5, ?_, fun j u hu => ?_⟩
  · simp
  · obtain ⟨hj, rfl⟩ := List.getElem?_eq_some_iff.1 hu
    have hj' : j < s.data.size := by simpa using hj
    have hb := bytesRow_at s (grownCap w s.size 0 5) j hj'
    have hlt : j < (bytesRow s (grownCap w s.size 0 5)).size := by
      rcases Nat.lt_or_ge j (bytesRow s (grownCap w s.size 0 5)).size with h | h
      · exact h
      · rw [Array.getElem?_eq_none h] at hb; cases hb
    constructor
    · rw [show w.heap.size = w.drew.heap.size from rfl, World.cell?_alloc_mark, hb]; simp
    · rw [show w.heap.size = w.drew.heap.size from rfl, World.frozen?_alloc_mark]
      simp; omega

/-- a slice of bytes that lies below block B; of an empty one nothing is known -/
def Sl (w : World) (B : Nat) (A : Option Addr) (l : List UInt8) : Prop :=
  l = [] ∨ ∃ b off, A = some ⟨b, off, none⟩ ∧ b < B ∧ ∀ j u, l[j]? = some u → w.cell? ⟨b, off + j, none⟩ = some (.int .u8 (u.toNat : Int))

theorem Sl.keep {w w' : World} {B B0 : Nat} {A : Option Addr} {l : List UInt8} (h : Sl w B A l) (hb : Below B0 w w') (h1 : B ≤ B0) (B' : Nat) (h2 : B ≤ B') : Sl w' B' A l := by
  rcases h with h | ⟨b, off, hA, hlt, hc⟩
  · exact .inl h
  · exact .inr ⟨b, off, hA, by omega, fun j u hu => (hb.cell (p := ⟨b, off + j, none⟩) (by show b < _; omega)).trans (hc j u hu)⟩
theorem Sl.drop {w : World} {B b off : Nat} {l : List UInt8} (h : Sl w B (some ⟨b, off, none⟩) l) (d : Nat) : Sl w B (some ⟨b, off + d, none⟩) (l.drop d) := by
  rcases h with rfl | ⟨b', off', hA, hlt, hc⟩
  · exact .inl (by simp)
  · injection hA with hA
    injection hA with h1 h2
    subst h1; subst h2
    exact .inr ⟨b, off + d, rfl, hlt, fun j u hu => by rw [Nat.add_assoc]; exact hc _ u (by rw [← hu, List.getElem?_drop])⟩
theorem Row.sl {w : World} {g B : Nat} {l : List UInt8} (h : Row w g l) (hg : g < B) : Sl w B (some ⟨g, 0, none⟩) l :=
  .inr ⟨g, 0, rfl, hg, fun j u hu => by rw [Nat.zero_add]; exact (h.2 j u hu).1⟩
theorem Sl.text {w : World} {B : Nat} {A : Option Addr} {l : List UInt8} (h : Sl w B A l) (n cap : Nat) (hn : n = l.length) :
    (convert 47 9 (.slice A n cap)).run Tryd.prog w = .ok (.string ⟨l.toArray⟩) w := by
  subst hn
  rcases h with rfl | ⟨b, off, rfl, _, hc⟩
  · rw [run_convert_bytes_string w 47 9 5 A _ cap Tryd.underlying47 Tryd.underlying5 Tryd.underlying9]
    cases A <;> simp [Conv.bytesToString, loadCells]
    all_goals rfl
  · refine run_convert_bytes_back (P := Tryd.prog) w 47 9 5 ⟨b, off, none⟩ cap l Tryd.underlying47 Tryd.underlying5 Tryd.underlying9 fun j hj => ?_
    have e : (⟨b, off, none⟩ : Addr).add j = ⟨b, off + j, none⟩ := by unfold Addr.add; split <;> simp_all
    rw [e]
    exact hc j _ (List.getElem?_eq_getElem hj)

/-- block g is a row of just these bytes -/
def cells8 (l : List UInt8) : List Value := l.map fun u => .int .u8 (u.toNat : Int)
def Blk8 (w : World) (g : Nat) (l : List UInt8) : Prop := w.heap[g]? = some (.cells (cells8 l).toArray 5 (0, 0))

theorem cells8_one (l : List UInt8) : ∀ v ∈ cells8 l, v.oneCell' = true := by
  intro v hv
  obtain ⟨u, _, rfl⟩ := List.mem_map.1 hv
  rfl
theorem cells8_at (l : List UInt8) (j : Nat) (v : Value) (h : (cells8 l)[j]? = some v) : ∃ u, l[j]? = some u ∧ v = .int .u8 (u.toNat : Int) := by
  rw [cells8, List.getElem?_map] at h
  obtain ⟨u, hu, rfl⟩ := Option.map_eq_some_iff.1 h
  exact ⟨u, hu, rfl⟩
theorem cells8_length (l : List UInt8) : (cells8 l).length = l.length := by simp [cells8]
theorem cells8_set (l : List UInt8) (k : Nat) (c : UInt8) : cells8 (l.set k c) = (cells8 l).set k (.int .u8 (c.toNat : Int)) := by
  simp [cells8, List.map_set]
theorem Blk8.lt {w : World} {g : Nat} {l : List UInt8} (h : Blk8 w g l) : g < w.heap.size := by
  rcases Nat.lt_or_ge g w.heap.size with hlt | hge
  · exact hlt
  · unfold Blk8 at h; rw [Array.getElem?_eq_none hge] at h; cases h
theorem Blk8.row {w : World} {g : Nat} {l : List UInt8} (h : Blk8 w g l) : Row w g l := by
  refine ⟨h.lt, fun j u hu => ⟨?_, frozen_of_row w g j _ _ h⟩⟩
  rw [cell_of_row w g j _ _ _ h]
  simp [cells8, hu]
theorem Blk8.below {w w' : World} {g B : Nat} {l : List UInt8} (h : Blk8 w g l) (hb : Below B w w') (hg : g < B) : Blk8 w' g l := (hb.block g hg).trans h
theorem Blk8.drew {w : World} {g : Nat} {l : List UInt8} (h : Blk8 w g l) : Blk8 w.drew g l := h
theorem Blk8.alloc {w : World} {g : Nat} {l : List UInt8} (h : Blk8 w g l) (o : Obj) : Blk8 (w.alloc o) g l := (Below.heap_alloc w o g h.lt).trans h
theorem Blk8.set_ {w : World} {g : Nat} {l : List UInt8} (h : Blk8 w g l) (k : Nat) (c : UInt8) : Blk8 (w.setCell ⟨g, k, none⟩ (.int .u8 (c.toNat : Int))) g (l.set k c) := by
  have := heap_setCell_same w g k _ _ (.int .u8 (c.toNat : Int)) h
  unfold Blk8
  rw [this, cells8_set]
  simp
theorem Blk8.new (w : World) (l : List UInt8) : Blk8 (w.alloc (.cells (cells8 l).toArray 5)) w.heap.size l := heap_alloc_new w _

end Go.Proofs.YthdggnkpncoikaaDoor
