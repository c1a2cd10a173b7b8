/-
  SHAPES in memory (layer 6, pictures): a whole shape stored and read; what text, numeric and edited return.
-/
import Derived.Test.YteceealibfemjaaGreatDoorHasP
import Derived.Laws.Tables
namespace Go.Proofs.YteceealibfemjaaGreatDoor
open Go.RowKit Go.Shelf

/-- the cells of a shape -/
def shpC (c : Int) (pic : ByteArray) (d sc : Int) (sg : Bool) (n : Int) : Array Value := #[.int .u8 c, .int .u8 0, .string pic, .int .i64 d, .int .i64 sc, .bool sg, .bool false, .bool false, .bool false, .bool false, .int .i64 n]
/-- a shape with its picture -/
def shpV (x : Pic.ShR) (pic : ByteArray) : Array Value := shpC x.c pic x.d x.sc x.sg x.n
/-- what text, numeric and edited return: the shape (zero if none) -/
def shpO (o : Option Pic.ShR) : Array Value := shpV (o.getD Pic.shZ) ⟨#[]⟩
def FrmPost (o : Option Pic.ShR) (w : World) (e : Ending) (w' : World) : Prop := e = .returned (.tuple #[.agg (shpO o), .bool o.isSome]) ∧ Below w.heap.size w w'
/-- block b is a shape -/
def ShpB (w : World) (b : Nat) (cs : Array Value) : Prop := w.heap[b]? = some (.cells cs 28 (0, 0))
theorem ShpB.lt {w : World} {b : Nat} {cs : Array Value} (h : ShpB w b cs) : b < w.heap.size := (Array.getElem?_eq_some_iff.1 h).1
theorem ShpB.below {w w' : World} {b : Nat} {cs : Array Value} (h : ShpB w b cs) (hb : Below w.heap.size w w') : ShpB w' b cs := (hb.block b h.lt).trans h
theorem ShpB.load {w : World} {b : Nat} {cs : Array Value} (h : ShpB w b cs) (hs : cs.size = 11) : (loadVar 28 ⟨b, 0, none⟩).run Tryz.prog w = .ok (.agg cs) w :=
  run_loadVar_row (P := Tryz.prog) w b 28 28 cs (0, 0) _ h Tryz.underlying28 rfl (by rw [hs]; kernel_rfl)
theorem ShpB.cells {w : World} {b : Nat} {c : Int} {pic : ByteArray} {d sc : Int} {sg : Bool} {n : Int} (h : ShpB w b (shpC c pic d sc sg n)) : w.cell? ⟨b, 0, none⟩ = some (.int .u8 c) ∧ w.cell? ⟨b, 1, none⟩ = some (.int .u8 0) ∧ w.cell? ⟨b, 2, none⟩ = some (.string pic) ∧ w.cell? ⟨b, 3, none⟩ = some (.int .i64 d) ∧ w.cell? ⟨b, 4, none⟩ = some (.int .i64 sc) ∧ w.cell? ⟨b, 5, none⟩ = some (.bool sg) ∧ w.cell? ⟨b, 6, none⟩ = some (.bool false) ∧ w.cell? ⟨b, 7, none⟩ = some (.bool false) ∧ w.cell? ⟨b, 8, none⟩ = some (.bool false) ∧ w.cell? ⟨b, 9, none⟩ = some (.bool false) ∧ w.cell? ⟨b, 10, none⟩ = some (.int .i64 n) :=
  ⟨cell_of_row w b 0 _ _ _ h, cell_of_row w b 1 _ _ _ h, cell_of_row w b 2 _ _ _ h, cell_of_row w b 3 _ _ _ h, cell_of_row w b 4 _ _ _ h, cell_of_row w b 5 _ _ _ h, cell_of_row w b 6 _ _ _ h, cell_of_row w b 7 _ _ _ h, cell_of_row w b 8 _ _ _ h, cell_of_row w b 9 _ _ _ h, cell_of_row w b 10 _ _ _ h⟩
theorem shp_size (c : Int) (pic : ByteArray) (d sc : Int) (sg : Bool) (n : Int) : (shpC c pic d sc sg n).size = 11 := rfl
theorem shp_info (c : Int) (pic : ByteArray) (d sc : Int) (sg : Bool) (n : Int) : (Tryz.prog.info? 28).map (·.size) = some (shpC c pic d sc sg n).size := by rw [shp_size]; kernel_rfl
theorem shp_one (c : Int) (pic : ByteArray) (d sc : Int) (sg : Bool) (n : Int) : (shpC c pic d sc sg n).all (·.oneCell') = true := by simp [shpC, Value.oneCell']
theorem ShpB.set {w : World} {b : Nat} {cs : Array Value} (h : ShpB w b cs) (cs' : Array Value) : ShpB (w.setRow b cs') b cs' := setRow_heap w b cs cs' _ _ h
theorem cnt_le (c : UInt8) (l : List UInt8) : Pic.cnt c l ≤ l.length := by unfold Pic.cnt Lib.countByte; exact List.count_le_length
end Go.Proofs.YteceealibfemjaaGreatDoor
