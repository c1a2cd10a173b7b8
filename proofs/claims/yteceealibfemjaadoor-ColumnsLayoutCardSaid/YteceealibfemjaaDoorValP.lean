/-
  CONTRACTS of valid (layer 2, columns): the marks of a card lead from each byte of its text to a position.
-/
import Derived.Test.YteceealibfemjaaDoorFrame
import Derived.Test.YteceealibfemjaaDoorLeaf
namespace Go.Proofs.YteceealibfemjaaDoor
open Go.RowKit

def inTextL (ln co : Int) : Bool := decide (1 ≤ ln) && (decide (8 ≤ co) && decide (co ≤ 72))
/-- the marks from one on, behind a place, for a text of n bytes -/
def marksOk (n : Int) : Int → List MarkL → Bool
  | _, [] => true
  | before, m :: r => if m.1 ≤ before then false else if n ≤ m.1 then false else if inTextL m.2.1 m.2.2 then marksOk n m.1 r else false
def validL (c : CardL) : Bool := !c.text.isEmpty && (!c.marks.isEmpty && (decide ((c.marks.getD 0 (0, 0, 0)).1 = 0) && marksOk (c.text.length : Int) (-1) c.marks))
theorem marksOk_at (n bf : Int) (ms : List MarkL) (k : Nat) (h : k < ms.length) : marksOk n bf (ms.drop k) = if ms[k].1 ≤ bf then false else if n ≤ ms[k].1 then false else if inTextL ms[k].2.1 ms[k].2.2 then marksOk n ms[k].1 (ms.drop (k + 1)) else false := by
  rw [List.drop_eq_getElem_cons h, marksOk]
/-- the mark of a place: the last one that begins not behind it -/
def lastM (i : Int) (m : MarkL) : List MarkL → MarkL
  | [] => m
  | x :: r => lastM i (if x.1 ≤ i then x else m) r
/-- the position of a place of a card -/
def posL (c : CardL) (i : Int) : Int × Int :=
  ((lastM i (c.marks.getD 0 (0, 0, 0)) c.marks).2.1, (lastM i (c.marks.getD 0 (0, 0, 0)) c.marks).2.2 + i - (lastM i (c.marks.getD 0 (0, 0, 0)) c.marks).1)
end Go.Proofs.YteceealibfemjaaDoor
