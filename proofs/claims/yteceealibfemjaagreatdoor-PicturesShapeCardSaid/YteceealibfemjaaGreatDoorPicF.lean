/-
  PLAIN FUNCTIONS of Parse (layer 6, pictures).
-/
import Derived.Test.YteceealibfemjaaGreatDoorFndP
import Derived.Lib.Strings
import Derived.Lib.IndexAny
import Derived.Lib.IndexMore
import Derived.Lib.Bytealg
namespace Go.Proofs.YteceealibfemjaaGreatDoor
open Go.RowKit
namespace Pic
/-- a shape, plainly -/
structure ShR where
  c : Nat
  d : Nat
  sc : Int
  sg : Bool
  n : Nat
deriving DecidableEq
def cnt (c : UInt8) (l : List UInt8) : Nat := Lib.countByte l c
def maxCat (l : List UInt8) : Nat := l.foldl (fun m c => max m (catOf c)) 0
def texB (p : List UInt8) : Bool := decide (leadN (fun c => catOf c != 0) p < p.length) || !Lib.containsAny p [65, 88]
def texL (p : List UInt8) : Option ShR := if texB p then none else some ⟨maxCat p, 0, 0, false, p.length⟩
/-- has: a picture has a form -/
def hasG : Nat → List UInt8 → List UInt8 → Bool
  | 0, _, s => s.isEmpty
  | f + 1, form, s => match form with
    | [] => s.isEmpty
    | c :: r =>
      if Lib.hasPrefix r [35] then hasG f (Lib.trimPrefix r [35]) (s.drop (leadN (· == c) s))
      else if leadN (· == c) s = 0 then false else hasG f (Lib.trimPrefix r [35]) (s.drop 1)
def hasL (s form : List UInt8) : Bool := hasG form.length form s
def forms : List (List UInt8) := [[57, 57, 35], [57, 57, 35, 86, 57, 35], [86, 57, 57, 35], [86, 80, 80, 35, 57, 57, 35], [80, 80, 35, 57, 57, 35], [57, 57, 35, 80, 80, 35], [57, 57, 35, 80, 80, 35, 86]]
def scaL (s : List UInt8) (d : Nat) : Int :=
  if cnt 80 s = 0 then (Lib.cut s [86]).2.1.length
  else if Lib.hasSuffix s [57] then ((d + cnt 80 s : Nat) : Int) else -(cnt 80 s : Int)
def numB (p : List UInt8) : Bool := forms.any (hasL (Lib.trimPrefix p [83]))
def numL (p : List UInt8) : Option ShR :=
  if numB p then some ⟨4, cnt 57 p, scaL (Lib.trimPrefix p [83]) (cnt 57 p), Lib.hasPrefix p [83], cnt 57 p⟩ else none
structure Out where
  rest : List UInt8
  sg : Nat
  d : Nat
  sc : Nat
deriving DecidableEq
def takB (kinds : List UInt8) (least most : Nat) (rest : List UInt8) : Bool :=
  match rest with
  | [] => false
  | c :: r => decide (0 ≤ Lib.indexByte kinds c) && decide (least ≤ leadN (· == c) (c :: r)) && decide (leadN (· == c) (c :: r) ≤ most)
/-- take: the symbol, how many, and the rest -/
def takL (kinds : List UInt8) (least most : Nat) (rest : List UInt8) : List UInt8 × Nat × List UInt8 :=
  match rest with
  | [] => ([], 0, [])
  | c :: r => if takB kinds least most (c :: r) then ([c], leadN (· == c) (c :: r), (c :: r).drop (leadN (· == c) (c :: r))) else ([], 0, c :: r)
def barL (p : List UInt8) : List UInt8 :=
  (Lib.trimSuffix p [68, 66]).filter (fun c => !insOf c) ++ if Lib.hasSuffix p [68, 66] then [68, 66] else []
def floL (o : Out) : List UInt8 × Out :=
  let t := takL [36, 43, 45] 2 256 o.rest
  if t.2.1 = 0 then ([], o) else (t.1, ⟨t.2.2, if t.1 = [36] then o.sg else o.sg + 1, o.d + (t.2.1 - 1), o.sc⟩)
def whoL (o : Out) : List UInt8 × Out :=
  let t := takL [90, 42] 1 256 o.rest
  let o1 : Out := ⟨t.2.2, o.sg, o.d + t.2.1, o.sc⟩
  let f := if t.2.1 = 0 then floL o1 else (t.1, o1)
  let u := takL [57] 1 256 f.2.rest
  (if 0 < u.2.1 then [57] else if f.1 = [] then [57, 90, 42] else 57 :: f.1, ⟨u.2.2, f.2.sg, f.2.d + u.2.1, f.2.sc⟩)
def fraL (kinds : List UInt8) (o : Out) : Bool × Out :=
  let t := takL [46, 86] 1 1 o.rest
  if t.2.1 = 0 then (true, o)
  else
    let u := takL kinds 1 256 t.2.2
    (decide (0 < u.2.1) || t.1 == [86], ⟨u.2.2, o.sg, o.d + u.2.1, u.2.1⟩)
def taiL (o : Out) : Out :=
  let t := takL [43, 45] 1 1 o.rest
  if t.2.1 = 0 then (if o.rest = [67, 82] ∨ o.rest = [68, 66] then ⟨[], o.sg + 1, o.d, o.sc⟩ else o)
  else ⟨t.2.2, o.sg + t.2.1, o.d, o.sc⟩
def reaL (r : List UInt8) : Bool × Out :=
  let t := takL [43, 45] 1 1 r
  let u := takL [36] 1 1 t.2.2
  let w := whoL ⟨u.2.2, t.2.1, 0, 0⟩
  let f := fraL w.1 w.2
  if f.1 then ((taiL f.2).rest.isEmpty, taiL f.2) else (false, f.2)
def ediB (p : List UInt8) : Bool :=
  (reaL (barL p)).1 && decide ((reaL (barL p)).2.sg ≤ 1) && decide (0 < (reaL (barL p)).2.d) && !Lib.hasPrefix p [44] && !Lib.hasSuffix p [44]
def ediL (p : List UInt8) : Option ShR :=
  if ediB p then some ⟨5, (reaL (barL p)).2.d, (reaL (barL p)).2.sc, decide (0 < (reaL (barL p)).2.sg), p.length - cnt 86 p⟩ else none
def forL (p : List UInt8) : Option ShR := (texL p).orElse fun _ => (numL p).orElse fun _ => ediL p
def shZ : ShR := ⟨0, 0, 0, false, 0⟩
/-- Parse: the error, the shape and its picture -/
def parL (l : List UInt8) : Int × ShR × List UInt8 :=
  if (expL l).2 ≠ 0 then ((expL l).2, shZ, []) else
  match forL (expL l).1 with
  | none => (4, shZ, [])
  | some s => if 18 < s.d + cnt 80 (expL l).1 then (3, shZ, []) else (0, s, (expL l).1)
theorem takL_len (kinds : List UInt8) (least most : Nat) (rest : List UInt8) : (takL kinds least most rest).2.1 + (takL kinds least most rest).2.2.length ≤ rest.length := by
  unfold takL
  cases rest with
  | nil => simp
  | cons c r =>
    simp only []
    split
    · have := leadN_le (· == c) (c :: r)
      simp only [List.length_drop]; omega
    · simp
end Pic
theorem par_0 : Pic.parL [65, 40, 51, 41] = (0, ⟨1, 0, 0, false, 3⟩, [65, 65, 65]) := by decide +kernel
theorem par_1 : Pic.parL [88, 65, 57] = (0, ⟨2, 0, 0, false, 3⟩, [88, 65, 57]) := by decide +kernel
theorem par_2 : Pic.parL [88, 40, 50, 41, 66, 88, 40, 50, 41] = (0, ⟨3, 0, 0, false, 5⟩, [88, 88, 66, 88, 88]) := by decide +kernel
theorem par_3 : Pic.parL [83, 57, 40, 51, 41, 86, 57, 57] = (0, ⟨4, 5, 2, true, 5⟩, [83, 57, 57, 57, 86, 57, 57]) := by decide +kernel
theorem par_4 : Pic.parL [80, 80, 57] = (0, ⟨4, 1, 3, false, 1⟩, [80, 80, 57]) := by decide +kernel
theorem par_5 : Pic.parL [57, 40, 50, 41, 80, 40, 51, 41] = (0, ⟨4, 2, -3, false, 2⟩, [57, 57, 80, 80, 80]) := by decide +kernel
theorem par_6 : Pic.parL [90, 44, 90, 90, 57, 46, 57, 57, 45] = (0, ⟨5, 6, 2, true, 9⟩, [90, 44, 90, 90, 57, 46, 57, 57, 45]) := by decide +kernel
theorem par_7 : Pic.parL [36, 42, 42, 57] = (0, ⟨5, 3, 0, false, 4⟩, [36, 42, 42, 57]) := by decide +kernel
theorem par_8 : Pic.parL [36, 36, 36, 57] = (0, ⟨5, 3, 0, false, 4⟩, [36, 36, 36, 57]) := by decide +kernel
theorem par_9 : Pic.parL [45, 45, 57] = (0, ⟨5, 2, 0, true, 3⟩, [45, 45, 57]) := by decide +kernel
theorem par_10 : Pic.parL [57, 57, 47, 57, 57] = (0, ⟨5, 4, 0, false, 5⟩, [57, 57, 47, 57, 57]) := by decide +kernel
theorem par_11 : Pic.parL [43, 90, 57, 86, 57, 67, 82] = (4, Pic.shZ, []) := by decide +kernel
theorem par_12 : Pic.parL [88, 40, 48, 41] = (4, Pic.shZ, []) := by decide +kernel
theorem par_13 : Pic.parL [65, 40] = (4, Pic.shZ, []) := by decide +kernel
theorem par_14 : Pic.parL [57, 90] = (4, Pic.shZ, []) := by decide +kernel
theorem par_15 : Pic.parL [83] = (4, Pic.shZ, []) := by decide +kernel
theorem par_16 : Pic.parL [44, 57] = (4, Pic.shZ, []) := by decide +kernel
theorem par_17 : Pic.parL [57, 40, 49, 57, 41] = (3, Pic.shZ, []) := by decide +kernel
end Go.Proofs.YteceealibfemjaaGreatDoor
