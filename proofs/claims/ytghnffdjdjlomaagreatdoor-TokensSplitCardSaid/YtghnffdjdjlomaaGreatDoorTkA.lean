/-
  Fld TokP TokQ ScS (layer 3, tokens), in one text.
-/
import Derived.Test.YtghnffdjdjlomaaGreatDoorBase
import Derived.Shelf.Abstract
import Derived.Laws.CopyOwn
import Derived.Test.YtghnffdjdjlomaaGreatDoorAtC
import Derived.Lib.SlTrimSet
import Derived.Lib.Replace
import Derived.Lib.IndexAny
import Derived.Lib.IndexMore
import Derived.Test.YtghnffdjdjlomaaGreatDoorMaxT
/-! THE CONTRACT of chars.Fold (for layer 3), with words for bytes in memory: 'Row': a row that the call made; 'Sl': a slice of bytes that lies below a block; what keeps them. -/
namespace Go.Proofs.YtghnffdjdjlomaaGreatDoor
open Go.RowKit Go.Shelf

/-- the cells of block g, from its head on, hold the bytes l, and may be written -/
def Row (w : World) (g : Nat) (l : List UInt8) : Prop :=
  g < w.heap.size ∧ ∀ j u, l[j]? = some u → w.cell? ⟨g, j, none⟩ = some (.int .u8 (u.toNat : Int)) ∧ w.frozen? ⟨g, j, none⟩ = false

theorem Row.block {w w' : World} {g : Nat} {l : List UInt8} (h : Row w g l) (hs : g < w'.heap.size) (hb : w'.heap[g]? = w.heap[g]?) : Row w' g l :=
  ⟨hs, fun j u hu => ⟨(World.cell?_of_block (a := ⟨g, j, none⟩) hb).trans (h.2 j u hu).1, (World.frozen?_of_block (a := ⟨g, j, none⟩) hb).trans (h.2 j u hu).2⟩⟩
theorem Row.below {w w' : World} {g B : Nat} {l : List UInt8} (h : Row w g l) (hb : Below B w w') (hg : g < B) : Row w' g l :=
  h.block (Nat.lt_of_lt_of_le h.1 hb.size) (hb.block g hg)
theorem Row.drew {w : World} {g : Nat} {l : List UInt8} (h : Row w g l) : Row w.drew g l := h.block h.1 rfl
theorem Row.alloc {w : World} {g : Nat} {l : List UInt8} (h : Row w g l) (o : Obj) : Row (w.alloc o) g l :=
  h.block (by have := h.1; simp; omega) (Below.heap_alloc w o g h.1)
theorem Row.far {w : World} {g : Nat} {l : List UInt8} (h : Row w g l) {p : Addr} (hp : g ≠ p.block) (u : Value) : Row (w.setCell p u) g l :=
  h.block (by have := h.1; simp [World.setCell]; omega) (Below.heap_setCell w p u g hp)
theorem Row.set_ {w : World} {g : Nat} {l : List UInt8} (h : Row w g l) (k : Nat) (hk : k < l.length) (c : UInt8) : Row (w.setCell ⟨g, k, none⟩ (.int .u8 (c.toNat : Int))) g (l.set k c) := by
  refine ⟨by have := h.1; simp [World.setCell]; omega, fun j u hu => ?_⟩
  rw [World.frozen?_setCell]
  by_cases e : k = j
  · subst e
    rw [List.getElem?_set_self hk] at hu
    injection hu with hu
    subst hu
    have h1 := h.2 k l[k] (List.getElem?_eq_getElem hk)
    exact ⟨World.cell?_setCell_same _ _ _ h1.1, h1.2⟩
  · rw [List.getElem?_set_ne e] at hu
    exact ⟨(World.cell?_setCell_other _ _ _ _ (by simp)).trans (h.2 j u hu).1, (h.2 j u hu).2⟩
theorem Row.at_ {w : World} {g : Nat} {l : List UInt8} (h : Row w g l) (k : Nat) (hk : k < l.length) : w.cell? ⟨g, k, none⟩ = some (.int .u8 (l[k].toNat : Int)) ∧ w.frozen? ⟨g, k, none⟩ = false :=
  h.2 k l[k] (List.getElem?_eq_getElem hk)

/-- 'string(b)' of a row -/
theorem Row.text {w : World} {g : Nat} {l : List UInt8} (h : Row w g l) (n cap : Nat) (hn : n = l.length) :
    (convert 79 9 (.slice (some ⟨g, 0, none⟩) n cap)).run Tryz.prog w = .ok (.string ⟨l.toArray⟩) w := by
  subst hn
  refine run_convert_bytes_back (P := Tryz.prog) w 79 9 5 ⟨g, 0, none⟩ cap l Tryz.underlying79 Tryz.underlying5 Tryz.underlying9 fun j hj => ?_
  have e : (⟨g, 0, none⟩ : Addr).add j = ⟨g, j, none⟩ := by unfold Addr.add; split <;> simp_all
  rw [e]
  exact (h.at_ j hj).1

/-- '[]byte(s)' lays a row -/
theorem row_of_string (w : World) (s : ByteArray) : ∃ cap C, (convert 9 79 (.string s)).run Tryz.prog w = .ok (.slice (some ⟨w.heap.size, 0, none⟩) s.size cap) (w.drew.alloc (.cells C 5 (C.size, C.size + 1))) ∧
    Row (w.drew.alloc (.cells C 5 (C.size, C.size + 1))) w.heap.size s.data.toList := by
  refine ⟨_, _, run_bytes_of_string (P := Tryz.prog) w 9 79 5 s Tryz.underlying9 Tryz.underlying79 Tryz.underlying5, ?_, fun j u hu => ?_⟩
  · simp
  · obtain ⟨hj, rfl⟩ := List.getElem?_eq_some_iff.1 hu
    have hj' : j < s.data.size := by simpa using hj
    have hb := bytesRow_at s (grownCap w s.size 0 5) j hj'
    have hlt : j < (bytesRow s (grownCap w s.size 0 5)).size := by
      rcases Nat.lt_or_ge j (bytesRow s (grownCap w s.size 0 5)).size with h | h
      · exact h
      · rw [Array.getElem?_eq_none h] at hb; cases hb
    constructor
    · rw [show w.heap.size = w.drew.heap.size from rfl, World.cell?_alloc_mark, hb]; simp
    · rw [show w.heap.size = w.drew.heap.size from rfl, World.frozen?_alloc_mark]
      simp; omega

/-- a slice of bytes that lies below block B; of an empty one nothing is known -/
def Sl (w : World) (B : Nat) (A : Option Addr) (l : List UInt8) : Prop :=
  l = [] ∨ ∃ b off, A = some ⟨b, off, none⟩ ∧ b < B ∧ ∀ j u, l[j]? = some u → w.cell? ⟨b, off + j, none⟩ = some (.int .u8 (u.toNat : Int))

theorem Sl.keep {w w' : World} {B B0 : Nat} {A : Option Addr} {l : List UInt8} (h : Sl w B A l) (hb : Below B0 w w') (h1 : B ≤ B0) (B' : Nat) (h2 : B ≤ B') : Sl w' B' A l := by
  rcases h with h | ⟨b, off, hA, hlt, hc⟩
  · exact .inl h
  · exact .inr ⟨b, off, hA, by omega, fun j u hu => (hb.cell (p := ⟨b, off + j, none⟩) (by show b < _; omega)).trans (hc j u hu)⟩
theorem Sl.drop {w : World} {B b off : Nat} {l : List UInt8} (h : Sl w B (some ⟨b, off, none⟩) l) (d : Nat) : Sl w B (some ⟨b, off + d, none⟩) (l.drop d) := by
  rcases h with rfl | ⟨b', off', hA, hlt, hc⟩
  · exact .inl (by simp)
  · injection hA with hA
    injection hA with h1 h2
    subst h1; subst h2
    exact .inr ⟨b, off + d, rfl, hlt, fun j u hu => by rw [Nat.add_assoc]; exact hc _ u (by rw [← hu, List.getElem?_drop])⟩
theorem Row.sl {w : World} {g B : Nat} {l : List UInt8} (h : Row w g l) (hg : g < B) : Sl w B (some ⟨g, 0, none⟩) l :=
  .inr ⟨g, 0, rfl, hg, fun j u hu => by rw [Nat.zero_add]; exact (h.2 j u hu).1⟩
theorem Sl.text {w : World} {B : Nat} {A : Option Addr} {l : List UInt8} (h : Sl w B A l) (n cap : Nat) (hn : n = l.length) :
    (convert 79 9 (.slice A n cap)).run Tryz.prog w = .ok (.string ⟨l.toArray⟩) w := by
  subst hn
  rcases h with rfl | ⟨b, off, rfl, _, hc⟩
  · rw [run_convert_bytes_string w 79 9 5 A _ cap Tryz.underlying79 Tryz.underlying5 Tryz.underlying9]
    cases A <;> simp [Conv.bytesToString, loadCells]
    all_goals rfl
  · refine run_convert_bytes_back (P := Tryz.prog) w 79 9 5 ⟨b, off, none⟩ cap l Tryz.underlying79 Tryz.underlying5 Tryz.underlying9 fun j hj => ?_
    have e : (⟨b, off, none⟩ : Addr).add j = ⟨b, off + j, none⟩ := by unfold Addr.add; split <;> simp_all
    rw [e]
    exact hc j _ (List.getElem?_eq_getElem hj)

/-- block g is a row of just these bytes -/
def cells8 (l : List UInt8) : List Value := l.map fun u => .int .u8 (u.toNat : Int)
def Blk8 (w : World) (g : Nat) (l : List UInt8) : Prop := w.heap[g]? = some (.cells (cells8 l).toArray 5 (0, 0))

theorem cells8_one (l : List UInt8) : ∀ v ∈ cells8 l, v.oneCell' = true := by
  intro v hv
  obtain ⟨u, _, rfl⟩ := List.mem_map.1 hv
  rfl
theorem cells8_at (l : List UInt8) (j : Nat) (v : Value) (h : (cells8 l)[j]? = some v) : ∃ u, l[j]? = some u ∧ v = .int .u8 (u.toNat : Int) := by
  rw [cells8, List.getElem?_map] at h
  obtain ⟨u, hu, rfl⟩ := Option.map_eq_some_iff.1 h
  exact ⟨u, hu, rfl⟩
theorem cells8_length (l : List UInt8) : (cells8 l).length = l.length := by simp [cells8]
theorem cells8_set (l : List UInt8) (k : Nat) (c : UInt8) : cells8 (l.set k c) = (cells8 l).set k (.int .u8 (c.toNat : Int)) := by
  simp [cells8, List.map_set]
theorem Blk8.lt {w : World} {g : Nat} {l : List UInt8} (h : Blk8 w g l) : g < w.heap.size := by
  rcases Nat.lt_or_ge g w.heap.size with hlt | hge
  · exact hlt
  · unfold Blk8 at h; rw [Array.getElem?_eq_none hge] at h; cases h
theorem Blk8.row {w : World} {g : Nat} {l : List UInt8} (h : Blk8 w g l) : Row w g l := by
  refine ⟨h.lt, fun j u hu => ⟨?_, frozen_of_row w g j _ _ h⟩⟩
  rw [cell_of_row w g j _ _ _ h]
  simp [cells8, hu]
theorem Blk8.below {w w' : World} {g B : Nat} {l : List UInt8} (h : Blk8 w g l) (hb : Below B w w') (hg : g < B) : Blk8 w' g l := (hb.block g hg).trans h
theorem Blk8.drew {w : World} {g : Nat} {l : List UInt8} (h : Blk8 w g l) : Blk8 w.drew g l := h
theorem Blk8.alloc {w : World} {g : Nat} {l : List UInt8} (h : Blk8 w g l) (o : Obj) : Blk8 (w.alloc o) g l := (Below.heap_alloc w o g h.lt).trans h
theorem Blk8.set_ {w : World} {g : Nat} {l : List UInt8} (h : Blk8 w g l) (k : Nat) (c : UInt8) : Blk8 (w.setCell ⟨g, k, none⟩ (.int .u8 (c.toNat : Int))) g (l.set k c) := by
  have := heap_setCell_same w g k _ _ (.int .u8 (c.toNat : Int)) h
  unfold Blk8
  rw [this, cells8_set]
  simp
theorem Blk8.new (w : World) (l : List UInt8) : Blk8 (w.alloc (.cells (cells8 l).toArray 5)) w.heap.size l := heap_alloc_new w _

open Go.RowKit Go.Shelf

def up (c : UInt8) : UInt8 := if 97 ≤ c.toNat ∧ c.toNat ≤ 122 then UInt8.ofNat (c.toNat - 32) else c
def upTo (l : List UInt8) (k : Nat) : List UInt8 := (l.take k).map up ++ l.drop k

theorem upTo_split (l : List UInt8) (k : Nat) (hk : k < l.length) : upTo l k = (l.take k).map up ++ l[k] :: l.drop (k + 1) := by
  rw [upTo, List.drop_eq_getElem_cons hk]
theorem upTo_length (l : List UInt8) (k : Nat) (hk : k ≤ l.length) : (upTo l k).length = l.length := by simp [upTo]; omega
theorem upTo_at (l : List UInt8) (k : Nat) (hk : k < l.length) : (upTo l k)[k]? = some l[k] := by
  rw [upTo_split l k hk, List.getElem?_append_right (by simp; omega)]
  simp [Nat.min_eq_left (Nat.le_of_lt hk)]
theorem upTo_succ (l : List UInt8) (k : Nat) (hk : k < l.length) : upTo l (k + 1) = (upTo l k).set k (up l[k]) := by
  rw [upTo_split l k hk, List.set_append_right _ _ (by simp; omega)]
  rw [show k - ((l.take k).map up).length = 0 by simp; omega, List.set_cons_zero, upTo, List.take_succ_eq_append_getElem hk]
  simp only [List.map_append, List.map_cons, List.map_nil, List.append_assoc, List.singleton_append]
theorem upTo_zero (l : List UInt8) : upTo l 0 = l := by simp [upTo]
theorem upTo_all (l : List UInt8) : upTo l l.length = l.map up := by simp [upTo]

theorem step_up {l : List UInt8} {k g : Nat} {wr : World} (hk : k < l.length) (h : Row wr g (upTo l k)) (h1 : 97 ≤ l[k].toNat) (h2 : l[k].toNat ≤ 122) :
    Row (wr.setCell ⟨g, k, none⟩ (.int .u8 ((l[k].toNat : Int) - 97 + 65))) g (upTo l (k + 1)) := by
  have hu : ((up l[k]).toNat : Int) = (l[k].toNat : Int) - 97 + 65 := by
    unfold up; rw [if_pos ⟨h1, h2⟩]; simp; omega
  rw [← hu, upTo_succ l k hk]
  exact h.set_ k (by rw [upTo_length _ _ (by omega)]; exact hk) _
theorem step_same {l : List UInt8} {k g : Nat} {wr : World} (hk : k < l.length) (h : Row wr g (upTo l k)) (h1 : ¬ (97 ≤ l[k].toNat ∧ l[k].toNat ≤ 122)) : Row wr g (upTo l (k + 1)) := by
  have hu : up l[k] = l[k] := by unfold up; rw [if_neg h1]
  have e : (upTo l k).set k l[k] = upTo l k := by
    rw [upTo_split l k hk, List.set_append_right _ _ (by simp; omega)]
    rw [show k - ((l.take k).map up).length = 0 by simp; omega, List.set_cons_zero]
  rw [upTo_succ l k hk, hu, e]; exact h

set_option maxHeartbeats 400000 in
theorem Fold_c (s : ByteArray) (w : World) (hs : s.size ≤ maxLen) :
    Calls Tryz.prog 115 #[.string s] w fun e w' => e = .returned (.string ⟨(s.data.toList.map up).toArray⟩) ∧ Below w.heap.size w w' := by
  have hlen : Hid (s.data.toList.length = s.size) := by rw [Array.length_toList]; rfl
  obtain ⟨cap, C, hconv, hrow⟩ := row_of_string w s
  unfold maxLen at hs
  go_enter Tryz.func115, Tryz.ntmps115
  go_wp2_with fail
  clear hconv
  go_loopw [10] (fun i wr => ∃ k : Nat, k ≤ s.size ∧ i = .int .i64 k ∧ Row wr w.heap.size (upTo s.data.toList k) ∧ Below w.heap.size w wr) (fun i _ => s.size - (intOf i).toNat)
  case atStart => exact ⟨0, Nat.zero_le _, rfl, by rw [upTo_zero]; exact hrow, ((Below.refl _ _).alloc (Nat.le_refl _) _).drew⟩
  case round =>
    obtain ⟨k, hk, rfl, hr, hb⟩ := hrel
    by_cases hlt : k < s.size
    · have hkl : k < s.data.toList.length := by rw [hlen.out]; exact hlt
      have hcell := (hr.at_ k (by rw [upTo_length _ _ (by omega)]; exact hkl)).1
      have hfr := (hr.at_ k (by rw [upTo_length _ _ (by omega)]; exact hkl)).2
      have hat := upTo_at _ _ hkl
      rw [List.getElem?_eq_getElem (by rw [upTo_length _ _ (by omega)]; exact hkl)] at hat
      injection hat with hat
      rw [hat] at hcell
      clear hat
      have hbyte := s.data.toList[k].toNat_lt
      by_cases h1 : 97 ≤ s.data.toList[k].toNat ∧ s.data.toList[k].toNat ≤ 122
      · have R := step_up hkl hr h1.1 h1.2
        obtain ⟨u, hu⟩ : ∃ u, u = s.data.toList[k] := ⟨_, rfl⟩
        have HU := hide hu
        rw [← hu] at hcell h1 hbyte R
        clear hu
        obtain ⟨ha, hz⟩ := h1
        have HR := hide R
        clear R
        go_wp2_with fail
        exact ⟨⟨k + 1, by omega, by go_num, HR.out, hb.setCell (Nat.le_refl _) _⟩, by simp [intOf]; omega⟩
      · have R := step_same hkl hr h1
        obtain ⟨u, hu⟩ : ∃ u, u = s.data.toList[k] := ⟨_, rfl⟩
        have HU := hide hu
        rw [← hu] at hcell h1 hbyte
        clear hu
        have HR := hide R
        clear R
        by_cases ha : 97 ≤ u.toNat
        · have hz : 122 < u.toNat := by omega
          clear h1
          go_wp2_with fail
          exact ⟨⟨k + 1, by omega, by go_num, HR.out, hb⟩, by simp [intOf]; omega⟩
        · clear h1
          go_wp2_with fail
          exact ⟨⟨k + 1, by omega, by go_num, HR.out, hb⟩, by simp [intOf]; omega⟩
    · obtain rfl : k = s.size := by omega
      have hr' : Row wr w.heap.size (s.data.toList.map up) := by
        have h := hr
        rw [← hlen.out, upTo_all] at h
        exact h
      have hback := hr'.text s.size cap (by rw [List.length_map, hlen.out])
      clear hr hr'
      go_wp2_with fail
      go_ret
      exact ⟨rfl, hb⟩
end Go.Proofs.YtghnffdjdjlomaaGreatDoor

/-! THE SCANNER AS A FUNCTION OF LISTS OF BYTES (layer 3, tokens), in the words of the shelf. -/
namespace Go.Proofs.YtghnffdjdjlomaaGreatDoor
open Go.RowKit

/-- a token -/
structure TokL where
  laidT ::
  kind : Int
  text : List UInt8
  line : Int
  col : Int
  left : Bool

def digS : List UInt8 := [48, 49, 50, 51, 52, 53, 54, 55, 56, 57]
def letS : List UInt8 := [65, 66, 67, 68, 69, 70, 71, 72, 73, 74, 75, 76, 77, 78, 79, 80, 81, 82, 83, 84, 85, 86, 87, 88, 89, 90, 97, 98, 99, 100, 101, 102, 103, 104, 105, 106, 107, 108, 109, 110, 111, 112, 113, 114, 115, 116, 117, 118, 119, 120, 121, 122]
def wrdS : List UInt8 := [48, 49, 50, 51, 52, 53, 54, 55, 56, 57, 65, 66, 67, 68, 69, 70, 71, 72, 73, 74, 75, 76, 77, 78, 79, 80, 81, 82, 83, 84, 85, 86, 87, 88, 89, 90, 97, 98, 99, 100, 101, 102, 103, 104, 105, 106, 107, 108, 109, 110, 111, 112, 113, 114, 115, 116, 117, 118, 119, 120, 121, 122, 45]
/-- how many bytes in front are of a set -/
def lenL (l cs : List UInt8) : Nat := l.length - (Lib.trimLeftS l cs).length
theorem lenL_le (l cs : List UInt8) : lenL l cs ≤ l.length := Nat.sub_le _ _
/-- the text of the nth token before, if it is a word -/
def befL (ts : List TokL) (n : Nat) : List UInt8 :=
  if ts.length < n then [] else match ts[ts.length - n]? with
  | some t => if t.kind = 1 then t.text else []
  | none => []
def annL (ts : List TokL) (n : Nat) : Bool := befL ts n == [80, 73, 67] || befL ts n == [80, 73, 67, 84, 85, 82, 69]
/-- a picture begins with the text -/
def picL (ts : List TokL) (rest : List UInt8) : Bool :=
  if Lib.hasPrefix rest [61, 61] then false
  else if annL ts 1 then !((rest.take (lenL rest wrdS)).map up == [73, 83])
  else (befL ts 1 == [73, 83]) && annL ts 2
/-- a space, or the end -/
def endsL (l : List UInt8) : Bool := match l with
  | [] => true
  | c :: _ => c == 32
/-- how much separates -/
def skipN (ts : List TokL) : List UInt8 → Nat
  | [] => 0
  | c :: r => if c = 32 then skipN ts r + 1 else if c = 44 ∨ c = 59 then (if endsL r && !picL ts (c :: r) then skipN ts r + 1 else 0) else 0
theorem skipN_le (ts : List TokL) (l : List UInt8) : skipN ts l ≤ l.length := by
  induction l with
  | nil => exact Nat.le_refl _
  | cons c r ih =>
    unfold skipN
    split
    · simp; omega
    · split
      · split
        · simp; omega
        · exact Nat.zero_le _
      · exact Nat.zero_le _
/-- a token without its place, and how long it is; or the error -/
abbrev NextL := Except Int (Int × List UInt8 × Nat)
/-- the bytes that do not end a picture -/
def notS : List UInt8 := [46, 44, 59]
def lastIn (l : List UInt8) : Bool := decide (0 ≤ Lib.indexByte notS (l.getD (l.length - 1) 0))
def pictureL (rest : List UInt8) : NextL :=
  let f := (Lib.cut rest [32]).1
  let g := if lastIn f then f.take (f.length - 1) else f
  if g = [] then .error 4 else if lastIn g then .error 4 else if decide (0 ≤ Lib.indexByte g 34) then .error 4 else .ok (4, g.map up, g.length)
/-- how many bytes stand in front of the closing quote -/
def qEnd : List UInt8 → Option Nat
  | [] => none
  | [c] => if c = 34 then some 0 else none
  | c :: d :: r => if c = 34 then (if d = 34 then (qEnd r).map (· + 2) else some 0) else (qEnd (d :: r)).map (· + 1)
def quoteL (rest : List UInt8) : NextL := match qEnd (rest.drop 1) with
  | none => .error 4
  | some 0 => .error 4
  | some (n + 1) => .ok (3, Lib.replaceAll ((rest.drop 1).take (n + 1)) [34, 34] [34], n + 3)
/-- how long the number is -/
def numN (rest : List UInt8) (sep : Bool) : Nat :=
  let first := if sep && (rest.getD 0 0 == 43 || rest.getD 0 0 == 45) then 1 else 0
  let point := first + lenL (rest.drop first) digS
  if first = 0 ∧ 0 < lenL (rest.drop point) wrdS then 0
  else
    let fr := if Lib.hasPrefix (rest.drop point) [46] then lenL (rest.drop (point + 1)) digS else 0
    if 0 < fr then point + 1 + fr else if first < point then point else 0
def numberL (text behind : List UInt8) : NextL :=
  if 0 < lenL behind wrdS then .error 4
  else if 18 < ((Lib.trimLeftS text [43, 45]).length : Int) - (Lib.countByte text 46 : Int) then .error 5
  else .ok (2, text, text.length)
def wordL (text : List UInt8) : NextL :=
  if Lib.hasSuffix text [45] then .error 4 else if Lib.containsAny text letS then (if 30 < text.length then .error 5 else .ok (1, text, text.length)) else .error 4
def twoL : List (List UInt8) := [[42, 42], [60, 61], [62, 61], [60, 62]]
def signS : List UInt8 := [40, 41, 58, 43, 45, 42, 47, 61, 60, 62]
def signL (text : List UInt8) : NextL := match twoL.find? (fun p => Lib.hasPrefix text p) with
  | some p => .ok (5, p, 2)
  | none => if Lib.indexByte signS (text.getD 0 0) < 0 then .error 4 else .ok (5, text.take 1, 1)
/-- a sign may belong to a number -/
def sepL (t : List UInt8) (i : Nat) : Bool := i == 0 || (t.getD (i - 1) 0 == 32 || t.getD (i - 1) 0 == 40)
def nextL (ts : List TokL) (t : List UInt8) (i : Nat) : NextL :=
  let rest := t.drop i
  if picL ts rest then pictureL rest
  else if rest.getD 0 0 = 34 then quoteL rest
  else if Lib.hasPrefix rest [46] && endsL (t.drop (i + 1)) then .ok (6, [46], 1)
  else if Lib.hasPrefix rest [61, 61] then .ok (7, [61, 61], 2)
  else if 0 < numN rest (sepL t i) then numberL (rest.take (numN rest (sepL t i))) (rest.drop (numN rest (sepL t i)))
  else if 0 < lenL rest wrdS ∧ rest.getD 0 0 ≠ 45 then wordL ((rest.take (lenL rest wrdS)).map up)
  else signL rest
/-- the tokens of a card, from a place on -/
def goL (c : CardL) : Nat → List TokL → Nat → Except (Int × Int × Int) (List TokL)
  | 0, ts, _ => .ok ts
  | fuel + 1, ts, i =>
    let j := i + skipN ts (c.text.drop i)
    if c.text.length ≤ j then .ok ts
    else match nextL ts c.text j with
      | .error e => .error (e, (posL c j).1, (posL c j).2)
      | .ok (k, x, n) => if ts.length = 65536 then .error (3, (posL c j).1, (posL c j).2)
        else goL c fuel (ts ++ [⟨k, x, (posL c j).1, (posL c j).2, decide ((posL c j).2 < 12)⟩]) (j + n)
def cardT (c : CardL) (ts : List TokL) : Except (Int × Int × Int) (List TokL) := if atOk c 0 then goL c (c.text.length + 1) ts 0 else .error (1, 0, 0)
def scanT : List CardL → List TokL → Except (Int × Int × Int) (List TokL)
  | [], ts => .ok ts
  | c :: r, ts => match cardT c ts with
    | .error f => .error f
    | .ok ts' => scanT r ts'
end Go.Proofs.YtghnffdjdjlomaaGreatDoor

/-! HOW LONG A TOKEN IS (layer 3, tokens): plain facts on the scanner's functions. -/
namespace Go.Proofs.YtghnffdjdjlomaaGreatDoor
open Go.RowKit

theorem isPrefixOf_le : ∀ (p l : List UInt8), p.isPrefixOf l = true → p.length ≤ l.length
  | [], _, _ => Nat.zero_le _
  | _ :: _, [], h => by simp [List.isPrefixOf] at h
  | a :: p, b :: l, h => by
    simp only [List.isPrefixOf, Bool.and_eq_true] at h
    have := isPrefixOf_le p l h.2
    simp; omega
theorem prefix_le {l p : List UInt8} (h : Lib.hasPrefix l p = true) : p.length ≤ l.length := isPrefixOf_le p l h
theorem cut_le (l s : List UInt8) : (Lib.cut l s).1.length ≤ l.length := by
  unfold Lib.cut
  split
  · rw [List.length_take]; exact Nat.min_le_right _ _
  · exact Nat.le_refl _
theorem qEnd_lt : ∀ (l : List UInt8) (n : Nat), qEnd l = some n → n < l.length
  | [], _, h => by simp [qEnd] at h
  | [c], n, h => by
    unfold qEnd at h
    split at h
    · injection h with h; subst h; simp
    · cases h
  | c :: d :: r, n, h => by
    unfold qEnd at h
    split at h
    · split at h
      · cases hq : qEnd r with
        | none => rw [hq] at h; cases h
        | some m =>
          have := qEnd_lt r m hq
          rw [hq] at h; injection h with h; subst h; simp; omega
      · injection h with h; subst h; simp
    · cases hq : qEnd (d :: r) with
      | none => rw [hq] at h; cases h
      | some m =>
        have := qEnd_lt (d :: r) m hq
        rw [hq] at h; injection h with h; subst h; simp at this ⊢; omega
theorem numN_le (rest : List UInt8) (sep : Bool) : numN rest sep ≤ rest.length := by
  obtain ⟨first, hf⟩ : ∃ first, first = (if sep && (rest.getD 0 0 == 43 || rest.getD 0 0 == 45) then 1 else 0) := ⟨_, rfl⟩
  have hf1 : first ≤ rest.length := by
    rw [hf]
    cases rest with
    | nil => simp
    | cons c r => split <;> simp
  unfold numN
  rw [← hf]
  have h1 := lenL_le (rest.drop first) digS
  rw [List.length_drop] at h1
  obtain ⟨point, hp⟩ : ∃ point, point = first + lenL (rest.drop first) digS := ⟨_, rfl⟩
  have hp1 : point ≤ rest.length := by omega
  simp only [← hp]
  have h3 := lenL_le (rest.drop (point + 1)) digS
  rw [List.length_drop] at h3
  split
  · exact Nat.zero_le _
  · by_cases hpre : Lib.hasPrefix (rest.drop point) [46] = true
    · have h2 := prefix_le hpre
      rw [List.length_drop] at h2
      simp only [hpre, if_true]
      simp at h2
      split
      · omega
      · split <;> omega
    · rw [if_neg hpre, if_neg (by omega)]
      split <;> omega
theorem next_size {ts : List TokL} {t : List UInt8} {j : Nat} {k : Int} {x : List UInt8} {n : Nat} (hj : j < t.length) (h : nextL ts t j = .ok (k, x, n)) : 1 ≤ n ∧ j + n ≤ t.length ∧ 1 ≤ k ∧ k ≤ 7 := by
  have hl : (t.drop j).length = t.length - j := List.length_drop
  obtain ⟨rest, hr⟩ : ∃ rest, rest = t.drop j := ⟨_, rfl⟩
  unfold nextL at h
  simp only [← hr] at h hl
  split at h
  · unfold pictureL at h
    have hc := cut_le rest [32]
    obtain ⟨f, hf⟩ : ∃ f, f = (Lib.cut rest [32]).1 := ⟨_, rfl⟩
    simp only [← hf] at h hc
    obtain ⟨g, hg⟩ : ∃ g, g = (if lastIn f then f.take (f.length - 1) else f) := ⟨_, rfl⟩
    have hgl : g.length ≤ f.length := by rw [hg]; split <;> simp
    simp only [← hg] at h
    split at h
    · cases h
    · rename_i hne
      split at h
      · cases h
      · split at h
        · cases h
        · injection h with h; injection h with h1 h; injection h with h2 h3
          have : g.length ≠ 0 := fun e => hne (List.eq_nil_of_length_eq_zero e)
          omega
  · split at h
    · unfold quoteL at h
      split at h
      · cases h
      · cases h
      · rename_i m hq
        have := qEnd_lt _ _ hq
        rw [List.length_drop] at this
        injection h with h; injection h with h1 h; injection h with h2 h3
        omega
    · split at h
      · rename_i hp
        rw [Bool.and_eq_true] at hp
        have := prefix_le hp.1
        injection h with h; injection h with h1 h; injection h with h2 h3
        simp at this
        omega
      · split at h
        · rename_i hp
          have := prefix_le hp
          injection h with h; injection h with h1 h; injection h with h2 h3
          simp at this
          omega
        · split at h
          · rename_i hn
            have hnl := numN_le rest (sepL t j)
            unfold numberL at h
            split at h
            · cases h
            · split at h
              · cases h
              · injection h with h; injection h with h1 h; injection h with h2 h3
                rw [List.length_take] at h3
                omega
          · split at h
            · rename_i hn
              have hnl := lenL_le rest wrdS
              unfold wordL at h
              split at h
              · cases h
              · split at h
                · split at h
                  · cases h
                  · injection h with h; injection h with h1 h; injection h with h2 h3
                    rw [List.length_map, List.length_take] at h3
                    omega
                · cases h
            · unfold signL at h
              split at h
              · rename_i p hp
                have h1 := List.find?_some hp
                have h2 := List.mem_of_find?_eq_some hp
                have h3 := prefix_le h1
                have h4 : p.length = 2 := by
                  simp only [twoL, List.mem_cons, List.not_mem_nil, or_false] at h2
                  rcases h2 with rfl | rfl | rfl | rfl <;> rfl
                injection h with h; injection h with h5 h; injection h with h6 h7
                omega
              · split at h
                · cases h
                · injection h with h; injection h with h5 h; injection h with h6 h7
                  omega
end Go.Proofs.YtghnffdjdjlomaaGreatDoor

/-! THE SCANNER IN MEMORY (layer 3, tokens): its block, its tokens, the marks of its card; what keeps them; the marks' place. -/
namespace Go.Proofs.YtghnffdjdjlomaaGreatDoor
open Go.RowKit

/-- the cells of tokens -/
def tokCells (ts : List TokL) : List Value := ts.flatMap fun t => [.int .u8 t.kind, .string (mk t.text), .int .i64 t.line, .int .i64 t.col, .bool t.left]
theorem tokCells_length (ts : List TokL) : (tokCells ts).length = ts.length * 5 := by
  induction ts with
  | nil => rfl
  | cons t r ih => rw [show tokCells (t :: r) = [.int .u8 t.kind, .string (mk t.text), .int .i64 t.line, .int .i64 t.col, .bool t.left] ++ tokCells r from rfl, List.length_append, ih]; simp; omega
theorem tokCells_append (a b : List TokL) : tokCells (a ++ b) = tokCells a ++ tokCells b := List.flatMap_append
theorem tokCells_at (ts : List TokL) (j : Nat) (h : j < ts.length) :
    (tokCells ts)[j * 5]? = some (.int .u8 ts[j].kind) ∧ (tokCells ts)[j * 5 + 1]? = some (.string (mk ts[j].text)) ∧ (tokCells ts)[j * 5 + 2]? = some (.int .i64 ts[j].line) ∧ (tokCells ts)[j * 5 + 3]? = some (.int .i64 ts[j].col) ∧ (tokCells ts)[j * 5 + 4]? = some (.bool ts[j].left) := by
  have e : ts = ts.take j ++ ts[j] :: ts.drop (j + 1) := by rw [List.getElem_cons_drop, List.take_append_drop]
  have hl : (tokCells (ts.take j)).length = j * 5 := by rw [tokCells_length, List.length_take, Nat.min_eq_left (Nat.le_of_lt h)]
  have g : ∀ q, q < 5 → (tokCells ts)[j * 5 + q]? = ([Value.int .u8 ts[j].kind, .string (mk ts[j].text), .int .i64 ts[j].line, .int .i64 ts[j].col, .bool ts[j].left])[q]? := by
    intro q hq
    have e2 : tokCells ts = tokCells (ts.take j) ++ ([Value.int .u8 ts[j].kind, .string (mk ts[j].text), .int .i64 ts[j].line, .int .i64 ts[j].col, .bool ts[j].left] ++ tokCells (ts.drop (j + 1))) := by
      conv => lhs; rw [e]
      rw [tokCells_append]; rfl
    rw [e2, List.getElem?_append_right (by omega), hl, Nat.add_sub_cancel_left, List.getElem?_append_left (by simpa using hq)]
  exact ⟨g 0 (by omega), g 1 (by omega), g 2 (by omega), g 3 (by omega), g 4 (by omega)⟩

theorem MarksAt.mods {M : Nat → Prop} {w w' : World} {B B' : Nat} {A : Option Addr} {ms : List MarkL} (h : MarksAt w B A ms) (hm : Mods M w w') (hM : ∀ j, j < B → ¬ M j) (hB : B ≤ w.heap.size) (hB' : B ≤ B') : MarksAt w' B' A ms := by
  rcases h with h | ⟨b, off, hA, hb, hc⟩
  · exact .inl h
  · refine .inr ⟨b, off, hA, by omega, fun j hj => ?_⟩
    have hbl := hm.block b (by omega) (hM b hb)
    obtain ⟨h1, h2, h3⟩ := hc j hj
    exact ⟨(World.cell?_of_block hbl).trans h1, (World.cell?_of_block hbl).trans h2, (World.cell?_of_block hbl).trans h3⟩

/-- the scanner's block, its tokens, the marks of its card -/
structure ScAt (B br : Nat) (w : World) (c : CardL) (A : Option Addr) (cap i m : Nat) (ts : List TokL) (TA : Option Addr) (tc : Nat) : Prop where
  laidS ::
  blk : Blk w br #[.bool c.left, .string (mk c.text), .slice A c.marks.length cap, .int .i64 (i : Int), .int .i64 (m : Int), .slice TA ts.length tc] 101
  own : w.ownsRow B 49 5 (.slice TA ts.length tc) ts.length (tokCells ts)
  marks : MarksAt w br A c.marks
  low : br < B
  size : B ≤ w.heap.size
theorem ScAt.mods {M : Nat → Prop} {B br : Nat} {w w' : World} {c : CardL} {A : Option Addr} {cap i m : Nat} {ts : List TokL} {TA : Option Addr} {tc : Nat} (h : ScAt B br w c A cap i m ts TA tc) (hm : Mods M w w') (hM : ∀ j, j ≤ br → ¬ M j) (hT : ∀ k, (Value.slice TA ts.length tc).ownBlock = some k → ¬ M k) : ScAt B br w' c A cap i m ts TA tc :=
  ⟨h.blk.mods hm (hM _ (Nat.le_refl _)), own_kept h.own hm hT, h.marks.mods hm (fun j hj => hM j (Nat.le_of_lt hj)) (by have := h.low; have := h.size; omega) (Nat.le_refl _), h.low, by have := hm.size; have := h.size; omega⟩
theorem ScAt.below {B br : Nat} {w w' : World} {c : CardL} {A : Option Addr} {cap i m : Nat} {ts : List TokL} {TA : Option Addr} {tc : Nat} (h : ScAt B br w c A cap i m ts TA tc) (hb : Below w.heap.size w w') : ScAt B br w' c A cap i m ts TA tc :=
  h.mods (Mods.of_below hb) (fun _ _ e => e) (fun _ _ e => e)
theorem ScAt.tok {B br : Nat} {w : World} {c : CardL} {A : Option Addr} {cap i m : Nat} {ts : List TokL} {TA : Option Addr} {tc : Nat} (h : ScAt B br w c A cap i m ts TA tc) (j : Nat) (hj : j < ts.length) :
    ∃ g, TA = some ⟨g, 0, none⟩ ∧ g < w.heap.size ∧ w.cell? ⟨g, j * 5, none⟩ = some (.int .u8 ts[j].kind) ∧ w.cell? ⟨g, j * 5 + 1, none⟩ = some (.string (mk ts[j].text)) := by
  obtain ⟨g, cap', e, _, hlt⟩ := World.ownsRow.form h.own (by omega)
  injection e with e1 _ e2
  subst e1; subst e2
  obtain ⟨h1, h2, _⟩ := tokCells_at ts j hj
  exact ⟨g, rfl, hlt, by rw [h.own.cellAt _ (by omega), h1], by rw [h.own.cellAt _ (by omega), h2]⟩

theorem lastM_none (i : Int) (m : MarkL) (ms : List MarkL) (h : ∀ x ∈ ms, i < x.1) : lastM i m ms = m := by
  induction ms generalizing m with
  | nil => rfl
  | cons x r ih =>
    have := h x List.mem_cons_self
    rw [lastM, if_neg (by omega)]
    exact ih m (fun y hy => h y (List.mem_cons_of_mem _ hy))
/-- the mark of a place, by its number -/
theorem lastM_at (N b i : Int) (ms : List MarkL) (m : MarkL) (hv : marksOk N b ms = true) (k : Nat) (hk : k < ms.length) (h1 : ms[k].1 ≤ i) (h2 : ∀ h : k + 1 < ms.length, i < ms[k + 1].1) : lastM i m ms = ms[k] := by
  induction ms generalizing b m k with
  | nil => simp at hk
  | cons x r ih =>
    have hv' : marksOk N x.1 r = true := by
      simp only [marksOk] at hv
      split at hv
      · cases hv
      · split at hv
        · cases hv
        · split at hv
          · exact hv
          · cases hv
    cases k with
    | zero =>
      simp only [List.getElem_cons_zero] at h1 ⊢
      rw [lastM, if_pos h1]
      apply lastM_none
      intro y hy
      cases r with
      | nil => simp at hy
      | cons z r' =>
        have hz := h2 (by simp)
        simp only [Nat.zero_add, List.getElem_cons_succ, List.getElem_cons_zero] at hz
        rcases List.mem_cons.1 hy with rfl | hy
        · exact hz
        · have hv2 : marksOk N z.1 r' = true := by
            simp only [marksOk] at hv'
            split at hv'
            · cases hv'
            · split at hv'
              · cases hv'
              · split at hv'
                · exact hv'
                · cases hv'
          have := (marks_in N z.1 r' hv2 y hy).1
          omega
    | succ k =>
      simp only [List.getElem_cons_succ] at h1 ⊢
      rw [lastM]
      refine ih x.1 _ hv' k (by simpa using hk) h1 (fun h => ?_)
      have := h2 (by simp; simpa using h)
      simpa using this
end Go.Proofs.YtghnffdjdjlomaaGreatDoor
