/-
  WORDS OF LAYER 2 (columns): plain functions on lists of bytes; what both seats use.
-/
import Derived.Test.YteceealibfemjaaDoorProg
import Derived.WalkKit
import Derived.WalkSpells
import Derived.WalkLawsBesides
import Derived.BigQuiet
import Derived.Deep.QuietTactic
import Derived.RegionTactic
import Derived.BigRegion
import Derived.Deep.RegionWith
import Derived.Deep.AppendLies
import Derived.Laws.OwnMore
import Derived.OneCell
namespace Go.Proofs.YteceealibfemjaaDoor
open Go.RowKit


theorem hide {p : Prop} (h : p) : Hid p := h
theorem ret_bool {a b : Bool} (h : a = b) : Ending.returned (.bool a) = .returned (.bool b) := by rw [h]
theorem ret_str {a b : ByteArray} (h : a = b) : Ending.returned (.string a) = .returned (.string b) := by rw [h]
/-- the text of a list -/
def mk (l : List UInt8) : ByteArray := ⟨l.toArray⟩
theorem mk_data (l : List UInt8) : (mk l).data.toList = l := rfl
theorem mk_of (s : ByteArray) : mk s.data.toList = s := rfl
theorem len_data (s : ByteArray) : s.data.toList.length = s.size := by rw [Array.length_toList]; rfl
theorem getD_at (s : ByteArray) (k : Nat) (h : k < s.size) : s.data.toList.getD k 0 = s[k] := by
  rw [List.getD_eq_getElem?_getD, List.getElem?_eq_getElem (by simpa using h)]; rfl
/-- how many spaces stand in front -/
def firstN : List UInt8 → Nat
  | [] => 0
  | c :: l => if c = 32 then firstN l + 1 else 0
theorem firstN_le (l : List UInt8) : firstN l ≤ l.length := by
  induction l with
  | nil => simp [firstN]
  | cons c l ih => unfold firstN; split <;> simp; omega
theorem firstN_front (l : List UInt8) (k : Nat) (h : k ≤ l.length) (hs : ∀ j, j < k → l.getD j 0 = 32) : k ≤ firstN l := by
  induction l generalizing k with
  | nil => simp at h; omega
  | cons c l ih =>
    cases k with
    | zero => omega
    | succ k =>
      have h0 := hs 0 (by omega)
      simp at h0
      unfold firstN
      rw [if_pos h0]
      have := ih k (by simpa using h) (fun j hj => by have := hs (j + 1) (by omega); simpa using this)
      omega
theorem firstN_stop (l : List UInt8) (k : Nat) (h : k < l.length) (hs : ∀ j, j < k → l.getD j 0 = 32) (hc : l.getD k 0 ≠ 32) : firstN l = k := by
  induction l generalizing k with
  | nil => simp at h
  | cons c l ih =>
    cases k with
    | zero => simp at hc; unfold firstN; rw [if_neg hc]
    | succ k =>
      have h0 := hs 0 (by omega)
      simp at h0
      unfold firstN
      rw [if_pos h0, ih k (by simpa using h) (fun j hj => by have := hs (j + 1) (by omega); simpa using this) (by simpa using hc)]
/-- an odd number of quotes -/
def openL (l : List UInt8) : Bool := l.count 34 % 2 == 1
/-- a text without the spaces at its end -/
def endL (l : List UInt8) : List UInt8 := (l.reverse.dropWhile (· == 32)).reverse
theorem endL_nil : endL [] = [] := rfl
theorem endL_space (l : List UInt8) : endL (l ++ [32]) = endL l := by simp [endL]
theorem endL_other (l : List UInt8) (c : UInt8) (h : c ≠ 32) : endL (l ++ [c]) = l ++ [c] := by simp [endL, h]
theorem last_split (s : ByteArray) (h : 0 < s.size) : s.data.toList = (s.extract 0 (s.size - 1)).data.toList ++ [s[s.size - 1]] := by
  have e : (s.extract 0 (s.size - 1)).data.toList = s.data.toList.take (s.size - 1) := by
    rw [ByteArray.data_extract, Array.toList_extract]; simp only [List.extract_eq_take_drop, List.drop_zero, Nat.sub_zero]
  have hl := len_data s
  rw [e]
  conv => lhs; rw [← List.take_append_drop (s.size - 1) s.data.toList]
  congr 1
  rw [List.drop_eq_getElem_cons (by omega)]
  have : s.data.toList.drop (s.size - 1 + 1) = [] := List.drop_eq_nil_of_le (by omega)
  rw [this]
  rfl
/-- the rest of a row as a part -/
def tailL (rest text : List UInt8) : List UInt8 := if openL (text ++ rest) then rest else endL rest
set_option maxHeartbeats 400000 in
theorem Open_c (s : ByteArray) (w : World) (hs : s.size ≤ maxLen) :
    Calls Tryd.prog 10 #[.string s] w fun e w' => e = .returned (.bool (openL s.data.toList)) ∧ w = w' := by
  unfold maxLen at hs
  go_enter Tryd.func10, Tryd.ntmps10
  go_wp2_with fail
  go_loop [3, 4] (fun n i => ∃ k m : Nat, k ≤ s.size ∧ m ≤ k ∧ i = .int .i64 k ∧ n = .int .i64 m ∧ Hid (m = (s.data.toList.take k).count 34)) (fun _ i => s.size - (intOf i).toNat)
  case atStart => exact ⟨0, 0, Nat.zero_le _, Nat.le_refl _, rfl, rfl, by simp [Hid]⟩
  case round =>
    obtain ⟨k, m, hk, hm, rfl, rfl, hc⟩ := hrel
    by_cases hlt : k < s.size
    · have hst : Hid ((s.data.toList.take (k + 1)).count 34 = m + if s[k]'hlt = 34 then 1 else 0) := by
        unfold Hid
        rw [List.take_succ_eq_append_getElem (by rw [len_data]; exact hlt), List.count_append, ← hc.out]
        have e : s.data.toList[k]'(by rw [len_data]; exact hlt) = s[k]'hlt := rfl
        rw [e, List.count_singleton]
        simp
      by_cases hq : (s[k]'hlt).toNat = 34
      · have hb : (((s[k]'hlt).toNat : Int) == 34) = true := by rw [beq_iff_eq]; omega
        have H : Hid (m + 1 = (s.data.toList.take (k + 1)).count 34) := by unfold Hid; rw [hst.out, if_pos (UInt8.toNat_inj.1 hq)]
        clear hq
        go_wp2_with fail
        exact ⟨⟨k + 1, m + 1, by omega, by omega, by go_num, by go_num, H⟩, by simp [intOf]; omega⟩
      · have hb : (((s[k]'hlt).toNat : Int) == 34) = false := by rw [beq_eq_false_iff_ne]; omega
        have H : Hid (m = (s.data.toList.take (k + 1)).count 34) := by unfold Hid; rw [hst.out, if_neg (fun e => hq (by rw [e]; rfl))]; rfl
        clear hq
        go_wp2_with fail
        exact ⟨⟨k + 1, m, by omega, by omega, by go_num, rfl, H⟩, by simp [intOf]; omega⟩
    · obtain rfl : k = s.size := by omega
      go_wp2_with fail
      go_ret
      refine ⟨ret_bool ?_, rfl⟩
      have h := hc.out
      rw [List.take_of_length_le (by rw [len_data]; exact Nat.le_refl _)] at h
      rw [openL, ← h, Bool.eq_iff_iff]
      simp; omega

theorem extract_drop (s : ByteArray) (k : Nat) : (s.extract k s.size).data.toList = s.data.toList.drop k := by
  rw [ByteArray.data_extract, Array.toList_extract]
  simp only [List.extract_eq_take_drop]
  rw [List.take_of_length_le (by rw [List.length_drop, len_data]; exact Nat.le_refl _)]
/-- a fault, its line and its column, as a struct's cells -/
def fault (f : Int × Int × Int) : Value := .agg #[.int .i64 f.1, .int .i64 f.2.1, .int .i64 f.2.2]
/-- the part of a row behind a text, its column, and the fault -/
def partR (line : Int) (r t : List UInt8) (begins : Bool) : List UInt8 × Int × (Int × Int × Int) :=
  if begins then (tailL (r.drop (firstN r)) t, (firstN r : Int) + 8, (0, 0, 0))
  else if firstN r < 4 then ([], 0, (4, line, (firstN r : Int) + 8))
  else if openL t then
    if r.getD (firstN r) 0 = 34 then (tailL (r.drop (firstN r + 1)) t, (firstN r : Int) + 1 + 8, (0, 0, 0)) else ([], 0, (4, line, (firstN r : Int) + 8))
  else (tailL (r.drop (firstN r)) t, (firstN r : Int) + 8, (0, 0, 0))
def Part (line : Int) (r t : List UInt8) (begins : Bool) (w : World) (e : Ending) (w' : World) : Prop :=
  e = .returned (.tuple #[.string (mk (partR line r t begins).1), .int .i64 (partR line r t begins).2.1, fault (partR line r t begins).2.2]) ∧ Below w.heap.size w w'
theorem below2 (w : World) (o o' : Obj) : Below w.heap.size w ((w.alloc o).alloc o') := ((Below.refl _ _).alloc (Nat.le_refl _) o).alloc (by simp) o'

def badC (c : UInt8) : Bool := decide (c.toNat < 32) || decide (126 < c.toNat)
/-- the place of the first byte that is not printable, or the length -/
def badN (l : List UInt8) : Nat := l.findIdx badC
theorem badN_le (l : List UInt8) : badN l ≤ l.length := List.findIdx_le_length
theorem badN_at (l : List UInt8) (k : Nat) (hk : k < l.length) (hf : ∀ j (h : j < l.length), j < k → badC l[j] = false) (hc : badC l[k] = true) : badN l = k := by
  rw [badN, List.findIdx_eq hk]
  exact ⟨hc, fun j hj => hf j (by omega) hj⟩
theorem badN_none (l : List UInt8) (hf : ∀ j (h : j < l.length), badC l[j] = false) : badN l = l.length := by
  rw [badN, List.findIdx_eq_length]
  intro c hc
  obtain ⟨j, hj, rfl⟩ := List.getElem_of_mem hc
  exact hf j hj
def padL (l : List UInt8) : List UInt8 := l ++ List.replicate (72 - l.length) 32
def markOf (l : List UInt8) : UInt8 := (padL l).getD 6 0
def textOf (l : List UInt8) : List UInt8 := ((padL l).drop 7).take 65
/-- what 'row' returns behind its loops: the row, whether it counts, the fault -/
def rowM (line : Int) (m : UInt8) (T : List UInt8) (debug : Bool) : Value × Bool × (Int × Int × Int) :=
  if m = 42 ∨ m = 47 then (.agg #[.int .i64 line, .int .u8 (m.toNat : Int), .string (mk T)], false, (0, 0, 0))
  else if m = 68 ∨ m = 100 then
    if debug then (.agg #[.int .i64 line, .int .u8 32, .string (mk T)], decide (firstN T < 65), (0, 0, 0))
    else (.agg #[.int .i64 line, .int .u8 32, .string (mk T)], false, (0, 0, 0))
  else if m = 32 ∨ m = 45 then (.agg #[.int .i64 line, .int .u8 (m.toNat : Int), .string (mk T)], decide (firstN T < 65), (0, 0, 0))
  else (.agg #[.int .i64 line, .int .u8 (m.toNat : Int), .string (mk T)], false, (4, line, 7))
/-- what 'row' returns: the indicator, columns 8 to 72, whether the row counts, the fault -/
def rowR (line : Int) (l : List UInt8) (debug : Bool) : Value × Bool × (Int × Int × Int) :=
  if 80 < l.length then (.agg #[.int .i64 0, .int .u8 0, .string (mk [])], false, (5, line, 81))
  else if badN l < l.length then (.agg #[.int .i64 0, .int .u8 0, .string (mk [])], false, (4, line, (badN l : Int) + 1))
  else rowM line (markOf l) (textOf l) debug
def RowP (line : Int) (l : List UInt8) (debug : Bool) (w : World) (e : Ending) (w' : World) : Prop :=
  e = .returned (.tuple #[(rowR line l debug).1, .bool (rowR line l debug).2.1, fault (rowR line l debug).2.2]) ∧ Below w.heap.size w w'
theorem below3 (w : World) (o o' o2 : Obj) : Below w.heap.size w (((w.alloc o).alloc o').alloc o2) := (below2 w o o').alloc (by simp; omega) o2

/-- the lines of a text behind what is begun -/
def linesG (acc : List UInt8) : List UInt8 → List (List UInt8)
  | [] => if acc = [] then [] else [acc]
  | c :: r => if c = 10 then acc :: linesG [] r else linesG (acc ++ [c]) r
def linesL (l : List UInt8) : List (List UInt8) := linesG [] l
def encS (l : List UInt8) : Value := .string (mk l)
theorem strinfo : (Tryd.prog.info? 9).map (fun i => (i.zero, i.size, i.bytes)) = some (some (.string ⟨#[]⟩), 1, 16) := by kernel_rfl
/-- append by what its run comes to, guarded or not -/
theorem wpList_append_run {P : Program} {w : World} {ops : Array Oper} {rest : List Oper} {o : Oper} {a : Act} {Q : Exit → Act → World → Prop} (hw : Region.wanted o (yielded ops a.tmps) = true) (x y : Operand) (T : TypeId)
    (ho : o.op = .call { callee := .builtin .append, args := #[x, y], argTypes := #[T, T] }) (vx vy : Value) (hx : a.eval x = vx) (hy : a.eval y = vy) (v : Value) (w' : World) (ty : TypeId) (hty : o.type = ty)
    (hrun : (Builtin.append_ #[T, T] ty #[vx, vy]).run P w = .ok v w') (h : wpList P ops Q rest (a.put o.dst v) w') : wpList P ops Q (o :: rest) a w := by
  subst hty
  refine wpList_step fun K hK => ?_
  rw [if_pos hw]
  unfold Oper.wp execOp
  simp only [ho, resolve, invoke, builtin, Sem.run_bind, Sem.run_pure, Result.andThen_ok, List.map_toArray, List.map_cons, List.map_nil, hx, hy, hrun]
  exact hK _ _ h
/-- append(v, t), v a []string of the call's own -/
theorem append_str (B : Nat) (w0 w : World) (A : Option Addr) (xs : List Value) (t : ByteArray) (n c : Nat) (hown : w.ownsRow B 9 1 (.slice A n c) n xs) (hb : Below B w0 w) (hB : B ≤ w.heap.size) (hs : n ≤ 2000000) :
    ∃ g c' w', (Builtin.append_ #[30, 30] 30 #[.slice A n c, .slice (some ⟨w.heap.size, 0, none⟩) 1 1]).run Tryd.prog (w.alloc (.cells #[.string t] 9)) = .ok (.slice (some ⟨g, 0, none⟩) (n + 1) c') w' ∧
      w'.ownsRow B 9 1 (.slice (some ⟨g, 0, none⟩) (n + 1) c') (n + 1) (xs ++ [.string t]) ∧ Below B w0 w' := by
  obtain ⟨i0, hi, hz0, hz1, hz2⟩ := info_parts strinfo
  obtain ⟨g, c', w', hrun, hown', hg, _, _⟩ := run_append_lies (P := Tryd.prog) (w.alloc (.cells #[.string t] 9)) 30 30 B 9 i0 (.string ⟨#[]⟩) 1 16 Tryd.underlying30 hi hz0 hz1 hz2 rfl (by omega)
    (.slice A n c) n xs (hown.alloc _) ⟨w.heap.size, 0, none⟩ 1 1 [.string t] rfl (World.news_of_block (heap_alloc_new w _)) (by simp [Value.oneCell']) (by omega) (by unfold maxLen; omega) (by omega) (by simp; omega) _ rfl
  exact ⟨g, c', w', hrun, hown', (hb.alloc hB _).grown hg (by simp; omega) (fun k hk => (hown.lt k hk).1)⟩
theorem drop_at (s : ByteArray) (i : Nat) (h : i < s.size) : s.data.toList.drop i = s[i] :: s.data.toList.drop (i + 1) := by
  rw [List.drop_eq_getElem_cons (by rw [len_data]; exact h)]; rfl
/-- a text with single spaces outside of quotes, behind a byte that is a space or not, inside of quotes or not -/
def sqz (sp q : Bool) : List UInt8 → List UInt8
  | [] => []
  | c :: r => if c = 32 ∧ q = false ∧ sp = true then sqz true q r else c :: sqz (c == 32) (if c = 34 then !q else q) r
def squeezeL (l : List UInt8) : List UInt8 := sqz false false l
theorem one_at (s : ByteArray) (i : Nat) (h : i < s.size) : (s.extract i (i + 1)).data.toList = [s[i]] := by
  rw [ByteArray.data_extract, Array.toList_extract]
  simp only [List.extract_eq_take_drop]
  rw [List.drop_eq_getElem_cons (by rw [len_data]; exact h), show i + 1 - i = 1 by omega]
  rfl
theorem drop_one (s : ByteArray) (i : Nat) (h : i < s.size) : s.data.toList.drop i = s[i] :: s.data.toList.drop (i + 1) := by
  rw [List.drop_eq_getElem_cons (by rw [len_data]; exact h)]; rfl
/-- a number in digits -/
def digs (n : Nat) : List UInt8 := if n = 0 then [] else digs (n / 10) ++ [UInt8.ofNat (48 + n % 10)]
decreasing_by omega
theorem digit_at : ∀ k : Fin 10, ((⟨#[48, 49, 50, 51, 52, 53, 54, 55, 56, 57]⟩ : ByteArray).extract k.val (k.val + 1)) = ⟨#[UInt8.ofNat (48 + k.val)]⟩ := by decide
/-- where a text is divided, from a place downwards -/
def divK (l : List UInt8) (inside : Bool) : Nat → Option Nat
  | 0 => none
  | k + 1 => if k + 1 < l.length ∧ l.getD (k + 1) 0 = 32 ∧ openL (l.take (k + 1)) = inside then some (k + 1) else divK l inside k
theorem digs_pos (n : Nat) (h : 0 < n) : digs n = digs (n / 10) ++ [UInt8.ofNat (48 + n % 10)] := by rw [digs, if_neg (by omega)]
theorem digs_zero : digs 0 = [] := by rw [digs, if_pos rfl]

/-- whether Write accepts a text -/
def rightL (l : List UInt8) : Bool := decide (badN l = l.length) && (decide (0 < l.length) && (!(l.getD 0 0 == 32) && (!(l.getD (l.length - 1) 0 == 32) && !openL l)))
end Go.Proofs.YteceealibfemjaaDoor
