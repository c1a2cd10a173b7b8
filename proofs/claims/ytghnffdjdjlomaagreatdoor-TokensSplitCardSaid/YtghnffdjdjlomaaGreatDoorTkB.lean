/-
  Txt Num Pic Pct Nln Qot (layer 3, tokens), in one text.
-/
import Derived.Test.YtghnffdjdjlomaaGreatDoorTkA
import Derived.Test.YtghnffdjdjlomaaGreatDoorMaxT
import Derived.Test.YtghnffdjdjlomaaGreatDoorShelf
import Derived.Test.YtghnffdjdjlomaaGreatDoorFrame
import Derived.Shelf.Strings.SlTrimAscii
import Derived.Outline
import Derived.Lib.ReplaceLaws
import Derived.Deep.Cut
import Derived.Deep.DeepCutAuto
/-! CONTRACTS of the scanner's functions on texts (layer 3, tokens): length, token, refuse, number, word. -/
namespace Go.Proofs.YtghnffdjdjlomaaGreatDoor
open Go.RowKit Go.Shelf

theorem ret_int3 {k : IntKind} {a b : Int} (h : a = b) : Ending.returned (.int k a) = .returned (.int k b) := by rw [h]
theorem ascii_all {l : List UInt8} (h : l.all (fun b => decide (b.toNat < 128)) = true) : ∀ (j : Nat) b, l[j]? = some b → b.toNat < 128 := fun j b hb => by
  have := List.all_eq_true.1 h b (List.mem_of_getElem? hb)
  simpa using this
/-- strings.TrimLeft at an ASCII set -/
theorem trimLeft_c (s cs : ByteArray) (w : World) (hcs : cs.size < 1000000) (ha : cs.data.toList.all (fun b => decide (b.toNat < 128)) = true) :
    Calls Tryz.prog 120 #[.string s, .string cs] w fun e w' => e = .returned (.string (mk (Lib.trimLeftS s.data.toList cs.data.toList))) ∧ Below w.heap.size w w' :=
  Any.strings_TrimLeft_laid Tryz.lays161 (by kernel_rfl) s cs w (by omega) (ascii_all ha)
theorem trimS_le (l cs : List UInt8) : (Lib.trimLeftS l cs).length ≤ l.length := by
  unfold Lib.trimLeftS
  exact (List.dropWhile_suffix _).length_le

theorem length_c (s cs : ByteArray) (w : World) (hs : s.size ≤ 2000000) (hcs : cs.size < 1000000) (ha : cs.data.toList.all (fun b => decide (b.toNat < 128)) = true) :
    Calls Tryz.prog 113 #[.string s, .string cs] w fun e w' => e = .returned (.int .i64 (lenL s.data.toList cs.data.toList : Nat)) ∧ Below w.heap.size w w' := by
  have hc := hide (trimLeft_c s cs w hcs ha)
  have hle := trimS_le s.data.toList cs.data.toList
  obtain ⟨T, hT⟩ : ∃ T, T = mk (Lib.trimLeftS s.data.toList cs.data.toList) := ⟨_, rfl⟩
  have hsz : T.size = (Lib.trimLeftS s.data.toList cs.data.toList).length := by rw [hT]; exact mk_size _
  have hlen : s.data.toList.length = s.size := len_data s
  have hL : Hid (lenL s.data.toList cs.data.toList = s.size - T.size) := by unfold lenL Hid; rw [hlen, hsz]
  rw [← hT] at hc
  have hTs : T.size ≤ s.size := by omega
  clear hsz hlen hT hle
  go_enter Tryz.func113, Tryz.ntmps113
  go_wp2_with fail
  refine hc.out.mono ?_
  rintro e w1 ⟨rfl, hb⟩
  go_wp2_with fail
  go_ret
  exact ⟨ret_int3 (by rw [hL.out]; omega), hb⟩

/-- a token as the scanner's functions return it -/
abbrev tokV (k : Int) (x : ByteArray) : Value := .agg #[.int .u8 k, .string x, .int .i64 0, .int .i64 0, .bool false]
abbrev tokR (k : Int) (x : ByteArray) (n e : Int) : Value := .tuple #[tokV k x, .int .i64 n, .int .i64 e]
def resN : NextL → Value
  | .error e => tokR 0 ⟨#[]⟩ 0 e
  | .ok (k, x, n) => tokR k (mk x) (n : Nat) 0
theorem token_c (k : Int) (x : ByteArray) (w : World) (hx : x.size ≤ 2000000) :
    Calls Tryz.prog 109 #[.int .u8 k, .string x] w fun e w' => e = .returned (tokR k x (x.size : Nat) 0) ∧ Below w.heap.size w w' := by
  go_enter Tryz.func109, Tryz.ntmps109
  go_wp2_with fail
  refine bodyPost_ret (v := tokR k x (x.size : Nat) 0) (by simp [results, Tryz.results109, go_sem]) rfl ⟨rfl, ?_⟩
  exact (Below.refl _ _).alloc (Nat.le_refl _) _
theorem refuse_c (n : Int) (w : World) :
    Calls Tryz.prog 130 #[.int .i64 n] w fun e w' => e = .returned (tokR 0 ⟨#[]⟩ 0 n) ∧ Below w.heap.size w w' := by
  go_enter Tryz.func130, Tryz.ntmps130
  go_wp2_with fail
  refine bodyPost_ret (v := tokR 0 ⟨#[]⟩ 0 n) (by simp [results, Tryz.results130, go_sem]) rfl ⟨rfl, ?_⟩
  exact (Below.refl _ _).alloc (Nat.le_refl _) _
end Go.Proofs.YtghnffdjdjlomaaGreatDoor

/-! CONTRACTS of the scanner's functions on texts (layer 3, tokens): number, word. -/
namespace Go.Proofs.YtghnffdjdjlomaaGreatDoor
open Go.RowKit Go.Shelf

abbrev wrdB : ByteArray := ⟨#[48, 49, 50, 51, 52, 53, 54, 55, 56, 57, 65, 66, 67, 68, 69, 70, 71, 72, 73, 74, 75, 76, 77, 78, 79, 80, 81, 82, 83, 84, 85, 86, 87, 88, 89, 90, 97, 98, 99, 100, 101, 102, 103, 104, 105, 106, 107, 108, 109, 110, 111, 112, 113, 114, 115, 116, 117, 118, 119, 120, 121, 122, 45]⟩
abbrev digB : ByteArray := ⟨#[48, 49, 50, 51, 52, 53, 54, 55, 56, 57]⟩
abbrev letB : ByteArray := ⟨#[65, 66, 67, 68, 69, 70, 71, 72, 73, 74, 75, 76, 77, 78, 79, 80, 81, 82, 83, 84, 85, 86, 87, 88, 89, 90, 97, 98, 99, 100, 101, 102, 103, 104, 105, 106, 107, 108, 109, 110, 111, 112, 113, 114, 115, 116, 117, 118, 119, 120, 121, 122]⟩
theorem wrd_c (s : ByteArray) (w : World) (hs : s.size ≤ 2000000) :
    Calls Tryz.prog 113 #[.string s, .string wrdB] w fun e w' => e = .returned (.int .i64 (lenL s.data.toList wrdS : Nat)) ∧ Below w.heap.size w w' :=
  length_c s wrdB w hs (by decide) (by decide)
theorem dig_c (s : ByteArray) (w : World) (hs : s.size ≤ 2000000) :
    Calls Tryz.prog 113 #[.string s, .string digB] w fun e w' => e = .returned (.int .i64 (lenL s.data.toList digS : Nat)) ∧ Below w.heap.size w w' :=
  length_c s digB w hs (by decide) (by decide)

/-- a token's five cells, zero -/
abbrev tz : Obj := .cells #[.int .u8 0, .string ⟨#[]⟩, .int .i64 0, .int .i64 0, .bool false] 49
theorem Blk.five {w : World} {b : Nat} {a0 a1 a2 a3 a4 : Value} {T : TypeId} (h : Blk w b #[a0, a1, a2, a3, a4] T) :
    (w.cell? ⟨b, 0, none⟩ = some a0 ∧ w.cell? ⟨b, 1, none⟩ = some a1 ∧ w.cell? ⟨b, 2, none⟩ = some a2 ∧ w.cell? ⟨b, 3, none⟩ = some a3 ∧ w.cell? ⟨b, 4, none⟩ = some a4) ∧
    (w.frozen? ⟨b, 0, none⟩ = false ∧ w.frozen? ⟨b, 1, none⟩ = false ∧ w.frozen? ⟨b, 2, none⟩ = false ∧ w.frozen? ⟨b, 3, none⟩ = false ∧ w.frozen? ⟨b, 4, none⟩ = false) ∧ b < w.heap.size :=
  ⟨⟨h.cell 0, h.cell 1, h.cell 2, h.cell 3, h.cell 4⟩, ⟨h.free 0, h.free 1, h.free 2, h.free 3, h.free 4⟩, h.lt⟩
theorem below_set5 {B b : Nat} {w w' : World} (h : Below B w w') (hb : B ≤ b) (v0 v1 v2 v3 v4 : Value) :
    Below B w (((((w'.setCell ⟨b, 0, none⟩ v0).setCell ⟨b, 1, none⟩ v1).setCell ⟨b, 2, none⟩ v2).setCell ⟨b, 3, none⟩ v3).setCell ⟨b, 4, none⟩ v4) :=
  ((((h.setCell hb _).setCell hb _).setCell hb _).setCell hb _).setCell hb _
theorem below1 (w : World) (o : Obj) : Below w.heap.size w (w.alloc o) := (Below.refl _ _).alloc (Nat.le_refl _) _

set_option maxHeartbeats 1000000 in
theorem number_c (s b : ByteArray) (w : World) (hs : s.size ≤ 2000000) (hb : b.size ≤ 2000000) :
    Calls Tryz.prog 112 #[.string s, .string b] w fun e w' => e = .returned (resN (numberL s.data.toList b.data.toList)) ∧ Below w.heap.size w w' := by
  have HL := hide (fun w1 => wrd_c b w1 hb)
  obtain ⟨n, hn⟩ : ∃ n, n = lenL b.data.toList wrdS := ⟨_, rfl⟩
  have HT := hide (fun w1 => trimLeft_c s ⟨#[43, 45]⟩ w1 (by decide) (by decide))
  obtain ⟨T, hT⟩ : ∃ T, T = mk (Lib.trimLeftS s.data.toList [43, 45]) := ⟨_, rfl⟩
  obtain ⟨c, hc⟩ : ∃ c, c = Lib.countByte s.data.toList 46 := ⟨_, rfl⟩
  have HC : Hid (∀ w1, Calls Tryz.prog 119 #[.string s, .string ⟨#[46]⟩] w1 fun e w' => e = .returned (.int .i64 (c : Int)) ∧ w1 = w') := fun w1 => by
    rw [hc]; exact (Tryz.strings_Count_one s 46 w1).mono fun _ _ h => ⟨h.1, h.2.symm⟩
  have hTs : T.size = (Lib.trimLeftS s.data.toList [43, 45]).length := by rw [hT]; exact mk_size _
  have hTl : T.size ≤ 2000000 := by rw [hTs]; have := trimS_le s.data.toList [43, 45]; rw [len_data] at this; omega
  have hcl : c ≤ 2000000 := by rw [hc]; have := List.count_le_length (a := (46 : UInt8)) (l := s.data.toList); rw [len_data] at this; unfold Lib.countByte; omega
  have HR : Hid (numberL s.data.toList b.data.toList = if 0 < n then .error 4 else if 18 < (T.size : Int) - (c : Int) then .error 5 else .ok (2, s.data.toList, s.size)) := by
    unfold numberL Hid; rw [← hn, ← hTs, ← hc, len_data]
  have HT2 : Hid (∀ w1, Calls Tryz.prog 120 #[.string s, .string ⟨#[43, 45]⟩] w1 fun e w' => e = .returned (.string T) ∧ Below w1.heap.size w1 w') := fun w1 => by rw [hT]; exact HT.out w1
  have HL2 : Hid (∀ w1, Calls Tryz.prog 113 #[.string b, .string wrdB] w1 fun e w' => e = .returned (.int .i64 (n : Int)) ∧ Below w1.heap.size w1 w') := fun w1 => by rw [hn]; exact HL.out w1
  have HB := hide (blk_new w #[.int .u8 0, .string ⟨#[]⟩, .int .i64 0, .int .i64 0, .bool false] 49)
  have HW := hide (below1 w tz)
  clear hn hT hc hTs HL HT
  by_cases h1 : 0 < n
  · rw [HR.out, if_pos h1]
    clear HR
    go_enter Tryz.func112, Tryz.ntmps112
    go_wp2_with fail
    refine (HL2.out _).mono ?_
    rintro e w1 ⟨rfl, hb1⟩
    go_wp2_with fail
    refine (refuse_c 4 _).mono ?_
    rintro e w2 ⟨rfl, hb2⟩
    obtain ⟨⟨k0, k1, k2, k3, k4⟩, ⟨f0, f1, f2, f3, f4⟩, hlt⟩ := (blk_kept hb2 (blk_kept hb1 HB.out)).five
    have HW2 := hide (HW.out.trans ((hb1.trans (hb2.mono hb1.size)).mono HW.out.size))
    clear hb1 hb2
    go_wp2_with fail
    refine bodyPost_ret (v := tokR 0 ⟨#[]⟩ 0 4) (by simp [results, Tryz.results112, go_sem, k0, k1, k2, k3, k4]) rfl ⟨rfl, ?_⟩
    exact below_set5 HW2.out (Nat.le_refl _) _ _ _ _ _
  · obtain rfl : n = 0 := by omega
    by_cases h2 : 18 < (T.size : Int) - (c : Int)
    · rw [HR.out, if_neg (by omega), if_pos h2]
      clear HR
      go_enter Tryz.func112, Tryz.ntmps112
      go_wp2_with fail
      refine (HL2.out _).mono ?_
      rintro e w1 ⟨rfl, hb1⟩
      go_wp2_with fail
      refine (HT2.out _).mono ?_
      rintro e w3 ⟨rfl, hb3⟩
      go_wp2_with fail
      refine (HC.out _).mono ?_
      rintro e w4 ⟨rfl, rfl⟩
      go_wp2_with fail
      refine (refuse_c 5 _).mono ?_
      rintro e w2 ⟨rfl, hb2⟩
      have hb13 := hb1.trans (hb3.mono hb1.size)
      obtain ⟨⟨k0, k1, k2, k3, k4⟩, ⟨f0, f1, f2, f3, f4⟩, hlt⟩ := (blk_kept hb2 (blk_kept hb13 HB.out)).five
      have HW2 := hide (HW.out.trans ((hb13.trans (hb2.mono hb13.size)).mono HW.out.size))
      clear hb1 hb2 hb3 hb13
      go_wp2_with fail
      refine bodyPost_ret (v := tokR 0 ⟨#[]⟩ 0 5) (by simp [results, Tryz.results112, go_sem, k0, k1, k2, k3, k4]) rfl ⟨rfl, ?_⟩
      exact below_set5 HW2.out (Nat.le_refl _) _ _ _ _ _
    · rw [HR.out, if_neg (by omega), if_neg h2]
      clear HR
      go_enter Tryz.func112, Tryz.ntmps112
      go_wp2_with fail
      refine (HL2.out _).mono ?_
      rintro e w1 ⟨rfl, hb1⟩
      go_wp2_with fail
      refine (HT2.out _).mono ?_
      rintro e w3 ⟨rfl, hb3⟩
      go_wp2_with fail
      refine (HC.out _).mono ?_
      rintro e w4 ⟨rfl, rfl⟩
      go_wp2_with fail
      refine (token_c 2 s _ hs).mono ?_
      rintro e w2 ⟨rfl, hb2⟩
      have hb13 := hb1.trans (hb3.mono hb1.size)
      obtain ⟨⟨k0, k1, k2, k3, k4⟩, ⟨f0, f1, f2, f3, f4⟩, hlt⟩ := (blk_kept hb2 (blk_kept hb13 HB.out)).five
      have HW2 := hide (HW.out.trans ((hb13.trans (hb2.mono hb13.size)).mono HW.out.size))
      clear hb1 hb2 hb3 hb13
      go_wp2_with fail
      refine bodyPost_ret (v := tokR 2 s (s.size : Nat) 0) (by simp [results, Tryz.results112, go_sem, k0, k1, k2, k3, k4]) rfl ⟨rfl, ?_⟩
      exact below_set5 HW2.out (Nat.le_refl _) _ _ _ _ _

set_option maxHeartbeats 1000000 in
theorem word_c (s : ByteArray) (w : World) (hs : s.size ≤ 2000000) (ha : ∀ (j : Nat) b, s.data.toList[j]? = some b → b.toNat < 128) :
    Calls Tryz.prog 114 #[.string s] w fun e w' => e = .returned (resN (wordL s.data.toList)) ∧ Below w.heap.size w w' := by
  obtain ⟨p, hp⟩ : ∃ p, p = Lib.hasSuffix s.data.toList [45] := ⟨_, rfl⟩
  obtain ⟨q, hq⟩ : ∃ q, q = Lib.containsAny s.data.toList letS := ⟨_, rfl⟩
  have HP : Hid (∀ w1, Calls Tryz.prog 131 #[.string s, .string ⟨#[45]⟩] w1 fun e w' => e = .returned (.bool p) ∧ w1 = w') := fun w1 => by
    rw [hp]; exact (Tryz.strings_HasSuffix s ⟨#[45]⟩ w1 (by omega)).mono fun _ _ h => ⟨h.1, h.2.symm⟩
  have HQ : Hid (∀ w1, Calls Tryz.prog 132 #[.string s, .string letB] w1 fun e w' => e = .returned (.bool q) ∧ Below w1.heap.size w1 w') := fun w1 => by
    rw [hq]; exact Tryz.strings_ContainsAny_laid s letB w1 (by omega) (by decide) ha (ascii_all (by decide))
  have HR : Hid (wordL s.data.toList = if p = true then .error 4 else if q = true then (if 30 < s.size then .error 5 else .ok (1, s.data.toList, s.size)) else .error 4) := by
    unfold wordL Hid; rw [← hp, ← hq, len_data]
  have HB := hide (blk_new w #[.int .u8 0, .string ⟨#[]⟩, .int .i64 0, .int .i64 0, .bool false] 49)
  have HW := hide (below1 w tz)
  clear hp hq ha
  cases p
  · cases q
    · rw [HR.out, if_neg (by decide), if_neg (by decide)]
      clear HR
      go_enter Tryz.func114, Tryz.ntmps114
      go_wp2_with fail
      refine (HP.out _).mono ?_
      rintro e w1 ⟨rfl, rfl⟩
      go_wp2_with fail
      refine (HQ.out _).mono ?_
      rintro e w1 ⟨rfl, hb1⟩
      go_wp2_with fail
      refine (refuse_c 4 _).mono ?_
      rintro e w2 ⟨rfl, hb2⟩
      obtain ⟨⟨k0, k1, k2, k3, k4⟩, ⟨f0, f1, f2, f3, f4⟩, hlt⟩ := (blk_kept hb2 (blk_kept hb1 HB.out)).five
      have HW2 := hide (HW.out.trans ((hb1.trans (hb2.mono hb1.size)).mono HW.out.size))
      clear hb1 hb2
      go_wp2_with fail
      refine bodyPost_ret (v := tokR 0 ⟨#[]⟩ 0 4) (by simp [results, Tryz.results114, go_sem, k0, k1, k2, k3, k4]) rfl ⟨rfl, ?_⟩
      exact below_set5 HW2.out (Nat.le_refl _) _ _ _ _ _
    · by_cases h3 : 30 < s.size
      · rw [HR.out, if_neg (by decide), if_pos rfl, if_pos h3]
        clear HR
        go_enter Tryz.func114, Tryz.ntmps114
        go_wp2_with fail
        refine (HP.out _).mono ?_
        rintro e w1 ⟨rfl, rfl⟩
        go_wp2_with fail
        refine (HQ.out _).mono ?_
        rintro e w1 ⟨rfl, hb1⟩
        go_wp2_with fail
        refine (refuse_c 5 _).mono ?_
        rintro e w2 ⟨rfl, hb2⟩
        obtain ⟨⟨k0, k1, k2, k3, k4⟩, ⟨f0, f1, f2, f3, f4⟩, hlt⟩ := (blk_kept hb2 (blk_kept hb1 HB.out)).five
        have HW2 := hide (HW.out.trans ((hb1.trans (hb2.mono hb1.size)).mono HW.out.size))
        clear hb1 hb2
        go_wp2_with fail
        refine bodyPost_ret (v := tokR 0 ⟨#[]⟩ 0 5) (by simp [results, Tryz.results114, go_sem, k0, k1, k2, k3, k4]) rfl ⟨rfl, ?_⟩
        exact below_set5 HW2.out (Nat.le_refl _) _ _ _ _ _
      · rw [HR.out, if_neg (by decide), if_pos rfl, if_neg h3]
        clear HR
        go_enter Tryz.func114, Tryz.ntmps114
        go_wp2_with fail
        refine (HP.out _).mono ?_
        rintro e w1 ⟨rfl, rfl⟩
        go_wp2_with fail
        refine (HQ.out _).mono ?_
        rintro e w1 ⟨rfl, hb1⟩
        go_wp2_with fail
        refine (token_c 1 s _ hs).mono ?_
        rintro e w2 ⟨rfl, hb2⟩
        obtain ⟨⟨k0, k1, k2, k3, k4⟩, ⟨f0, f1, f2, f3, f4⟩, hlt⟩ := (blk_kept hb2 (blk_kept hb1 HB.out)).five
        have HW2 := hide (HW.out.trans ((hb1.trans (hb2.mono hb1.size)).mono HW.out.size))
        clear hb1 hb2
        go_wp2_with fail
        refine bodyPost_ret (v := tokR 1 s (s.size : Nat) 0) (by simp [results, Tryz.results114, go_sem, k0, k1, k2, k3, k4]) rfl ⟨rfl, ?_⟩
        exact below_set5 HW2.out (Nat.le_refl _) _ _ _ _ _
  · rw [HR.out, if_pos rfl]
    clear HR
    go_enter Tryz.func114, Tryz.ntmps114
    go_wp2_with fail
    refine (HP.out _).mono ?_
    rintro e w1 ⟨rfl, rfl⟩
    go_wp2_with fail
    refine (refuse_c 4 _).mono ?_
    rintro e w2 ⟨rfl, hb2⟩
    obtain ⟨⟨k0, k1, k2, k3, k4⟩, ⟨f0, f1, f2, f3, f4⟩, hlt⟩ := (blk_kept hb2 HB.out).five
    have HW2 := hide (HW.out.trans (hb2.mono HW.out.size))
    clear hb2
    go_wp2_with fail
    refine bodyPost_ret (v := tokR 0 ⟨#[]⟩ 0 4) (by simp [results, Tryz.results114, go_sem, k0, k1, k2, k3, k4]) rfl ⟨rfl, ?_⟩
    exact below_set5 HW2.out (Nat.le_refl _) _ _ _ _ _
end Go.Proofs.YtghnffdjdjlomaaGreatDoor

/-! CONTRACTS of the scanner's functions on texts (layer 3, tokens): picture, sign. -/
namespace Go.Proofs.YtghnffdjdjlomaaGreatDoor
open Go.RowKit Go.Shelf

theorem ext_data (s : ByteArray) (a b : Nat) : (s.extract a b).data.toList = (s.data.toList.drop a).take (b - a) := by
  rw [ByteArray.data_extract, Array.toList_extract, List.extract_eq_take_drop]
theorem ext_mk (s : ByteArray) (a b : Nat) : s.extract a b = mk ((s.data.toList.drop a).take (b - a)) := by
  rw [← ext_data s a b]; rfl
theorem getD_last (s : ByteArray) (h : 0 < s.size) : s.data.toList.getD (s.data.toList.length - 1) 0 = s[s.size - 1]'(by omega) := by
  rw [len_data]; exact getD_at s _ (by omega)
theorem empty_iff (s : ByteArray) : (s.toList.isEmpty = true) ↔ s.size = 0 := by
  rw [ByteArray.toList_eq, List.isEmpty_iff, ← List.length_eq_zero_iff, len_data]

set_option maxHeartbeats 2000000 in
theorem sign_c (s : ByteArray) (w : World) (hs : s.size ≤ 2000000) (h0 : 0 < s.size) :
    Calls Tryz.prog 116 #[.string s] w fun e w' => e = .returned (resN (signL s.data.toList)) ∧ Below w.heap.size w w' := by
  have HB := hide (blk_new w #[.int .u8 0, .string ⟨#[]⟩, .int .i64 0, .int .i64 0, .bool false] 49)
  have HW := hide (below1 w tz)
  have HS : Hid (signL s.data.toList = match twoL.find? (fun p => Lib.hasPrefix s.data.toList p) with
      | some p => .ok (5, p, 2)
      | none => if Lib.indexByte signS (s.data.toList.getD 0 0) < 0 then .error 4 else .ok (5, s.data.toList.take 1, 1)) := rfl
  have HP : Hid (∀ (p : ByteArray) w1, Calls Tryz.prog 61 #[.string s, .string p] w1 fun e w' => e = .returned (.bool (Lib.hasPrefix s.data.toList p.data.toList)) ∧ w1 = w') := fun p w1 =>
    (Tryz.strings_HasPrefix s p w1).mono fun _ _ h => ⟨h.1, h.2.symm⟩
  obtain ⟨b1, hb1⟩ : ∃ b, b = Lib.hasPrefix s.data.toList [42, 42] := ⟨_, rfl⟩
  obtain ⟨b2, hb2⟩ : ∃ b, b = Lib.hasPrefix s.data.toList [60, 61] := ⟨_, rfl⟩
  obtain ⟨b3, hb3⟩ : ∃ b, b = Lib.hasPrefix s.data.toList [62, 61] := ⟨_, rfl⟩
  obtain ⟨b4, hb4⟩ : ∃ b, b = Lib.hasPrefix s.data.toList [60, 62] := ⟨_, rfl⟩
  obtain ⟨x, hx⟩ : ∃ x, x = Lib.indexByte signS (s.data.toList.getD 0 0) := ⟨_, rfl⟩
  obtain ⟨R, hR⟩ : ∃ R, R = resN (signL s.data.toList) := ⟨_, rfl⟩
  have HR : Hid (R = resN (if b1 = true then .ok (5, [42, 42], 2) else if b2 = true then .ok (5, [60, 61], 2) else if b3 = true then .ok (5, [62, 61], 2) else if b4 = true then .ok (5, [60, 62], 2) else if x < 0 then .error 4 else .ok (5, s.data.toList.take 1, 1))) := by
    unfold Hid
    rw [hR, HS.out, twoL]
    simp only [List.find?, ← hb1, ← hb2, ← hb3, ← hb4, ← hx]
    cases b1 <;> cases b2 <;> cases b3 <;> cases b4 <;> rfl
  have hg : s.data.toList.getD 0 0 = s[0] := getD_at s 0 h0
  have HX : Hid (∀ w1, Calls Tryz.prog 66 #[.string ⟨#[40, 41, 58, 43, 45, 42, 47, 61, 60, 62]⟩, .int .u8 (s[0].toNat : Int)] w1 fun e w' => e = .returned (.int .i64 x) ∧ w1 = w') := fun w1 => by
    rw [hx, hg]
    have := (Tryz.strings_IndexByte ⟨#[40, 41, 58, 43, 45, 42, 47, 61, 60, 62]⟩ (s[0].toNat : Int) w1).mono fun _ _ h => (⟨h.1, h.2.symm⟩ : _ ∧ _)
    simpa [signS] using this
  have H1 : Hid (∀ w1, Calls Tryz.prog 61 #[.string s, .string ⟨#[42, 42]⟩] w1 fun e w' => e = .returned (.bool b1) ∧ w1 = w') := fun w1 => by rw [hb1]; exact HP.out _ w1
  have H2 : Hid (∀ w1, Calls Tryz.prog 61 #[.string s, .string ⟨#[60, 61]⟩] w1 fun e w' => e = .returned (.bool b2) ∧ w1 = w') := fun w1 => by rw [hb2]; exact HP.out _ w1
  have H3 : Hid (∀ w1, Calls Tryz.prog 61 #[.string s, .string ⟨#[62, 61]⟩] w1 fun e w' => e = .returned (.bool b3) ∧ w1 = w') := fun w1 => by rw [hb3]; exact HP.out _ w1
  have H4 : Hid (∀ w1, Calls Tryz.prog 61 #[.string s, .string ⟨#[60, 62]⟩] w1 fun e w' => e = .returned (.bool b4) ∧ w1 = w') := fun w1 => by rw [hb4]; exact HP.out _ w1
  have HT : Hid (s.extract 0 1 = mk (s.data.toList.take 1)) := by rw [ext_mk s 0 1]; rfl
  have hTs : (mk (s.data.toList.take 1)).size = 1 := by rw [mk_size, List.length_take, len_data]; omega
  rw [← hR]
  clear hb1 hb2 hb3 hb4 hx HP HS hg hR
  go_enter Tryz.func116, Tryz.ntmps116
  go_wp2_with fail
  refine wp_loop_rounds 5 ?_
  rw [rounds_succ]
  have HW1 := hide (HW.out.alloc HW.out.size (.cells #[.string ⟨#[42, 42]⟩, .string ⟨#[60, 61]⟩, .string ⟨#[62, 61]⟩, .string ⟨#[60, 62]⟩] 9))
  have HB1 := hide (HB.out.alloc (.cells #[.string ⟨#[42, 42]⟩, .string ⟨#[60, 61]⟩, .string ⟨#[62, 61]⟩, .string ⟨#[60, 62]⟩] 9))
  go_wp2_with fail
  refine (H1.out _).mono ?_
  rintro e w1 ⟨rfl, rfl⟩
  cases b1
  rotate_left
  · skip
    go_wp2_with fail
    refine (token_c 5 ⟨#[42, 42]⟩ _ (by decide)).mono ?_
    rintro e w2 ⟨rfl, hb2⟩
    obtain ⟨⟨k0, k1, k2, k3, k4⟩, ⟨f0, f1, f2, f3, f4⟩, hlt⟩ := (blk_kept hb2 HB1.out).five
    have HW2 := hide (HW1.out.trans (hb2.mono HW1.out.size))
    clear hb2
    go_wp2_with fail
    refine bodyPost_ret (v := tokR 5 ⟨#[42, 42]⟩ 2 0) (by simp [results, Tryz.results116, go_sem, k0, k1, k2, k3, k4]) rfl ⟨by rw [HR.out]; rfl, ?_⟩
    exact below_set5 HW2.out (Nat.le_refl _) _ _ _ _ _
  go_wp2_with fail
  rw [rounds_succ]
  go_wp2_with fail
  refine (H2.out _).mono ?_
  rintro e w1 ⟨rfl, rfl⟩
  cases b2
  rotate_left
  · skip
    go_wp2_with fail
    refine (token_c 5 ⟨#[60, 61]⟩ _ (by decide)).mono ?_
    rintro e w2 ⟨rfl, hb2⟩
    obtain ⟨⟨k0, k1, k2, k3, k4⟩, ⟨f0, f1, f2, f3, f4⟩, hlt⟩ := (blk_kept hb2 HB1.out).five
    have HW2 := hide (HW1.out.trans (hb2.mono HW1.out.size))
    clear hb2
    go_wp2_with fail
    refine bodyPost_ret (v := tokR 5 ⟨#[60, 61]⟩ 2 0) (by simp [results, Tryz.results116, go_sem, k0, k1, k2, k3, k4]) rfl ⟨by rw [HR.out]; rfl, ?_⟩
    exact below_set5 HW2.out (Nat.le_refl _) _ _ _ _ _
  go_wp2_with fail
  rw [rounds_succ]
  go_wp2_with fail
  refine (H3.out _).mono ?_
  rintro e w1 ⟨rfl, rfl⟩
  cases b3
  rotate_left
  · skip
    go_wp2_with fail
    refine (token_c 5 ⟨#[62, 61]⟩ _ (by decide)).mono ?_
    rintro e w2 ⟨rfl, hb2⟩
    obtain ⟨⟨k0, k1, k2, k3, k4⟩, ⟨f0, f1, f2, f3, f4⟩, hlt⟩ := (blk_kept hb2 HB1.out).five
    have HW2 := hide (HW1.out.trans (hb2.mono HW1.out.size))
    clear hb2
    go_wp2_with fail
    refine bodyPost_ret (v := tokR 5 ⟨#[62, 61]⟩ 2 0) (by simp [results, Tryz.results116, go_sem, k0, k1, k2, k3, k4]) rfl ⟨by rw [HR.out]; rfl, ?_⟩
    exact below_set5 HW2.out (Nat.le_refl _) _ _ _ _ _
  go_wp2_with fail
  rw [rounds_succ]
  go_wp2_with fail
  refine (H4.out _).mono ?_
  rintro e w1 ⟨rfl, rfl⟩
  cases b4
  rotate_left
  · skip
    go_wp2_with fail
    refine (token_c 5 ⟨#[60, 62]⟩ _ (by decide)).mono ?_
    rintro e w2 ⟨rfl, hb2⟩
    obtain ⟨⟨k0, k1, k2, k3, k4⟩, ⟨f0, f1, f2, f3, f4⟩, hlt⟩ := (blk_kept hb2 HB1.out).five
    have HW2 := hide (HW1.out.trans (hb2.mono HW1.out.size))
    clear hb2
    go_wp2_with fail
    refine bodyPost_ret (v := tokR 5 ⟨#[60, 62]⟩ 2 0) (by simp [results, Tryz.results116, go_sem, k0, k1, k2, k3, k4]) rfl ⟨by rw [HR.out]; rfl, ?_⟩
    exact below_set5 HW2.out (Nat.le_refl _) _ _ _ _ _
  go_wp2_with fail
  rw [rounds_succ]
  go_wp2_with fail
  refine (HX.out _).mono ?_
  rintro e w1 ⟨rfl, rfl⟩
  by_cases hx : x < 0
  · skip
    go_wp2_with fail
    refine (refuse_c 4 _).mono ?_
    rintro e w2 ⟨rfl, hb2⟩
    obtain ⟨⟨k0, k1, k2, k3, k4⟩, ⟨f0, f1, f2, f3, f4⟩, hlt⟩ := (blk_kept hb2 HB1.out).five
    have HW2 := hide (HW1.out.trans (hb2.mono HW1.out.size))
    clear hb2
    go_wp2_with fail
    refine bodyPost_ret (v := tokR 0 ⟨#[]⟩ 0 4) (by simp [results, Tryz.results116, go_sem, k0, k1, k2, k3, k4]) rfl ⟨by rw [HR.out, if_pos hx]; rfl, ?_⟩
    exact below_set5 HW2.out (Nat.le_refl _) _ _ _ _ _
  · skip
    have hx' : 0 ≤ x := by omega
    go_wp2_with fail
    rw [HT.out]
    go_wp2_with fail
    refine (token_c 5 (mk (s.data.toList.take 1)) _ (by omega)).mono ?_
    rintro e w2 ⟨rfl, hb2⟩
    obtain ⟨⟨k0, k1, k2, k3, k4⟩, ⟨f0, f1, f2, f3, f4⟩, hlt⟩ := (blk_kept hb2 HB1.out).five
    have HW2 := hide (HW1.out.trans (hb2.mono HW1.out.size))
    clear hb2
    go_wp2_with fail
    refine bodyPost_ret (v := tokR 5 (mk (s.data.toList.take 1)) 1 0) (by simp [results, Tryz.results116, go_sem, k0, k1, k2, k3, k4]) rfl ⟨by rw [HR.out]; simp only [Bool.false_eq_true, if_false]; rw [if_neg (by omega)]; rfl, ?_⟩
    exact below_set5 HW2.out (Nat.le_refl _) _ _ _ _ _
end Go.Proofs.YtghnffdjdjlomaaGreatDoor

/-! CONTRACT of picture (layer 3, tokens). -/
namespace Go.Proofs.YtghnffdjdjlomaaGreatDoor
open Go.RowKit Go.Shelf

/-- the last byte is dropped if it ends no picture -/
theorem lastIn_at (s : ByteArray) (h : 0 < s.size) : lastIn s.data.toList = decide (0 ≤ Lib.indexByte notS (s[s.size - 1]'(by omega))) := by
  unfold lastIn; rw [getD_last s h]
set_option maxHeartbeats 2000000 in
theorem picture_c (s : ByteArray) (w : World) (hs : s.size ≤ 2000000) (hc : s.data.toList.getD 0 0 ≠ 32) (h0 : 0 < s.size) (hm : MaxI w) :
    Calls Tryz.prog 107 #[.string s] w fun e w' => e = .returned (resN (pictureL s.data.toList)) ∧ Below w.heap.size w w' := by
  obtain ⟨R, hR⟩ : ∃ R, R = resN (pictureL s.data.toList) := ⟨_, rfl⟩
  have HB := hide (blk_new w #[.int .u8 0, .string ⟨#[]⟩, .int .i64 0, .int .i64 0, .bool false] 49)
  have HW := hide (below1 w tz)
  have HM := hide (hm.below (below1 w tz))
  obtain ⟨F, hF⟩ : ∃ F, F = mk (Lib.cut s.data.toList [32]).1 := ⟨_, rfl⟩
  obtain ⟨F2, hF2⟩ : ∃ F2, F2 = mk (Lib.cut s.data.toList [32]).2.1 := ⟨_, rfl⟩
  obtain ⟨fo, hfo⟩ : ∃ fo, fo = (Lib.cut s.data.toList [32]).2.2 := ⟨_, rfl⟩
  have HC : Hid (Calls Tryz.prog 128 #[.string s, .string ⟨#[32]⟩] (w.alloc tz) fun e w' => e = .returned (.tuple #[.string F, .string F2, .bool fo]) ∧ Below (w.alloc tz).heap.size (w.alloc tz) w') := by
    rw [hF, hF2, hfo]
    obtain ⟨m, hm'⟩ := HM.out
    exact (Tryz.strings_Cut s ⟨#[32]⟩ m _ (by omega) hm').mono fun _ _ ⟨h1, n, h2⟩ => ⟨h1, by rw [h2]; exact below_drewN (Below.refl _ _) n⟩
  have hFl : F.size = (Lib.cut s.data.toList [32]).1.length := by rw [hF]; exact mk_size _
  have hFs : F.size ≤ 2000000 := by rw [hFl]; have := cut_le s.data.toList [32]; rw [len_data] at this; omega
  have hF0 : 0 < F.size := by
    rw [hFl]
    unfold Lib.cut
    cases hl : s.data.toList with
    | nil => rw [← len_data, hl] at h0; simp at h0
    | cons c r =>
      rw [hl] at hc
      simp at hc
      have hi : Lib.index (c :: r) [32] ≠ 0 := by
        unfold Lib.index
        have : List.isPrefixOf [32] (c :: r) = false := by simp [List.isPrefixOf]; exact fun e => hc e.symm
        rw [if_neg (by rw [this]; decide)]
        split
        · omega
        · have := Lib.index_ge r [32]; rename_i h; have h' : Lib.index r [32] ≠ -1 := fun e => h (by rw [e]; rfl); omega
      split
      · rw [List.length_take]; simp; omega
      · simp
  have hd1 : lastIn F.data.toList = decide (0 ≤ Lib.indexByte notS (F[F.size - 1]'(Nat.sub_lt hF0 Nat.one_pos))) := lastIn_at F hF0
  obtain ⟨G, hG⟩ : ∃ G, G = if lastIn F.data.toList then F.extract 0 (F.size - 1) else F := ⟨_, rfl⟩
  have hGs : G.size ≤ F.size := by rw [hG]; split <;> simp
  have hGd : G.data.toList = if lastIn F.data.toList then F.data.toList.take (F.data.toList.length - 1) else F.data.toList := by
    rw [hG]
    split
    · rw [ext_data, List.drop_zero, Nat.sub_zero, len_data]
    · rfl
  have HR : Hid (R = resN (if G.data.toList = [] then .error 4 else if lastIn G.data.toList then .error 4 else if decide (0 ≤ Lib.indexByte G.data.toList 34) then .error 4 else .ok (4, G.data.toList.map up, G.data.toList.length))) := by
    unfold Hid
    rw [hR, hGd, hF]
    rfl
  have HX : Hid (∀ (c : UInt8) w1, Calls Tryz.prog 66 #[.string ⟨#[46, 44, 59]⟩, .int .u8 (c.toNat : Int)] w1 fun e w' => e = .returned (.int .i64 (Lib.indexByte notS c)) ∧ w1 = w') := fun c w1 => by
    have := (Tryz.strings_IndexByte ⟨#[46, 44, 59]⟩ (c.toNat : Int) w1).mono fun _ _ h => (⟨h.1, h.2.symm⟩ : _ ∧ _)
    simpa [notS] using this
  rw [← hR]
  obtain ⟨x1, hx1⟩ : ∃ x1, x1 = Lib.indexByte notS (F[F.size - 1]'(Nat.sub_lt hF0 Nat.one_pos)) := ⟨_, rfl⟩
  rw [← hx1] at hd1
  have HX1 : Hid (∀ w1, Calls Tryz.prog 66 #[.string ⟨#[46, 44, 59]⟩, .int .u8 ((F[F.size - 1]'(Nat.sub_lt hF0 Nat.one_pos)).toNat : Int)] w1 fun e w' => e = .returned (.int .i64 x1) ∧ w1 = w') := fun w1 => by rw [hx1]; exact HX.out _ w1
  have HG : Hid (G = if 0 ≤ x1 then F.extract 0 (F.size - 1) else F) := by unfold Hid; rw [hG, hd1]; simp only [decide_eq_true_eq]
  clear hR hF hF2 hfo hFl hGd hd1 hG hx1 hm hc h0
  go_enter Tryz.func107, Tryz.ntmps107
  go_wp2_with fail
  refine HC.out.mono ?_
  rintro e wa ⟨rfl, hba⟩
  have HBa := hide hba
  clear hba
  go_wp2_with fail
  refine (HX1.out _).mono ?_
  rintro e w1 ⟨rfl, rfl⟩
  go_upto_if 20 with fail
  go_cut [5] (fun s5 wx => s5 = .string G ∧ wa = wx)
  case first =>
    by_cases hx : 0 ≤ x1
    · have hGe : Hid (G = F.extract 0 (F.size - 1)) := by unfold Hid; rw [HG.out, if_pos hx]
      go_wp2_with fail
      go_meet
      exact ⟨by rw [hGe.out], rfl⟩
    · have hGe : Hid (G = F) := by unfold Hid; rw [HG.out, if_neg hx]
      go_wp2_with fail
      go_meet
      exact ⟨by rw [hGe.out], rfl⟩
  case rest =>
    obtain ⟨rfl, rfl⟩ := hcut
    have HBw := hide (blk_kept HBa.out HB.out)
    have HWw := hide (HW.out.trans (HBa.out.mono HW.out.size))
    clear HB HW HBa HG HC HX1
    by_cases hg : G.size = 0
    · have hg1 : G.toList = [] := by rw [ByteArray.toList_eq]; exact List.eq_nil_of_length_eq_zero (by rw [len_data]; exact hg)
      have hgd : G.data.toList = [] := List.eq_nil_of_length_eq_zero (by rw [len_data]; exact hg)
      have hg2 : G.toList.isEmpty = true := by rw [hg1]; rfl
      have HGD := hide hgd
      have HRe : Hid (R = tokR 0 ⟨#[]⟩ 0 4) := by unfold Hid; rw [HR.out, if_pos hgd]; rfl
      clear hgd HR
      go_wp2_with fail
      refine (refuse_c 4 _).mono ?_
      rintro e w2 ⟨rfl, hb2⟩
      obtain ⟨⟨k0, k1, k2, k3, k4⟩, ⟨f0, f1, f2, f3, f4⟩, hlt⟩ := (blk_kept hb2 HBw.out).five
      have HW2 := hide (HWw.out.trans (hb2.mono HWw.out.size))
      clear hb2
      go_wp2_with fail
      refine bodyPost_ret (v := tokR 0 ⟨#[]⟩ 0 4) (by simp [results, Tryz.results107, go_sem, k0, k1, k2, k3, k4]) rfl ⟨by rw [HRe.out], ?_⟩
      exact below_set5 HW2.out (Nat.le_refl _) _ _ _ _ _
    · have hg0 : 0 < G.size := by omega
      have hgd : G.data.toList ≠ [] := fun e => hg (by rw [← len_data, e]; rfl)
      have hg1 : ¬ G.toList = [] := by rw [ByteArray.toList_eq]; exact hgd
      have hg2 : G.toList.isEmpty = false := by rw [ByteArray.toList_eq]; simpa using hgd
      have hl2 : lastIn G.data.toList = decide (0 ≤ Lib.indexByte notS (G[G.size - 1]'(Nat.sub_lt hg0 Nat.one_pos))) := lastIn_at G hg0
      obtain ⟨x2, hx2⟩ : ∃ x2, x2 = Lib.indexByte notS (G[G.size - 1]'(Nat.sub_lt hg0 Nat.one_pos)) := ⟨_, rfl⟩
      have HX2 : Hid (∀ w1, Calls Tryz.prog 66 #[.string ⟨#[46, 44, 59]⟩, .int .u8 ((G[G.size - 1]'(Nat.sub_lt hg0 Nat.one_pos)).toNat : Int)] w1 fun e w' => e = .returned (.int .i64 x2) ∧ w1 = w') := fun w1 => by rw [hx2]; exact HX.out _ w1
      rw [← hx2] at hl2
      obtain ⟨x3, hx3⟩ : ∃ x3, x3 = decide (0 ≤ Lib.indexByte G.data.toList 34) := ⟨_, rfl⟩
      have HX3 : Hid (∀ w1, Calls Tryz.prog 129 #[.string G, .string ⟨#[34]⟩] w1 fun e w' => e = .returned (.bool x3) ∧ w1 = w') := fun w1 => by
        rw [hx3]; exact (Tryz.strings_Contains_one G 34 w1).mono fun _ _ h => ⟨h.1, h.2.symm⟩
      have HR2 : Hid (R = resN (if 0 ≤ x2 then .error 4 else if x3 = true then .error 4 else .ok (4, G.data.toList.map up, G.data.toList.length))) := by
        unfold Hid; rw [HR.out, if_neg hgd, hl2, ← hx3]; simp only [decide_eq_true_eq]
      clear hl2 hx2 hx3 HR hgd HX
      by_cases h2 : 0 ≤ x2
      · have HRe : Hid (R = tokR 0 ⟨#[]⟩ 0 4) := by unfold Hid; rw [HR2.out, if_pos h2]; rfl
        go_wp2_with fail
        refine (HX2.out _).mono ?_
        rintro e w1 ⟨rfl, rfl⟩
        go_wp2_with fail
        refine (refuse_c 4 _).mono ?_
        rintro e w2 ⟨rfl, hb2⟩
        obtain ⟨⟨k0, k1, k2, k3, k4⟩, ⟨f0, f1, f2, f3, f4⟩, hlt⟩ := (blk_kept hb2 HBw.out).five
        have HW2 := hide (HWw.out.trans (hb2.mono HWw.out.size))
        clear hb2
        go_wp2_with fail
        refine bodyPost_ret (v := tokR 0 ⟨#[]⟩ 0 4) (by simp [results, Tryz.results107, go_sem, k0, k1, k2, k3, k4]) rfl ⟨by rw [HRe.out], ?_⟩
        exact below_set5 HW2.out (Nat.le_refl _) _ _ _ _ _
      · cases x3
        · have HRe : Hid (R = tokR 4 (mk (G.data.toList.map up)) (G.size : Nat) 0) := by unfold Hid; rw [HR2.out, if_neg h2, if_neg (by decide), len_data]; rfl
          have hus : (mk (G.data.toList.map up)).size = G.size := by rw [mk_size, List.length_map, len_data]
          obtain ⟨U, hU⟩ : ∃ U, U = mk (G.data.toList.map up) := ⟨_, rfl⟩
          have HF : Hid (∀ w1, Calls Tryz.prog 115 #[.string G] w1 fun e w' => e = .returned (.string U) ∧ Below w1.heap.size w1 w') := fun w1 => by rw [hU]; exact Fold_c G w1 (by unfold maxLen; omega)
          rw [← hU] at HRe hus
          have HT : Hid (∀ w1, Calls Tryz.prog 109 #[.int .u8 4, .string U] w1 fun e w' => e = .returned (tokR 4 U (G.size : Nat) 0) ∧ Below w1.heap.size w1 w') := fun w1 => by rw [← hus]; exact token_c 4 U w1 (by omega)
          clear hU hus
          go_wp2_with fail
          refine (HX2.out _).mono ?_
          rintro e w1 ⟨rfl, rfl⟩
          go_wp2_with fail
          refine (HX3.out _).mono ?_
          rintro e w1 ⟨rfl, rfl⟩
          go_wp2_with fail
          refine (HF.out _).mono ?_
          rintro e w1 ⟨rfl, hb1⟩
          go_wp2_with fail
          refine (HT.out _).mono ?_
          rintro e w3 ⟨rfl, hb3⟩
          have hb2 := hb1.trans (hb3.mono hb1.size)
          clear hb1 hb3
          obtain ⟨⟨k0, k1, k2, k3, k4⟩, ⟨f0, f1, f2, f3, f4⟩, hlt⟩ := (blk_kept hb2 HBw.out).five
          have HW2 := hide (HWw.out.trans (hb2.mono HWw.out.size))
          clear hb2
          go_wp2_with fail
          refine bodyPost_ret (v := tokR 4 U (G.size : Nat) 0) (by simp [results, Tryz.results107, go_sem, k0, k1, k2, k3, k4]) rfl ⟨by rw [HRe.out], ?_⟩
          exact below_set5 HW2.out (Nat.le_refl _) _ _ _ _ _
        · have HRe : Hid (R = tokR 0 ⟨#[]⟩ 0 4) := by unfold Hid; rw [HR2.out, if_neg h2, if_pos rfl]; rfl
          go_wp2_with fail
          refine (HX2.out _).mono ?_
          rintro e w1 ⟨rfl, rfl⟩
          go_wp2_with fail
          refine (HX3.out _).mono ?_
          rintro e w1 ⟨rfl, rfl⟩
          go_wp2_with fail
          refine (refuse_c 4 _).mono ?_
          rintro e w2 ⟨rfl, hb2⟩
          obtain ⟨⟨k0, k1, k2, k3, k4⟩, ⟨f0, f1, f2, f3, f4⟩, hlt⟩ := (blk_kept hb2 HBw.out).five
          have HW2 := hide (HWw.out.trans (hb2.mono HWw.out.size))
          clear hb2
          go_wp2_with fail
          refine bodyPost_ret (v := tokR 0 ⟨#[]⟩ 0 4) (by simp [results, Tryz.results107, go_sem, k0, k1, k2, k3, k4]) rfl ⟨by rw [HRe.out], ?_⟩
          exact below_set5 HW2.out (Nat.le_refl _) _ _ _ _ _
end Go.Proofs.YtghnffdjdjlomaaGreatDoor

/-! CONTRACT of numberLength (layer 3, tokens). -/
namespace Go.Proofs.YtghnffdjdjlomaaGreatDoor
open Go.RowKit Go.Shelf

theorem drop_ext (s : ByteArray) (a : Nat) : (s.extract a s.size).data.toList = s.data.toList.drop a := by
  rw [ext_data, List.take_of_length_le (by rw [List.length_drop, len_data]; exact Nat.le_refl _)]
theorem ext_size (s : ByteArray) (a : Nat) : (s.extract a s.size).size = s.size - a := by simp
set_option maxHeartbeats 2000000 in
theorem numberLength_c (s : ByteArray) (sep : Bool) (w : World) (hs : s.size ≤ 2000000) (h0 : 0 < s.size) :
    Calls Tryz.prog 110 #[.string s, .bool sep] w fun e w' => e = .returned (.int .i64 (numN s.data.toList sep : Nat)) ∧ Below w.heap.size w w' := by
  obtain ⟨c, hc⟩ : ∃ c, c = s[0] := ⟨_, rfl⟩
  have hg : s.data.toList.getD 0 0 = c := by rw [hc]; exact getD_at s 0 h0
  obtain ⟨f, hf⟩ : ∃ f : Nat, f = if sep && (c == 43 || c == 45) then 1 else 0 := ⟨_, rfl⟩
  have hf1 : f ≤ 1 := by rw [hf]; split <;> omega
  obtain ⟨p1, hp1⟩ : ∃ p1, p1 = lenL (s.data.toList.drop f) digS := ⟨_, rfl⟩
  have hp1l : f + p1 ≤ s.size := by
    have := lenL_le (s.data.toList.drop f) digS
    rw [List.length_drop, len_data] at this
    omega
  obtain ⟨l2, hl2⟩ : ∃ l2, l2 = lenL (s.data.toList.drop (f + p1)) wrdS := ⟨_, rfl⟩
  obtain ⟨pre, hpre⟩ : ∃ pre, pre = Lib.hasPrefix (s.data.toList.drop (f + p1)) [46] := ⟨_, rfl⟩
  obtain ⟨l3, hl3⟩ : ∃ l3, l3 = lenL (s.data.toList.drop (f + p1 + 1)) digS := ⟨_, rfl⟩
  have hl2l : l2 ≤ 2000000 := by rw [hl2]; have := lenL_le (s.data.toList.drop (f + p1)) wrdS; rw [List.length_drop, len_data] at this; omega
  have hl3l : l3 ≤ 2000000 := by rw [hl3]; have := lenL_le (s.data.toList.drop (f + p1 + 1)) digS; rw [List.length_drop, len_data] at this; omega
  obtain ⟨fr, hfr⟩ : ∃ fr : Nat, fr = if pre then l3 else 0 := ⟨_, rfl⟩
  obtain ⟨N, hN⟩ : ∃ N, N = numN s.data.toList sep := ⟨_, rfl⟩
  have HN : Hid (N = if f = 0 ∧ 0 < l2 then 0 else if 0 < fr then f + p1 + 1 + fr else if f < f + p1 then f + p1 else 0) := by
    unfold Hid; rw [hN]; unfold numN; simp only [hg, ← hf, ← hp1, ← hl2, ← hpre, ← hl3, ← hfr]
  have hprel : pre = true → f + p1 + 1 ≤ s.size := by
    intro h
    rw [h] at hpre
    have := prefix_le hpre.symm
    rw [List.length_drop, len_data] at this
    simp at this
    omega
  have H1 : Hid (∀ w1, Calls Tryz.prog 113 #[.string (s.extract f s.size), .string digB] w1 fun e w' => e = .returned (.int .i64 (p1 : Int)) ∧ Below w1.heap.size w1 w') := fun w1 => by
    have := dig_c (s.extract f s.size) w1 (by rw [ext_size]; omega)
    rw [drop_ext] at this; rw [hp1]; exact this
  have H2 : Hid (∀ w1, Calls Tryz.prog 113 #[.string (s.extract (f + p1) s.size), .string wrdB] w1 fun e w' => e = .returned (.int .i64 (l2 : Int)) ∧ Below w1.heap.size w1 w') := fun w1 => by
    have := wrd_c (s.extract (f + p1) s.size) w1 (by rw [ext_size]; omega)
    rw [drop_ext] at this; rw [hl2]; exact this
  have H3 : Hid (∀ w1, Calls Tryz.prog 61 #[.string (s.extract (f + p1) s.size), .string ⟨#[46]⟩] w1 fun e w' => e = .returned (.bool pre) ∧ w1 = w') := fun w1 => by
    have := (Tryz.strings_HasPrefix (s.extract (f + p1) s.size) ⟨#[46]⟩ w1).mono fun _ _ h => (⟨h.1, h.2.symm⟩ : _ ∧ _)
    rw [drop_ext] at this; rw [hpre]; exact this
  have H4 : Hid (∀ w1, Calls Tryz.prog 113 #[.string (s.extract (f + p1 + 1) s.size), .string digB] w1 fun e w' => e = .returned (.int .i64 (l3 : Int)) ∧ Below w1.heap.size w1 w') := fun w1 => by
    have := dig_c (s.extract (f + p1 + 1) s.size) w1 (by rw [ext_size]; omega)
    rw [drop_ext] at this; rw [hl3]; exact this
  have HF := hide hf
  have HFR := hide hfr
  have HPL := hide hprel
  rw [← hN]
  clear hN hfr hprel hf hg hp1 hl2 hpre hl3
  go_enter Tryz.func110, Tryz.ntmps110
  obtain ⟨t1, ht1⟩ : ∃ t1 : Bool, t1 = (sep && (c == 43 || c == 45)) := ⟨_, rfl⟩
  go_upto_region 2 with fail
  go_cut [18] (fun s18 wx => s18 = .bool t1 ∧ w = wx)
  case first =>
    cases sep
    · have HFe : Hid (t1 = false) := by unfold Hid; rw [ht1]; rfl
      clear ht1
      go_wp2_with fail
      go_meet
      exact ⟨by rw [HFe.out], rfl⟩
    · by_cases h43 : c = 43
      · have hb : ((c.toNat : Int) == 43) = true := by rw [h43]; rfl
        have HFe : Hid (t1 = true) := by unfold Hid; rw [ht1, h43]; rfl
        rw [hc] at hb
        clear h43 HF hc ht1
        go_wp2_with fail
        go_meet
        exact ⟨by rw [HFe.out], rfl⟩
      · by_cases h45 : c = 45
        · have hb : ((c.toNat : Int) == 43) = false := by rw [h45]; rfl
          have hb2 : ((c.toNat : Int) == 45) = true := by rw [h45]; rfl
          have HFe : Hid (t1 = true) := by unfold Hid; rw [ht1, h45]; rfl
          rw [hc] at hb hb2
          clear h43 h45 HF hc ht1
          go_wp2_with fail
          go_meet
          exact ⟨by rw [HFe.out], rfl⟩
        · have hb : ((c.toNat : Int) == 43) = false := by
            have : (c.toNat : Int) ≠ 43 := fun e => h43 (UInt8.toNat_inj.1 (by simpa using Int.ofNat_inj.1 e))
            simpa using this
          have hb2 : ((c.toNat : Int) == 45) = false := by
            have : (c.toNat : Int) ≠ 45 := fun e => h45 (UInt8.toNat_inj.1 (by simpa using Int.ofNat_inj.1 e))
            simpa using this
          have HFe : Hid (t1 = false) := by
            unfold Hid; rw [ht1]; simp [h43, h45]
          rw [hc] at hb hb2
          clear h43 h45 HF hc ht1
          go_wp2_with fail
          go_meet
          exact ⟨by rw [HFe.out], rfl⟩
  case rest =>
  obtain ⟨rfl, rfl⟩ := hcut
  have HF1 : Hid (f = if t1 then 1 else 0) := by unfold Hid; rw [HF.out, ht1]
  clear HF hc ht1
  go_upto_if 18 with fail
  go_cut [5] (fun s5 wx => s5 = .int .i64 (f : Int) ∧ w = wx)
  case first =>
    cases t1
    · have HFe : Hid (f = 0) := HF1.out
      go_wp2_with fail
      go_meet
      exact ⟨by rw [HFe.out]; rfl, rfl⟩
    · have HFe : Hid (f = 1) := HF1.out
      go_wp2_with fail
      go_meet
      exact ⟨by rw [HFe.out]; rfl, rfl⟩
  case rest =>
    obtain ⟨rfl, rfl⟩ := hcut
    go_wp2_with fail
    refine (H1.out _).mono ?_
    rintro e w1 ⟨rfl, hb1⟩
    have HB1 := hide hb1
    clear hb1
    go_upto_region 5 with fail
    go_cut [33] (fun s33 wx => s33 = .bool (decide (f = 0) && decide (0 < l2)) ∧ Below w.heap.size w wx)
    case first =>
      by_cases hf0 : f = 0
      · have hb : ((f : Int) == 0) = true := by rw [hf0]; rfl
        have HD : Hid (decide (f = 0) = true) := decide_eq_true hf0
        clear hf0 HN
        go_wp2_with fail
        refine (H2.out _).mono ?_
        rintro e w2 ⟨rfl, hb2⟩
        have HB2 := hide (HB1.out.trans (hb2.mono HB1.out.size))
        clear hb2
        by_cases h2 : 0 < l2
        · have HD2 : Hid (decide (0 < l2) = true) := decide_eq_true h2
          go_wp2_with fail
          go_meet
          exact ⟨by rw [HD.out, HD2.out]; rfl, HB2.out⟩
        · have HD2 : Hid (decide (0 < l2) = false) := decide_eq_false h2
          obtain rfl : l2 = 0 := by omega
          go_wp2_with fail
          go_meet
          exact ⟨by rw [HD.out, HD2.out]; rfl, HB2.out⟩
      · have hb : ((f : Int) == 0) = false := by
          have : (f : Int) ≠ 0 := by omega
          simpa using this
        have HD : Hid (decide (f = 0) = false) := decide_eq_false hf0
        clear hf0 HN
        go_wp2_with fail
        go_meet
        exact ⟨by rw [HD.out]; rfl, HB1.out⟩
    case rest =>
      obtain ⟨rfl, hb3⟩ := hcut
      have HB3 := hide hb3
      clear hb3
      obtain ⟨t5, ht5⟩ : ∃ t5, t5 = (decide (f = 0) && decide (0 < l2)) := ⟨_, rfl⟩
      have HN2 : Hid (N = if t5 then 0 else if 0 < fr then f + p1 + 1 + fr else if f < f + p1 then f + p1 else 0) := by
        unfold Hid; rw [HN.out, ht5]; simp only [Bool.and_eq_true, decide_eq_true_eq]
      rw [← ht5]
      clear ht5 HN HB1 H1 H2
      cases t5
      · have HN3 : Hid (N = if 0 < fr then f + p1 + 1 + fr else if f < f + p1 then f + p1 else 0) := HN2.out
        clear HN2
        go_wp2_with fail
        refine (H3.out _).mono ?_
        rintro e w4 ⟨rfl, rfl⟩
        go_upto_if 37 with fail
        go_cut [7] (fun s7 wx => s7 = .int .i64 (fr : Int) ∧ Below w.heap.size w wx)
        case first =>
          cases pre
          · have HFe : Hid (fr = 0) := HFR.out
            go_wp2_with fail
            go_meet
            exact ⟨by rw [HFe.out]; rfl, HB3.out⟩
          · have HFe : Hid (fr = l3) := HFR.out
            have hle := HPL.out rfl
            go_wp2_with fail
            refine (H4.out _).mono ?_
            rintro e w5 ⟨rfl, hb5⟩
            have HB5 := hide (HB3.out.trans (hb5.mono HB3.out.size))
            clear hb5
            go_wp2_with fail
            go_meet
            exact ⟨by rw [HFe.out], HB5.out⟩
        case rest =>
          obtain ⟨rfl, hb6⟩ := hcut
          have HB6 := hide hb6
          have hfrl : fr ≤ 2000000 := by rw [HFR.out]; split <;> omega
          clear hb6 HFR
          by_cases h7 : 0 < fr
          · have HN4 : Hid (N = f + p1 + 1 + fr) := by unfold Hid; rw [HN3.out, if_pos h7]
            clear HN3
            go_wp2_with fail
            go_ret
            exact ⟨ret_int3 (by rw [HN4.out]; omega), HB6.out⟩
          · have HN4 : Hid (N = if f < f + p1 then f + p1 else 0) := by unfold Hid; rw [HN3.out, if_neg h7]
            obtain rfl : fr = 0 := by omega
            clear HN3
            by_cases h8 : f < f + p1
            · have HN5 : Hid (N = f + p1) := by unfold Hid; rw [HN4.out, if_pos h8]
              clear HN4
              go_wp2_with fail
              go_ret
              exact ⟨ret_int3 (by rw [HN5.out]; omega), HB6.out⟩
            · have HN5 : Hid (N = 0) := by unfold Hid; rw [HN4.out, if_neg h8]
              clear HN4
              obtain rfl : p1 = 0 := by omega
              go_wp2_with fail
              go_ret
              exact ⟨ret_int3 (by rw [HN5.out]; rfl), HB6.out⟩
      · have HN3 : Hid (N = 0) := HN2.out
        clear HN2
        go_wp2_with fail
        go_ret
        exact ⟨ret_int3 (by rw [HN3.out]; rfl), HB3.out⟩
end Go.Proofs.YtghnffdjdjlomaaGreatDoor

/-! CONTRACT of quote (layer 3, tokens). -/
namespace Go.Proofs.YtghnffdjdjlomaaGreatDoor
open Go.RowKit Go.Shelf

theorem qEnd_other (c : UInt8) (r : List UInt8) (h : c ≠ 34) : qEnd (c :: r) = (qEnd r).map (· + 1) := by
  cases r with
  | nil => unfold qEnd; rw [if_neg h]; rfl
  | cons d r => conv => lhs; unfold qEnd
                rw [if_neg h]
theorem qEnd_two (r : List UInt8) : qEnd (34 :: 34 :: r) = (qEnd r).map (· + 2) := by
  conv => lhs; unfold qEnd
  rw [if_pos rfl, if_pos rfl]
theorem qEnd_stop (r : List UInt8) (h : Lib.hasPrefix r [34] = false) : qEnd (34 :: r) = some 0 := by
  cases r with
  | nil => unfold qEnd; rw [if_pos rfl]
  | cons d r =>
    unfold qEnd
    rw [if_pos rfl, if_neg]
    intro e
    subst e
    simp [Lib.hasPrefix, List.isPrefixOf] at h
theorem map_add (o : Option Nat) (a b : Nat) : (o.map (· + a)).map (· + b) = o.map (· + (a + b)) := by cases o <;> simp [Nat.add_assoc]
theorem countB_le (s old : ByteArray) (h : 1 ≤ old.size) : Lib.countB s old ≤ s.size := by
  have := Lib.countB_mul_le old h s.size s (Nat.le_refl _)
  exact Nat.le_trans (Nat.le_mul_of_pos_right _ (by omega)) this

set_option maxHeartbeats 2000000 in
theorem quote_c (s : ByteArray) (w : World) (hs : s.size ≤ 2000000) (h0 : 0 < s.size) (hm : MaxI w) :
    Calls Tryz.prog 108 #[.string s] w fun e w' => e = .returned (resN (quoteL s.data.toList)) ∧ Below w.heap.size w w' := by
  obtain ⟨R, hR⟩ : ∃ R, R = resN (quoteL s.data.toList) := ⟨_, rfl⟩
  have HB := hide (blk_new w #[.int .u8 0, .string ⟨#[]⟩, .int .i64 0, .int .i64 0, .bool false] 49)
  have HW := hide (below1 w tz)
  have HM := hide (hm.below (below1 w tz))
  have HR := hide hR
  have hq1 : qEnd (s.data.toList.drop 1) = (qEnd (s.data.toList.drop 1)).map (· + (1 - 1)) := by simp
  have HQ1 := hide hq1
  have HP : Hid (∀ k w1, Calls Tryz.prog 61 #[.string (s.extract k s.size), .string ⟨#[34]⟩] w1 fun e w' => e = .returned (.bool (Lib.hasPrefix (s.data.toList.drop k) [34])) ∧ w1 = w') := fun k w1 => by
    have := (Tryz.strings_HasPrefix (s.extract k s.size) ⟨#[34]⟩ w1).mono fun _ _ h => (⟨h.1, h.2.symm⟩ : _ ∧ _)
    rw [drop_ext] at this; exact this
  rw [← hR]
  clear hR hm hq1
  go_enter Tryz.func108, Tryz.ntmps108
  go_wp2_with fail
  go_loop [5] (fun v => ∃ k : Nat, 1 ≤ k ∧ k ≤ s.size ∧ v = .int .i64 (k : Int) ∧ Hid (qEnd (s.data.toList.drop 1) = (qEnd (s.data.toList.drop k)).map (· + (k - 1)))) (fun v => s.size - (intOf v).toNat)
  case atStart => exact ⟨1, Nat.le_refl _, h0, rfl, HQ1.out⟩
  case round =>
    obtain ⟨k, hk1, hk, rfl, hq⟩ := hrel
    by_cases hlt : k < s.size
    · have hd : s.data.toList.drop k = s[k] :: s.data.toList.drop (k + 1) := by
        rw [List.drop_eq_getElem_cons (by rw [len_data]; exact hlt)]; rfl
      obtain ⟨c, hc⟩ : ∃ c, c = s[k] := ⟨_, rfl⟩
      rw [← hc] at hd
      by_cases h34 : c = 34
      · have hb : ((c.toNat : Int) != 34) = false := by rw [h34]; rfl
        rw [hc] at hb
        subst h34
        clear hc
        obtain ⟨p, hp⟩ : ∃ p, p = Lib.hasPrefix (s.data.toList.drop (k + 1)) [34] := ⟨_, rfl⟩
        have HPk : Hid (∀ w1, Calls Tryz.prog 61 #[.string (s.extract (k + 1) s.size), .string ⟨#[34]⟩] w1 fun e w' => e = .returned (.bool p) ∧ w1 = w') := fun w1 => by rw [hp]; exact HP.out _ w1
        cases p
        · have hq2 : qEnd (s.data.toList.drop 1) = some (k - 1) := by rw [hq.out, hd, qEnd_stop _ hp.symm]; simp
          by_cases hk2 : k = 1
          · have HRe : Hid (R = tokR 0 ⟨#[]⟩ 0 4) := by
              unfold Hid; rw [HR.out]; unfold quoteL; rw [hq2, hk2]; rfl
            subst hk2
            clear hq2 hq hd hp HQ1
            go_wp2_with fail
            refine (HPk.out _).mono ?_
            rintro e w1 ⟨rfl, rfl⟩
            go_wp2_with fail
            refine (refuse_c 4 _).mono ?_
            rintro e w2 ⟨rfl, hb2⟩
            obtain ⟨⟨k0, k1, k2, k3, k4⟩, ⟨f0, f1, f2, f3, f4⟩, hlt⟩ := (blk_kept hb2 HB.out).five
            have HW2 := hide (HW.out.trans (hb2.mono HW.out.size))
            clear hb2
            go_wp2_with fail
            refine bodyPost_ret (v := tokR 0 ⟨#[]⟩ 0 4) (by simp [results, Tryz.results108, go_sem, k0, k1, k2, k3, k4]) rfl ⟨by rw [HRe.out], ?_⟩
            exact below_set5 HW2.out (Nat.le_refl _) _ _ _ _ _
          · have hb3 : ((k : Int) == 1) = false := by
              have : (k : Int) ≠ 1 := by omega
              simpa using this
            have hX : (s.extract 1 k).data.toList = (s.data.toList.drop 1).take (k - 1) := ext_data s 1 k
            obtain ⟨X, hXd⟩ : ∃ X, X = s.extract 1 k := ⟨_, rfl⟩
            have hXs : X.size ≤ 2000000 := by rw [hXd]; simp; omega
            obtain ⟨Y, hY⟩ : ∃ Y, Y = mk (Lib.replaceAll X.data.toList [34, 34] [34]) := ⟨_, rfl⟩
            have HRe : Hid (R = tokR 3 Y ((k : Int) + 1) 0) := by
              unfold Hid; rw [HR.out]; unfold quoteL; rw [hq2]
              obtain ⟨n, hn⟩ : ∃ n, k - 1 = n + 1 := ⟨k - 2, by omega⟩
              rw [hn]
              show resN (.ok (3, Lib.replaceAll ((s.data.toList.drop 1).take (n + 1)) [34, 34] [34], n + 3)) = _
              rw [← hn, ← hX, ← hXd, show n + 3 = k + 1 by omega, hY]; rfl
            have HRA : Hid (Calls Tryz.prog 117 #[.string X, .string ⟨#[34, 34]⟩, .string ⟨#[34]⟩] (w.alloc tz) fun e w' => e = .returned (.string Y) ∧ Below (w.alloc tz).heap.size (w.alloc tz) w') := by
              obtain ⟨m, hm'⟩ := HM.out
              rw [hY]
              exact Tryz.strings_ReplaceAll X ⟨#[34, 34]⟩ ⟨#[34]⟩ m _ (by omega) hm' (by decide) (by
                have := countB_le X ⟨#[34, 34]⟩ (by decide)
                show X.size + _ * 1 ≤ _; omega)
            have HXd : Hid (s.extract 1 k = X) := hXd.symm
            clear hq2 hq hd hp HQ1 hX hXd hY
            go_wp2_with fail
            refine (HPk.out _).mono ?_
            rintro e w1 ⟨rfl, rfl⟩
            go_wp2_with fail
            rw [HXd.out]
            refine HRA.out.mono ?_
            rintro e w2 ⟨rfl, hb2⟩
            obtain ⟨⟨k0, k1, k2, k3, k4⟩, ⟨f0, f1, f2, f3, f4⟩, hlt⟩ := (blk_kept hb2 HB.out).five
            have HW2 := hide (HW.out.trans (hb2.mono HW.out.size))
            clear hb2
            go_wp2_with fail
            refine bodyPost_ret (v := tokR 3 Y ((k : Int) + 1) 0) (by simp [results, Tryz.results108, go_sem, k0, k1, k2, k3, k4]) rfl ⟨by rw [HRe.out], ?_⟩
            exact below_set5 HW2.out (Nat.le_refl _) _ _ _ _ _
        · have hle : k + 2 ≤ s.size := by
            have := prefix_le hp.symm
            rw [List.length_drop, len_data] at this; simp at this; omega
          have hd2 : s.data.toList.drop (k + 1) = 34 :: s.data.toList.drop (k + 2) := by
            cases hr : s.data.toList.drop (k + 1) with
            | nil => rw [hr] at hp; simp [Lib.hasPrefix, List.isPrefixOf] at hp
            | cons d r =>
              rw [hr] at hp
              simp [Lib.hasPrefix, List.isPrefixOf] at hp
              have : s.data.toList.drop (k + 2) = r := by rw [show k + 2 = (k + 1) + 1 by omega, ← List.drop_drop, hr]; rfl
              rw [this, ← hp]
          have HQ2 : Hid (qEnd (s.data.toList.drop 1) = (qEnd (s.data.toList.drop (k + 2))).map (· + (k + 2 - 1))) := by
            unfold Hid; rw [hq.out, hd, hd2, qEnd_two, map_add, show 2 + (k - 1) = k + 2 - 1 by omega]
          clear hq hd hd2 hp HQ1
          go_wp2_with fail
          refine (HPk.out _).mono ?_
          rintro e w1 ⟨rfl, rfl⟩
          go_wp2_with fail
          exact ⟨⟨k + 2, by omega, by omega, by go_num, HQ2.out⟩, by simp [intOf]; omega⟩
      · have hb : ((c.toNat : Int) != 34) = true := by
          have : (c.toNat : Int) ≠ 34 := fun e => h34 (UInt8.toNat_inj.1 (by simpa using Int.ofNat_inj.1 e))
          simpa using this
        have HQ2 : Hid (qEnd (s.data.toList.drop 1) = (qEnd (s.data.toList.drop (k + 1))).map (· + (k + 1 - 1))) := by
          unfold Hid; rw [hq.out, hd, qEnd_other _ _ h34, map_add, show 1 + (k - 1) = k + 1 - 1 by omega]
        rw [hc] at hb
        clear hq hd hc h34 HQ1
        go_wp2_with fail
        exact ⟨⟨k + 1, by omega, by omega, by go_num, HQ2.out⟩, by simp [intOf]; omega⟩
    · obtain rfl : k = s.size := by omega
      have HRe : Hid (R = tokR 0 ⟨#[]⟩ 0 4) := by
        unfold Hid; rw [HR.out]; unfold quoteL
        rw [hq.out, List.drop_of_length_le (by rw [len_data]; exact Nat.le_refl _)]; rfl
      clear hq HQ1
      go_wp2_with fail
      refine (refuse_c 4 _).mono ?_
      rintro e w2 ⟨rfl, hb2⟩
      obtain ⟨⟨k0, k1, k2, k3, k4⟩, ⟨f0, f1, f2, f3, f4⟩, hlt⟩ := (blk_kept hb2 HB.out).five
      have HW2 := hide (HW.out.trans (hb2.mono HW.out.size))
      clear hb2
      go_wp2_with fail
      refine bodyPost_ret (v := tokR 0 ⟨#[]⟩ 0 4) (by simp [results, Tryz.results108, go_sem, k0, k1, k2, k3, k4]) rfl ⟨by rw [HRe.out], ?_⟩
      exact below_set5 HW2.out (Nat.le_refl _) _ _ _ _ _
end Go.Proofs.YtghnffdjdjlomaaGreatDoor
