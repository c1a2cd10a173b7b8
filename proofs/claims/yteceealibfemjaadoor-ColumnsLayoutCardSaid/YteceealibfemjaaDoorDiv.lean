/-
  CONTRACTS of division and digits (layer 2, columns).
-/
import Derived.Test.YteceealibfemjaaDoorWrt
namespace Go.Proofs.YteceealibfemjaaDoor
open Go.RowKit Go.Shelf

theorem openL_one (c : UInt8) : openL [c] = (c == 34) := by
  unfold openL
  by_cases h : c = 34
  · subst h; rfl
  · rw [List.count_singleton]; simp [h]
theorem openL_snoc (l : List UInt8) (i : Nat) (h : i < l.length) : openL (l.take (i + 1)) = (openL (l.take i) != (l.getD i 0 == 34)) := by
  rw [List.take_succ_eq_append_getElem h, openL_append, openL_one]
  congr 2
  rw [List.getD_eq_getElem?_getD, List.getElem?_eq_getElem h]; rfl
theorem divK_step (l : List UInt8) (op : Bool) (i : Nat) (hi : i < l.length) :
    (divK l op i).getD 0 = if l.getD i 0 = 32 ∧ openL (l.take i) = op then i else (divK l op (i - 1)).getD 0 := by
  cases i with
  | zero => simp [divK]
  | succ i =>
    rw [divK]
    by_cases h : l.getD (i + 1) 0 = 32 ∧ openL (l.take (i + 1)) = op
    · rw [if_pos ⟨hi, h⟩, if_pos h]; rfl
    · rw [if_neg (fun h' => h h'.2), if_neg h]; rfl

/-- how much of a rest stands in the line -/
def divN (l : List UInt8) (room : Nat) (op : Bool) : Nat := (divK l op room).getD room
theorem divK_pos (l : List UInt8) (op : Bool) (k j : Nat) (h : divK l op k = some j) : 0 < j ∧ j ≤ k := by
  induction k with
  | zero => simp [divK] at h
  | succ k ih =>
    rw [divK] at h
    split at h
    · injection h with h; omega
    · have := ih h; omega
theorem divN_of (l : List UInt8) (room : Nat) (op : Bool) : divN l room op = if (divK l op room).getD 0 = 0 then room else (divK l op room).getD 0 := by
  unfold divN
  cases h : divK l op room with
  | none => simp
  | some j =>
    have := divK_pos l op room j h
    simp; omega

set_option maxHeartbeats 2000000 in
set_option maxRecDepth 100000 in
theorem division_c (s : ByteArray) (room : Nat) (op : Bool) (w : World) (hr : room < s.size) (hs : s.size ≤ 2000000) :
    Calls Tryd.prog 33 #[.string s, .int .i64 (room : Int), .bool op] w fun e w' => e = .returned (.int .i64 ((divN s.data.toList room op : Nat) : Int)) ∧ Below w.heap.size w w' := by
  have hcn := hide (fun (q : Bool) (i : Nat) (w1 : World) (h : Boxed w1 w.heap.size 4 (.bool q)) => count_c (s.extract i (i + 1)) w.heap.size q w1 h (by rw [ByteArray.size_extract]; omega))
  go_enter Tryd.func33, Tryd.ntmps33
  go_wp2_with fail
  refine (quotes_c op _).mono ?_
  rintro e w1 ⟨rfl, rfl⟩
  go_wp2_with fail
  go_loopw [8, 15] (fun v8 v15 wr => ∃ (i e : Nat), v8 = .int .i64 (e : Int) ∧ v15 = .int .i64 (i : Int) ∧ i ≤ room + 1 ∧ e ≤ room ∧ Hid (e = (divK s.data.toList op (i - 1)).getD 0) ∧ Boxed wr w.heap.size 4 (.bool (op != openL (s.data.toList.take i))) ∧ Below w.heap.size w wr) (fun _ v15 _ => room + 1 - (intOf v15).toNat)
  case atStart => exact ⟨0, 0, rfl, rfl, Nat.zero_le _, Nat.zero_le _, rfl, by have := Boxed.new w 4 (.bool op); simpa [openL] using this, (Below.refl _ w).alloc (Nat.le_refl _) _⟩
  case round =>
    obtain ⟨i, e, rfl, rfl, hi, he, hE, hbx, hb⟩ := hrel
    have hsz := hb.size
    by_cases hlt : i < room + 1
    · have hil : i < s.size := by omega
      have hg := getD_at s i hil
      have hsn := openL_snoc s.data.toList i (by rw [len_data]; exact hil)
      have hst := divK_step s.data.toList op i (by rw [len_data]; exact hil)
      have hx1 : (s.extract i (i + 1)).data.toList = [s[i]'hil] := one_at s i hil
      rw [hg] at hsn hst
      obtain ⟨q, hq⟩ : ∃ q, q = openL (s.data.toList.take i) := ⟨_, rfl⟩
      rw [← hq] at hsn hst hbx
      have hq2 : ((op != q) != openL (s.extract i (i + 1)).data.toList) = (op != openL (s.data.toList.take (i + 1))) := by
        rw [hx1, openL_one, hsn]; cases op <;> cases q <;> cases ((s[i]'hil) == 34) <;> rfl
      have hc := hcn.out (op != q) i wr hbx
      rw [hq2] at hc
      have HC := hide hc
      have HB := hide hb
      by_cases h32 : (s[i]'hil).toNat = 32
      · have e32 : (((s[i]'hil).toNat : Int) == 32) = true := by rw [beq_iff_eq]; omega
        have hch : s[i]'hil = 32 := UInt8.toNat_inj.1 h32
        have hnq : openL (s.data.toList.take (i + 1)) = q := by rw [hsn, hch]; cases q <;> rfl
        rw [hnq] at HC
        by_cases hoq : q = op
        · have hE2 : Hid (i = (divK s.data.toList op (i + 1 - 1)).getD 0) := by
            unfold Hid; rw [Nat.add_sub_cancel, hst, if_pos ⟨hch, hoq⟩]
          have hbq : (op != q) = false := by rw [hoq]; cases op <;> rfl
          rw [hbq] at HC
          have hbn : (op != openL (s.data.toList.take (i + 1))) = false := by rw [hnq]; exact hbq
          have HBN := hide hbn
          clear hE hg hsn hst hx1 hq2 hc hq hch hnq hbn hbx hb h32 hoq hbq
          go_wp2_with fail
          refine HC.out.mono ?_
          rintro en w2 ⟨rfl, hbx2, hm2⟩
          have HX2 := hide hbx2
          have HM2 := hide hm2
          clear hbx2 hm2
          go_wp2_with fail
          go_roundw
          case rel => exact ⟨i + 1, i, rfl, by go_num, by omega, by omega, hE2, by rw [HBN.out]; exact HX2.out, HB.out.trans (HM2.out.toBelow hsz (by omega))⟩
          case measure => simp [intOf]; omega
        · have hE2 : Hid (e = (divK s.data.toList op (i + 1 - 1)).getD 0) := by
            unfold Hid; rw [Nat.add_sub_cancel, hst, if_neg (fun h => hoq h.2)]; exact hE.out
          have hbq : (op != q) = true := by cases op <;> cases q <;> first | rfl | exact absurd rfl hoq
          rw [hbq] at HC
          have hbn : (op != openL (s.data.toList.take (i + 1))) = true := by rw [hnq]; exact hbq
          have HBN := hide hbn
          clear hE hg hsn hst hx1 hq2 hc hq hch hnq hbn hbx hb h32 hoq hbq
          go_wp2_with fail
          refine HC.out.mono ?_
          rintro en w2 ⟨rfl, hbx2, hm2⟩
          have HX2 := hide hbx2
          have HM2 := hide hm2
          clear hbx2 hm2
          go_wp2_with fail
          go_roundw
          case rel => exact ⟨i + 1, e, rfl, by go_num, by omega, by omega, hE2, by rw [HBN.out]; exact HX2.out, HB.out.trans (HM2.out.toBelow hsz (by omega))⟩
          case measure => simp [intOf]; omega
      · have e32 : (((s[i]'hil).toNat : Int) == 32) = false := by rw [beq_eq_false_iff_ne]; omega
        have hE2 : Hid (e = (divK s.data.toList op (i + 1 - 1)).getD 0) := by
          unfold Hid; rw [Nat.add_sub_cancel, hst, if_neg (fun h => h32 (by rw [h.1]; rfl))]; exact hE.out
        obtain ⟨q2, hq3⟩ : ∃ q2, q2 = (op != openL (s.data.toList.take (i + 1))) := ⟨_, rfl⟩
        rw [← hq3] at HC
        have HQ3 := hide hq3
        clear hE hg hsn hst hx1 hq2 hc hq hbx hb h32 hq3
        go_wp2_with fail
        refine HC.out.mono ?_
        rintro en w2 ⟨rfl, hbx2, hm2⟩
        have HX2 := hide hbx2
        have HM2 := hide hm2
        clear hbx2 hm2
        go_wp2_with fail
        go_roundw
        case rel => exact ⟨i + 1, e, rfl, by go_num, by omega, by omega, hE2, by rw [← HQ3.out]; exact HX2.out, HB.out.trans (HM2.out.toBelow hsz (by omega))⟩
        case measure => simp [intOf]; omega
    · obtain rfl : i = room + 1 := by omega
      have hR : Hid (divN s.data.toList room op = if e = 0 then room else e) := by
        unfold Hid; rw [divN_of, hE.out, Nat.add_sub_cancel]
      clear hE hbx
      by_cases h0 : e = 0
      · subst h0
        go_wp2_with fail
        go_ret
        exact ⟨by rw [hR.out]; rfl, hb⟩
      · have e0 : ((e : Int) == 0) = false := by rw [beq_eq_false_iff_ne]; omega
        go_wp2_with fail
        go_ret
        exact ⟨by rw [hR.out, if_neg h0]; rfl, hb⟩

theorem grown_below (w : World) (k : Nat) (os : Array Obj) : Below w.heap.size w (Sort.grow (w.drewN k) os) :=
  ⟨rfl, rfl, rfl, by simp [Sort.grow, World.drewN], fun i hi => by
    show (w.heap ++ os)[i]? = w.heap[i]?
    exact Array.getElem?_append_left hi⟩
/-- the number of a line as it stands in columns 1 to 6 -/
def numL (n : Nat) : List UInt8 := (Lib.decDigits (1000000 + n % 1000000)).drop 1
set_option maxHeartbeats 400000 in
theorem wdigits_c (n : Nat) (w : World) (hn : n ≤ 100000000) (htab : Lib.TabIs Tryd.prog w "internal/strconv.uint64pow10" .u64 Lib.pow10Tab) :
    Calls Tryd.prog 17 #[.int .i64 (n : Int)] w fun e w' => e = .returned (.string (mk (numL n))) ∧ Below w.heap.size w w' := by
  have h1 : IntKind.i64.wrap ((1000000 : Int) + ((n % 1000000 : Nat) : Int)) = ((1000000 + n % 1000000 : Nat) : Int) := by rw [IntWalk.i64_in _ (by omega)]; omega
  have h2 : (n : Int).tmod 1000000 = ((n % 1000000 : Nat) : Int) := by
    rw [Int.tmod_eq_emod_of_nonneg (by omega)]; omega
  have hI := hide (Tryd.strconv_Itoa ((1000000 + n % 1000000 : Nat) : Int) (by omega) (by omega) w htab)
  have hit : Hid (Lib.itoa ((1000000 + n % 1000000 : Nat) : Int) = Lib.decDigits (1000000 + n % 1000000)) := by
    unfold Hid Lib.itoa; rw [if_neg (by omega)]; rfl
  rw [hit.out, show ((1000000 + n % 1000000 : Nat) : Int) = 1000000 + (n : Int) % 1000000 by omega] at hI
  obtain ⟨d, hd⟩ : ∃ d, d = Lib.decDigits (1000000 + n % 1000000) := ⟨_, rfl⟩
  have hne : d ≠ [] := by
    rw [hd, Lib.decDigits, dif_neg (by omega)]
    simp
  rw [← hd] at hI
  have hR : Hid (numL n = d.drop 1) := by unfold Hid numL; rw [hd]
  have hdl : 1 ≤ (⟨d.toArray⟩ : ByteArray).size := by
    have := List.length_pos_iff.2 hne
    show 1 ≤ d.toArray.size
    rw [List.size_toArray]; exact this
  clear hit hd hne htab
  go_enter Tryd.func17, Tryd.ntmps17
  go_wp2_with fail
  refine hI.out.mono ?_
  rintro e w' ⟨rfl, k, os, rfl⟩
  go_wp2_with fail
  go_ret
  refine ⟨?_, grown_below w k os⟩
  have he : (⟨d.toArray⟩ : ByteArray).extract 1 d.length = mk (d.drop 1) := by
    have := extract_drop (⟨d.toArray⟩ : ByteArray) 1
    rw [show (⟨d.toArray⟩ : ByteArray).size = d.length from List.size_toArray] at this
    rw [← mk_of ((⟨d.toArray⟩ : ByteArray).extract 1 d.length), this]
  rw [hR.out, ← he]; rfl
end Go.Proofs.YteceealibfemjaaDoor
