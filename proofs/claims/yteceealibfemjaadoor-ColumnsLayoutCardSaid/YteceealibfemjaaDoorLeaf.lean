/-
  CONTRACTS of the small methods of a row (layer 2, columns): indicator, end, first, fault, ignored.
-/
import Derived.Test.YteceealibfemjaaDoorBase
namespace Go.Proofs.YteceealibfemjaaDoor
open Go.RowKit

theorem padL_length (l : List UInt8) : (padL l).length = max l.length 72 := by simp [padL]; omega
theorem textOf_length (l : List UInt8) : (textOf l).length = 65 := by simp [textOf, padL_length]; omega
theorem markOf_short (l : List UInt8) (h : l.length < 7) : markOf l = 32 := by
  unfold markOf padL
  rw [List.getD_eq_getElem?_getD, List.getElem?_append_right (by omega), List.getElem?_replicate, if_pos (by omega)]; rfl
theorem markOf_long (l : List UInt8) (h : 7 ≤ l.length) : markOf l = l.getD 6 0 := by
  unfold markOf padL
  rw [List.getD_eq_getElem?_getD, List.getElem?_append_left (by omega), ← List.getD_eq_getElem?_getD]
theorem textOf_in (l : List UInt8) (k : Nat) (hk : k < 65) (h : k + 7 < l.length) : (textOf l).getD k 0 = l.getD (k + 7) 0 := by
  unfold textOf padL
  rw [List.getD_eq_getElem?_getD, List.getElem?_take, if_pos hk, List.getElem?_drop, List.getElem?_append_left (by omega), ← List.getD_eq_getElem?_getD, Nat.add_comm]
theorem textOf_out (l : List UInt8) (k : Nat) (hk : k < 65) (h : l.length ≤ k + 7) : (textOf l).getD k 0 = 32 := by
  unfold textOf padL
  rw [List.getD_eq_getElem?_getD, List.getElem?_take, if_pos hk, List.getElem?_drop, List.getElem?_append_right (by omega), List.getElem?_replicate, if_pos (by omega)]; rfl

theorem ret_int {k : IntKind} {a b : Int} (h : a = b) : Ending.returned (.int k a) = .returned (.int k b) := by rw [h]
/-- a row as a struct's cells -/
def rowV (line : Int) (s : ByteArray) : Value := .agg #[.int .i64 line, .string s]

set_option maxHeartbeats 400000 in
theorem indicator_c (line : Int) (s : ByteArray) (w : World) (hs : s.size ≤ 2000000) :
    Calls Tryd.prog 70 #[.agg #[.int .i64 line, .string s]] w fun e w' => e = .returned (.int .u8 ((markOf s.data.toList).toNat : Int)) ∧ Below w.heap.size w w' := by
  by_cases h : s.size < 7
  · have H := hide (markOf_short s.data.toList (by rw [len_data]; exact h))
    go_enter Tryd.func70, Tryd.ntmps70
    go_wp2_with fail
    go_ret
    exact ⟨by rw [H.out]; rfl, (Below.refl _ _).alloc (Nat.le_refl _) _⟩
  · have h6 : 6 < s.size := by omega
    have H := hide (markOf_long s.data.toList (by rw [len_data]; omega))
    have G := hide (getD_at s 6 h6)
    go_enter Tryd.func70, Tryd.ntmps70
    go_wp2_with fail
    go_ret
    exact ⟨by rw [H.out, G.out]; rfl, (Below.refl _ _).alloc (Nat.le_refl _) _⟩

set_option maxHeartbeats 400000 in
theorem end_rc (line : Int) (s : ByteArray) (w : World) (hs : s.size ≤ 2000000) :
    Calls Tryd.prog 82 #[.agg #[.int .i64 line, .string s]] w fun e w' => e = .returned (.int .i64 ((min s.size 72 : Nat) : Int)) ∧ Below w.heap.size w w' := by
  go_enter Tryd.func82, Tryd.ntmps82
  by_cases h : s.size ≤ 72
  all_goals
    go_wp2_with fail
    go_ret
    exact ⟨ret_int (by omega), (Below.refl _ _).alloc (Nat.le_refl _) _⟩

set_option maxHeartbeats 400000 in
theorem fault_c (line e c : Int) (s : ByteArray) (w : World) :
    Calls Tryd.prog 69 #[.agg #[.int .i64 line, .string s], .int .i64 e, .int .i64 c] w fun en w' => en = .returned (fault (e, line, c)) ∧ Below w.heap.size w w' := by
  go_enter Tryd.func69, Tryd.ntmps69
  go_wp2_with fail
  refine bodyPost_ret (v := fault (e, line, c)) (by simp [results, Tryd.results69, go_sem, fault]) rfl ?_
  exact ⟨rfl, below2 _ _ _⟩

theorem cell_at_new (w : World) (cs : Array Value) (T : TypeId) (j : Nat) : (w.alloc (.cells cs T)).cell? ⟨w.heap.size, j, none⟩ = cs[j]? := by
  unfold World.cell?
  rw [heap_alloc_new]
  rfl
/-- the column of the first character of a line that is not a space, or 0 -/
def firstC (l : List UInt8) : Nat := if firstN (textOf l) < 65 then firstN (textOf l) + 8 else 0
theorem bcell {W w1 : World} (hb : Below W.heap.size W w1) : (∀ b o, b < W.heap.size → w1.cell? ⟨b, o, none⟩ = W.cell? ⟨b, o, none⟩) ∧ (∀ b o, b < W.heap.size → w1.frozen? ⟨b, o, none⟩ = W.frozen? ⟨b, o, none⟩) :=
  ⟨fun b o h => hb.cell (p := ⟨b, o, none⟩) h, fun b o h => hb.frozen (p := ⟨b, o, none⟩) h⟩

set_option maxHeartbeats 1000000 in
theorem first_rc (line : Int) (s : ByteArray) (w : World) (hs : s.size ≤ 2000000) :
    Calls Tryd.prog 71 #[.agg #[.int .i64 line, .string s]] w fun e w' => e = .returned (.int .i64 ((firstC s.data.toList : Nat) : Int)) ∧ Below w.heap.size w w' := by
  go_enter Tryd.func71, Tryd.ntmps71
  go_wp2_with fail
  go_loopw [3] (fun v wr => ∃ k : Nat, v = .int .i64 ((k : Int) + 8) ∧ k ≤ 65 ∧ Hid (∀ j, j < k → (textOf s.data.toList).getD j 0 = 32) ∧ wr.cell? ⟨w.heap.size, 0, none⟩ = some (.int .i64 line) ∧ wr.cell? ⟨w.heap.size, 1, none⟩ = some (.string s) ∧ w.heap.size < wr.heap.size ∧ Below w.heap.size w wr) (fun v _ => (100 - intOf v).toNat)
  case atStart => exact ⟨0, rfl, Nat.zero_le _, fun j hj => by omega, cell_at_new w _ _ 0, cell_at_new w _ _ 1, by simp, (Below.refl _ _).alloc (Nat.le_refl _) _⟩
  case round =>
    obtain ⟨k, rfl, hk, hf, c0, c1, hz, hB⟩ := hrel
    have hlen := textOf_length s.data.toList
    by_cases hin : k + 8 ≤ min s.size 72
    · have hk7 : k + 7 < s.size := by omega
      have hT := textOf_in s.data.toList k (by omega) (by rw [len_data]; omega)
      rw [getD_at s (k + 7) hk7] at hT
      by_cases hc : (s[k + 7]'hk7).toNat = 32
      · have eq : (((s[k + 7]'hk7).toNat : Int) != 32) = false := by rw [bne_eq_false_iff_eq]; omega
        have H : Hid (∀ j, j < k + 1 → (textOf s.data.toList).getD j 0 = 32) := fun j hj => by
          rcases Nat.lt_or_ge j k with h | h
          · exact hf.out j h
          · obtain rfl : k = j := by omega
            rw [hT]; exact UInt8.toNat_inj.1 hc
        clear hT hc hf hlen
        go_wp2_with (go_at_call 82; refine (end_rc _ _ _ hs).mono ?_; rintro e w1 ⟨rfl, hb1⟩; obtain ⟨hc1, hf1⟩ := bcell hb1)
        go_roundw
        case rel => exact ⟨k + 1, by go_num, by omega, H, (hc1 _ _ hz).trans c0, (hc1 _ _ hz).trans c1, by have := hb1.size; omega, hB.trans (hb1.mono hB.size)⟩
        case measure => simp [intOf]; omega
      · have eq : (((s[k + 7]'hk7).toNat : Int) != 32) = true := by rw [bne_iff_ne]; omega
        have H : Hid (firstC s.data.toList = k + 8) := by
          have h1 := firstN_stop _ k (by rw [hlen]; omega) hf.out (by rw [hT]; intro e; exact hc (by rw [e]; rfl))
          unfold Hid firstC
          rw [h1, if_pos (by omega)]
        clear hT hc hf hlen
        go_wp2_with (go_at_call 82; refine (end_rc _ _ _ hs).mono ?_; rintro e w1 ⟨rfl, hb1⟩; obtain ⟨hc1, hf1⟩ := bcell hb1)
        go_ret
        exact ⟨by rw [H.out]; rfl, hB.trans (hb1.mono hB.size)⟩
    · have H : Hid (firstC s.data.toList = 0) := by
        have h1 := firstN_front (textOf s.data.toList) 65 (by omega) (fun j hj => by
          rcases Nat.lt_or_ge j k with h | h
          · exact hf.out j h
          · exact textOf_out _ j hj (by rw [len_data]; omega))
        unfold Hid firstC
        rw [if_neg (by omega)]
      clear hf hlen
      go_wp2_with (go_at_call 82; refine (end_rc _ _ _ hs).mono ?_; rintro e w1 ⟨rfl, hb1⟩; obtain ⟨hc1, hf1⟩ := bcell hb1)
      go_ret
      exact ⟨by rw [H.out]; rfl, hB.trans (hb1.mono hB.size)⟩

theorem z_eq (f : Nat) : ((f : Int) == 0) = decide (f = 0) := by rw [Bool.eq_iff_iff]; simp
/-- whether a line that is right is not ignored -/
def countsL (debug : Bool) (l : List UInt8) : Bool :=
  if markOf l = 42 ∨ markOf l = 47 then false else if markOf l = 68 ∨ markOf l = 100 then debug && decide (firstN (textOf l) < 65) else decide (firstN (textOf l) < 65)
theorem firstC_dec (l : List UInt8) : (!decide (firstC l = 0)) = decide (firstN (textOf l) < 65) := by
  unfold firstC; split <;> simp [*]

set_option maxHeartbeats 1000000 in
theorem ignored_c (line : Int) (s : ByteArray) (debug : Bool) (w : World) (hs : s.size ≤ 2000000) :
    Calls Tryd.prog 47 #[.agg #[.int .i64 line, .string s], .bool debug] w fun e w' => e = .returned (.bool (!countsL debug s.data.toList)) ∧ Below w.heap.size w w' := by
  have hI := hide (fun (w1 : World) => indicator_c line s w1 hs)
  have hF := hide (fun (w1 : World) => first_rc line s w1 hs)
  have hC : Hid (countsL debug s.data.toList = if markOf s.data.toList = 42 ∨ markOf s.data.toList = 47 then false else if markOf s.data.toList = 68 ∨ markOf s.data.toList = 100 then debug && !decide (firstC s.data.toList = 0) else !decide (firstC s.data.toList = 0)) := by
    unfold Hid countsL; rw [firstC_dec]
  obtain ⟨m, hm⟩ : ∃ m, m = markOf s.data.toList := ⟨_, rfl⟩
  obtain ⟨f, hf⟩ : ∃ f, f = firstC s.data.toList := ⟨_, rfl⟩
  rw [← hm, ← hf] at hC
  rw [← hm] at hI
  rw [← hf] at hF
  have hfl : f ≤ 72 := by rw [hf]; unfold firstC; split <;> omega
  clear hm hf
  have hm8 : ∀ k : UInt8, (m = k) = (m.toNat = k.toNat) := fun k => propext ⟨fun h => by rw [h], fun h => UInt8.toNat_inj.1 h⟩
  simp only [hm8] at hC
  clear hm8
  have hC' : Hid (countsL debug s.data.toList = if m.toNat = 42 ∨ m.toNat = 47 then false else if m.toNat = 68 ∨ m.toNat = 100 then debug && !decide (f = 0) else !decide (f = 0)) := hC
  clear hC
  by_cases h42 : m.toNat = 42
  · have e42 : ((m.toNat : Int) == 42) = true := by rw [beq_iff_eq]; omega
    have hR : Hid (countsL debug s.data.toList = false) := by unfold Hid; rw [hC'.out]; rw [if_pos (.inl h42)]
    clear hC' h42
    go_enter Tryd.func47, Tryd.ntmps47
    go_wp2_with (go_at_call 70; refine (hI.out _).mono ?_; rintro e w1 ⟨rfl, hb1⟩; have hc0 := (hb1.cell (p := ⟨w.heap.size, 0, none⟩) (by simp)).trans (cell_at_new w #[.int .i64 line, .string s] 93 0); have hc1 := (hb1.cell (p := ⟨w.heap.size, 1, none⟩) (by simp)).trans (cell_at_new w #[.int .i64 line, .string s] 93 1); have hb2 := ((Below.refl w.heap.size w).alloc (Nat.le_refl _) (.cells #[.int .i64 line, .string s] 93)).trans (hb1.mono (by simp)))
    go_ret
    exact ⟨by rw [hR.out]; rfl, hb2⟩
  · by_cases h47 : m.toNat = 47
    · have e42 : ((m.toNat : Int) == 42) = false := by rw [beq_eq_false_iff_ne]; omega
      have e47 : ((m.toNat : Int) == 47) = true := by rw [beq_iff_eq]; omega
      have hR : Hid (countsL debug s.data.toList = false) := by unfold Hid; rw [hC'.out]; rw [if_pos (.inr h47)]
      clear hC' h42 h47
      go_enter Tryd.func47, Tryd.ntmps47
      go_wp2_with (go_at_call 70; refine (hI.out _).mono ?_; rintro e w1 ⟨rfl, hb1⟩; have hc0 := (hb1.cell (p := ⟨w.heap.size, 0, none⟩) (by simp)).trans (cell_at_new w #[.int .i64 line, .string s] 93 0); have hc1 := (hb1.cell (p := ⟨w.heap.size, 1, none⟩) (by simp)).trans (cell_at_new w #[.int .i64 line, .string s] 93 1); have hb2 := ((Below.refl w.heap.size w).alloc (Nat.le_refl _) (.cells #[.int .i64 line, .string s] 93)).trans (hb1.mono (by simp)))
      go_ret
      exact ⟨by rw [hR.out]; rfl, hb2⟩
    · have hdd : m.toNat = 68 ∨ m.toNat = 100 ∨ (¬ m.toNat = 68 ∧ ¬ m.toNat = 100) := by omega
      rcases hdd with h68 | h100 | ⟨h68, h100⟩
      · cases debug
        · have e42 : ((m.toNat : Int) == 42) = false := by rw [beq_eq_false_iff_ne]; omega
          have e47 : ((m.toNat : Int) == 47) = false := by rw [beq_eq_false_iff_ne]; omega
          have e68 : ((m.toNat : Int) == 68) = true := by rw [beq_iff_eq]; omega
          have hR : Hid (countsL false s.data.toList = false) := by unfold Hid; rw [hC'.out]; rw [if_neg (by omega), if_pos (.inl h68)]; rfl
          clear hC' h42 h47 h68
          go_enter Tryd.func47, Tryd.ntmps47
          go_wp2_with (go_at_call 70; refine (hI.out _).mono ?_; rintro e w1 ⟨rfl, hb1⟩; have hc0 := (hb1.cell (p := ⟨w.heap.size, 0, none⟩) (by simp)).trans (cell_at_new w #[.int .i64 line, .string s] 93 0); have hc1 := (hb1.cell (p := ⟨w.heap.size, 1, none⟩) (by simp)).trans (cell_at_new w #[.int .i64 line, .string s] 93 1); have hb2 := ((Below.refl w.heap.size w).alloc (Nat.le_refl _) (.cells #[.int .i64 line, .string s] 93)).trans (hb1.mono (by simp)))
          go_ret
          exact ⟨by rw [hR.out]; rfl, hb2⟩
        · have e42 : ((m.toNat : Int) == 42) = false := by rw [beq_eq_false_iff_ne]; omega
          have e47 : ((m.toNat : Int) == 47) = false := by rw [beq_eq_false_iff_ne]; omega
          have e68 : ((m.toNat : Int) == 68) = true := by rw [beq_iff_eq]; omega
          have hR : Hid (countsL true s.data.toList = (!decide (f = 0))) := by unfold Hid; rw [hC'.out]; rw [if_neg (by omega), if_pos (.inl h68)]; rfl
          clear hC' h42 h47 h68
          go_enter Tryd.func47, Tryd.ntmps47
          go_wp2_with (go_at_call 70; refine (hI.out _).mono ?_; rintro e w1 ⟨rfl, hb1⟩; have hc0 := (hb1.cell (p := ⟨w.heap.size, 0, none⟩) (by simp)).trans (cell_at_new w #[.int .i64 line, .string s] 93 0); have hc1 := (hb1.cell (p := ⟨w.heap.size, 1, none⟩) (by simp)).trans (cell_at_new w #[.int .i64 line, .string s] 93 1); have hb2 := ((Below.refl w.heap.size w).alloc (Nat.le_refl _) (.cells #[.int .i64 line, .string s] 93)).trans (hb1.mono (by simp)))
          go_wp2_with (go_at_call 71; refine (hF.out _).mono ?_; rintro e w2 ⟨rfl, hb3⟩)
          go_ret
          exact ⟨ret_bool (by rw [hR.out, z_eq, Bool.not_not]), hb2.trans (hb3.mono hb2.size)⟩
      · have h68 : ¬ m.toNat = 68 := by omega
        cases debug
        · have e42 : ((m.toNat : Int) == 42) = false := by rw [beq_eq_false_iff_ne]; omega
          have e47 : ((m.toNat : Int) == 47) = false := by rw [beq_eq_false_iff_ne]; omega
          have e68 : ((m.toNat : Int) == 68) = false := by rw [beq_eq_false_iff_ne]; omega
          have e100 : ((m.toNat : Int) == 100) = true := by rw [beq_iff_eq]; omega
          have hR : Hid (countsL false s.data.toList = false) := by unfold Hid; rw [hC'.out]; rw [if_neg (by omega), if_pos (.inr h100)]; rfl
          clear hC' h42 h47 h68 h100
          go_enter Tryd.func47, Tryd.ntmps47
          go_wp2_with (go_at_call 70; refine (hI.out _).mono ?_; rintro e w1 ⟨rfl, hb1⟩; have hc0 := (hb1.cell (p := ⟨w.heap.size, 0, none⟩) (by simp)).trans (cell_at_new w #[.int .i64 line, .string s] 93 0); have hc1 := (hb1.cell (p := ⟨w.heap.size, 1, none⟩) (by simp)).trans (cell_at_new w #[.int .i64 line, .string s] 93 1); have hb2 := ((Below.refl w.heap.size w).alloc (Nat.le_refl _) (.cells #[.int .i64 line, .string s] 93)).trans (hb1.mono (by simp)))
          go_ret
          exact ⟨by rw [hR.out]; rfl, hb2⟩
        · have e42 : ((m.toNat : Int) == 42) = false := by rw [beq_eq_false_iff_ne]; omega
          have e47 : ((m.toNat : Int) == 47) = false := by rw [beq_eq_false_iff_ne]; omega
          have e68 : ((m.toNat : Int) == 68) = false := by rw [beq_eq_false_iff_ne]; omega
          have e100 : ((m.toNat : Int) == 100) = true := by rw [beq_iff_eq]; omega
          have hR : Hid (countsL true s.data.toList = (!decide (f = 0))) := by unfold Hid; rw [hC'.out]; rw [if_neg (by omega), if_pos (.inr h100)]; rfl
          clear hC' h42 h47 h68 h100
          go_enter Tryd.func47, Tryd.ntmps47
          go_wp2_with (go_at_call 70; refine (hI.out _).mono ?_; rintro e w1 ⟨rfl, hb1⟩; have hc0 := (hb1.cell (p := ⟨w.heap.size, 0, none⟩) (by simp)).trans (cell_at_new w #[.int .i64 line, .string s] 93 0); have hc1 := (hb1.cell (p := ⟨w.heap.size, 1, none⟩) (by simp)).trans (cell_at_new w #[.int .i64 line, .string s] 93 1); have hb2 := ((Below.refl w.heap.size w).alloc (Nat.le_refl _) (.cells #[.int .i64 line, .string s] 93)).trans (hb1.mono (by simp)))
          go_wp2_with (go_at_call 71; refine (hF.out _).mono ?_; rintro e w2 ⟨rfl, hb3⟩)
          go_ret
          exact ⟨ret_bool (by rw [hR.out, z_eq, Bool.not_not]), hb2.trans (hb3.mono hb2.size)⟩
      · have e42 : ((m.toNat : Int) == 42) = false := by rw [beq_eq_false_iff_ne]; omega
        have e47 : ((m.toNat : Int) == 47) = false := by rw [beq_eq_false_iff_ne]; omega
        have e68 : ((m.toNat : Int) == 68) = false := by rw [beq_eq_false_iff_ne]; omega
        have e100 : ((m.toNat : Int) == 100) = false := by rw [beq_eq_false_iff_ne]; omega
        have hR : Hid (countsL debug s.data.toList = (!decide (f = 0))) := by unfold Hid; rw [hC'.out]; rw [if_neg (by omega), if_neg (by omega)]
        clear hC' h42 h47 h68 h100
        go_enter Tryd.func47, Tryd.ntmps47
        go_wp2_with (go_at_call 70; refine (hI.out _).mono ?_; rintro e w1 ⟨rfl, hb1⟩; have hc0 := (hb1.cell (p := ⟨w.heap.size, 0, none⟩) (by simp)).trans (cell_at_new w #[.int .i64 line, .string s] 93 0); have hc1 := (hb1.cell (p := ⟨w.heap.size, 1, none⟩) (by simp)).trans (cell_at_new w #[.int .i64 line, .string s] 93 1); have hb2 := ((Below.refl w.heap.size w).alloc (Nat.le_refl _) (.cells #[.int .i64 line, .string s] 93)).trans (hb1.mono (by simp)))
        go_wp2_with (go_at_call 71; refine (hF.out _).mono ?_; rintro e w2 ⟨rfl, hb3⟩)
        go_ret
        exact ⟨ret_bool (by rw [hR.out, z_eq, Bool.not_not]), hb2.trans (hb3.mono hb2.size)⟩
end Go.Proofs.YteceealibfemjaaDoor
