/-
  THE WALK of the law CharsFit.
-/
import Derived.Test.YtlhkekdhgpmpaaaFillLaw
namespace Go.Proofs.Ytlhkekdhgpmpaaa
open Go.RowKit Go.Shelf

theorem fitL_right_in (l : List UInt8) (m i : Nat) (hi : i < m) (h : i < l.length) : (fitL l m false)[i]? = some l[i] := by
  simp only [fitL, Bool.false_eq_true, if_false]
  rw [List.getElem?_append_left (by simp; omega), List.getElem?_take, if_pos hi, List.getElem?_eq_getElem h]
theorem fitL_right_out (l : List UInt8) (m i : Nat) (hi : i < m) (h : l.length ≤ i) : (fitL l m false)[i]? = some 32 := by
  simp only [fitL, Bool.false_eq_true, if_false]
  rw [List.getElem?_append_right (by simp; omega), List.getElem?_replicate, if_pos (by simp; omega)]
theorem fitL_left_in (l : List UInt8) (m i : Nat) (hi : i < m) (h : m ≤ l.length + i) : (fitL l m true)[i]? = some (l[l.length + i - m]'(by omega)) := by
  simp only [fitL, if_true]
  rw [List.getElem?_append_right (by simp; omega)]
  simp only [List.length_replicate, List.getElem?_drop]
  rw [show l.length - m + (i - (m - l.length)) = l.length + i - m by omega, List.getElem?_eq_getElem (by omega)]
theorem fitL_left_out (l : List UInt8) (m i : Nat) (_hi : i < m) (h : l.length + i < m) : (fitL l m true)[i]? = some 32 := by
  simp only [fitL, if_true]
  rw [List.getElem?_append_left (by simp; omega), List.getElem?_replicate, if_pos (by omega)]

set_option maxHeartbeats 1000000 in
set_option maxRecDepth 100000 in
/-- what is too long for the law -/
theorem CharsFit_far (A : Option Addr) (n cap : Nat) (m : Int) (left : Bool) (w : World) (hs : n ≤ maxLen) (h : 200 < n ∨ (1000 < m ∧ m ≤ 1048576)) :
    Calls Try.prog 7 #[.slice A n cap, .int .i64 m, .bool left] w fun e w' => e = .returned (.bool true) ∧ Below w.heap.size w w' := by
  unfold maxLen at hs
  by_cases h1 : 200 < n
  · clear h
    go_enter Try.func7, Try.ntmps7
    go_wp2_with (go_at_call 9; refine (lives_c _).mono ?_; rintro e w' ⟨rfl, hb⟩)
    go_ret
    exact ⟨rfl, hb⟩
  · have h2 : 1000 < m := by omega
    have h3 : m ≤ 1048576 := by omega
    clear h
    go_enter Try.func7, Try.ntmps7
    go_wp2_with (go_at_call 9; refine (lives_c _).mono ?_; rintro e w' ⟨rfl, hb⟩)
    go_ret
    exact ⟨rfl, hb⟩

set_option maxHeartbeats 2000000 in
set_option maxRecDepth 100000 in
/-- where Fit returns an error -/
theorem CharsFit_bad (A : Option Addr) (l : List UInt8) (n cap B : Nat) (m : Int) (left : Bool) (w : World) (hA : Sl w B A l) (hn : n = l.length) (hm1 : -9223372036854775808 ≤ m) (hm2 : m ≤ 9223372036854775807) (hn1 : n ≤ 200)
    (h : m < 0 ∨ 1048576 < m) :
    Calls Try.prog 7 #[.slice A n cap, .int .i64 m, .bool left] w fun e w' => e = .returned (.bool true) ∧ Below w.heap.size w w' := by
  obtain ⟨S, hS⟩ := sl_name w hA
  have htext := hA.str n cap hn S hS
  have hbad : Hid (fillErr 1 m = (if m < 0 then 1 else 3)) := by
    unfold Hid fillErr
    rcases h with h | h
    · rw [if_pos h, if_pos h]
    · rw [if_neg (by omega), if_pos h, if_neg (by omega)]
  have hne : Hid (fillErr 1 m ≠ 0) := by
    unfold Hid; rw [hbad.out]; split <;> omega
  have HF := fun (w1 : World) => hide (Fit_bad A n cap m left w1 hm1 hm2 hne.out)
  have HFF := hide HF
  clear hA hn hS HF
  rcases h with h | h
  · have H1 : Hid (fillErr 1 m = 1) := by unfold Hid; rw [hbad.out, if_pos h]
    go_enter Try.func7, Try.ntmps7
    go_wp2_with fail
    refine (HFF.out _).out.mono ?_
    rw [H1.out]
    rintro e w1 ⟨rfl, hb1⟩
    go_wp2_with (go_at_call 9; refine (lives_c _).mono ?_; rintro e w' ⟨rfl, hb⟩)
    go_ret
    exact ⟨rfl, hb1.trans (hb.mono hb1.size)⟩
  · have H1 : Hid (fillErr 1 m = 3) := by unfold Hid; rw [hbad.out, if_neg (by omega)]
    go_enter Try.func7, Try.ntmps7
    go_wp2_with fail
    refine (HFF.out _).out.mono ?_
    rw [H1.out]
    rintro e w1 ⟨rfl, hb1⟩
    go_wp2_with (go_at_call 9; refine (lives_c _).mono ?_; rintro e w' ⟨rfl, hb⟩)
    go_ret
    exact ⟨rfl, hb1.trans (hb.mono hb1.size)⟩

theorem lt_of_cell {w : World} {b o : Nat} {v : Value} (h : w.cell? ⟨b, o, none⟩ = some v) : b < w.heap.size := block_lt_of_cell (a := ⟨b, o, none⟩) h

set_option maxHeartbeats 2000000 in
set_option maxRecDepth 100000 in
theorem CharsFit_re (A : Option Addr) (l : List UInt8) (n cap B m : Nat) (w : World) (hA : Sl w B A l) (hB : B ≤ w.heap.size) (hn : n = l.length) (hcap : n ≤ cap) (hs : cap ≤ maxLen) (hn1 : n ≤ 200) (hm : m ≤ 1000) (hn0 : n ≤ 0) :
    Calls Try.prog 7 #[.slice A n cap, .int .i64 (m : Int), .bool false] w fun e w' => e = .returned (.bool true) ∧ Below w.heap.size w w' := by
  obtain ⟨S, hS⟩ := sl_name w hA
  have htext := hA.str n cap hn S hS
  have HF := hide (Fit_c _ l n cap B m false w hA hB hn hcap hs (by omega))
  have HT := hide (fun (w1 : World) (hb : Below w.heap.size w w1) => (hA.keep hb hB B (Nat.le_refl _)).str n cap hn S hS)
  have HA := hide hA
  have Hn := hide hn
  have Hlen := hide (fitL_length l m false)
  unfold maxLen at hs
  clear hS hA hn
  go_enter Try.func7, Try.ntmps7
  go_wp2_with fail
  refine HF.out.mono ?_
  rintro e w1 ⟨rfl, hblk, hb1⟩
  have HB := hide hblk
  clear hblk htext
  go_wp2_with fail
  go_loopw [10] (fun i wr => ∃ k : Nat, ∃ L : List UInt8, k ≤ m ∧ i = .int .i64 k ∧ L.length = m ∧ (∀ j, k ≤ j → L[j]? = (fitL l m false)[j]?) ∧ Blk8 wr (w.heap.size + 1) L ∧ Below w.heap.size w wr) (fun i _ => m - (intOf i).toNat)
  case atStart => exact ⟨0, fitL l m false, Nat.zero_le _, rfl, Hlen.out, fun _ _ => rfl, HB.out, hb1⟩
  case round =>
    obtain ⟨i, L, hi, rfl, hL, hLj, hr, hbr⟩ := hrel
    have HR := hide hr
    have HL := hide hL
    have HLj := hide hLj
    clear hr hL hLj
    by_cases hlt : i < m
    · have hil : i < L.length := by rw [HL.out]; exact hlt
      obtain ⟨c, hc⟩ : ∃ c, L[i]? = some c := ⟨_, List.getElem?_eq_getElem hil⟩
      obtain ⟨hc1, hc2⟩ := HR.out.row.2 i c hc
      have HC : Hid ((fitL l m false)[i]? = some c) := by unfold Hid; rw [← HLj.out i (Nat.le_refl _)]; exact hc
      obtain ⟨v, hv⟩ := bump c
      have HS1 := hide (HR.out.set_ i v)
      have HS2 : Hid (∀ j, i + 1 ≤ j → (L.set i v)[j]? = (fitL l m false)[j]?) := fun j hj => by rw [List.getElem?_set_ne (by omega)]; exact HLj.out j (by omega)
      clear hc hil
      have h32 : c = 32 := by
        have h := HC.out
        rw [fitL_right_out l m i hlt (by have := Hn.out; omega)] at h
        injection h with h
        exact h.symm
      have hq : ((c.toNat : Int) != 32) = false := by rw [h32]; rfl
      clear h32
      go_wp2_with fail
      exact ⟨⟨i + 1, L.set i v, by omega, by go_num, by rw [List.length_set]; exact HL.out, HS2.out, HS1.out, hbr.setCell (by show w.heap.size ≤ w.heap.size + 1; omega) _⟩, by simp [intOf]; omega⟩
    · obtain rfl : i = m := by omega
      have htext := HT.out wr hbr
      go_wp2_with (go_at_call 9; refine (lives_c _).mono ?_; rintro e w' ⟨rfl, hb⟩)
      go_ret
      exact ⟨rfl, hbr.trans (hb.mono hbr.size)⟩

set_option maxHeartbeats 2000000 in
set_option maxRecDepth 100000 in
theorem CharsFit_le (A : Option Addr) (l : List UInt8) (n cap B m : Nat) (w : World) (hA : Sl w B A l) (hB : B ≤ w.heap.size) (hn : n = l.length) (hcap : n ≤ cap) (hs : cap ≤ maxLen) (hn1 : n ≤ 200) (hm : m ≤ 1000) (hn0 : n ≤ 0) :
    Calls Try.prog 7 #[.slice A n cap, .int .i64 (m : Int), .bool true] w fun e w' => e = .returned (.bool true) ∧ Below w.heap.size w w' := by
  obtain ⟨S, hS⟩ := sl_name w hA
  have htext := hA.str n cap hn S hS
  have HF := hide (Fit_c _ l n cap B m true w hA hB hn hcap hs (by omega))
  have HT := hide (fun (w1 : World) (hb : Below w.heap.size w w1) => (hA.keep hb hB B (Nat.le_refl _)).str n cap hn S hS)
  have HA := hide hA
  have Hn := hide hn
  have Hlen := hide (fitL_length l m true)
  unfold maxLen at hs
  clear hS hA hn
  go_enter Try.func7, Try.ntmps7
  go_wp2_with fail
  refine HF.out.mono ?_
  rintro e w1 ⟨rfl, hblk, hb1⟩
  have HB := hide hblk
  clear hblk htext
  go_wp2_with fail
  go_loopw [10] (fun i wr => ∃ k : Nat, ∃ L : List UInt8, k ≤ m ∧ i = .int .i64 k ∧ L.length = m ∧ (∀ j, k ≤ j → L[j]? = (fitL l m true)[j]?) ∧ Blk8 wr (w.heap.size + 1) L ∧ Below w.heap.size w wr) (fun i _ => m - (intOf i).toNat)
  case atStart => exact ⟨0, fitL l m true, Nat.zero_le _, rfl, Hlen.out, fun _ _ => rfl, HB.out, hb1⟩
  case round =>
    obtain ⟨i, L, hi, rfl, hL, hLj, hr, hbr⟩ := hrel
    have HR := hide hr
    have HL := hide hL
    have HLj := hide hLj
    clear hr hL hLj
    by_cases hlt : i < m
    · have hil : i < L.length := by rw [HL.out]; exact hlt
      obtain ⟨c, hc⟩ : ∃ c, L[i]? = some c := ⟨_, List.getElem?_eq_getElem hil⟩
      obtain ⟨hc1, hc2⟩ := HR.out.row.2 i c hc
      have HC : Hid ((fitL l m true)[i]? = some c) := by unfold Hid; rw [← HLj.out i (Nat.le_refl _)]; exact hc
      obtain ⟨v, hv⟩ := bump c
      have HS1 := hide (HR.out.set_ i v)
      have HS2 : Hid (∀ j, i + 1 ≤ j → (L.set i v)[j]? = (fitL l m true)[j]?) := fun j hj => by rw [List.getElem?_set_ne (by omega)]; exact HLj.out j (by omega)
      clear hc hil
      have h32 : c = 32 := by
        have h := HC.out
        rw [fitL_left_out l m i hlt (by have := Hn.out; omega)] at h
        injection h with h
        exact h.symm
      have hq : ((c.toNat : Int) != 32) = false := by rw [h32]; rfl
      clear h32
      go_wp2_with fail
      exact ⟨⟨i + 1, L.set i v, by omega, by go_num, by rw [List.length_set]; exact HL.out, HS2.out, HS1.out, hbr.setCell (by show w.heap.size ≤ w.heap.size + 1; omega) _⟩, by simp [intOf]; omega⟩
    · obtain rfl : i = m := by omega
      have htext := HT.out wr hbr
      go_wp2_with (go_at_call 9; refine (lives_c _).mono ?_; rintro e w' ⟨rfl, hb⟩)
      go_ret
      exact ⟨rfl, hbr.trans (hb.mono hbr.size)⟩

set_option maxHeartbeats 2000000 in
set_option maxRecDepth 100000 in
theorem CharsFit_rs (b off : Nat) (l : List UInt8) (n cap B m : Nat) (w : World) (hA : Sl w B (some ⟨b, off, none⟩) l) (hB : B ≤ w.heap.size) (hn : n = l.length) (hcap : n ≤ cap) (hs : cap ≤ maxLen) (hn1 : n ≤ 200) (hm : m ≤ 1000) :
    Calls Try.prog 7 #[.slice (some ⟨b, off, none⟩) n cap, .int .i64 (m : Int), .bool false] w fun e w' => e = .returned (.bool true) ∧ Below w.heap.size w w' := by
  obtain ⟨S, hS⟩ := sl_name w hA
  have htext := hA.str n cap hn S hS
  have HF := hide (Fit_c _ l n cap B m false w hA hB hn hcap hs (by omega))
  have HT := hide (fun (w1 : World) (hb : Below w.heap.size w w1) => (hA.keep hb hB B (Nat.le_refl _)).str n cap hn S hS)
  have HA := hide hA
  have Hn := hide hn
  have Hlen := hide (fitL_length l m false)
  unfold maxLen at hs
  clear hS hA hn
  go_enter Try.func7, Try.ntmps7
  go_wp2_with fail
  refine HF.out.mono ?_
  rintro e w1 ⟨rfl, hblk, hb1⟩
  have HB := hide hblk
  clear hblk htext
  go_wp2_with fail
  go_loopw [10] (fun i wr => ∃ k : Nat, ∃ L : List UInt8, k ≤ m ∧ i = .int .i64 k ∧ L.length = m ∧ (∀ j, k ≤ j → L[j]? = (fitL l m false)[j]?) ∧ Blk8 wr (w.heap.size + 1) L ∧ Below w.heap.size w wr) (fun i _ => m - (intOf i).toNat)
  case atStart => exact ⟨0, fitL l m false, Nat.zero_le _, rfl, Hlen.out, fun _ _ => rfl, HB.out, hb1⟩
  case round =>
    obtain ⟨i, L, hi, rfl, hL, hLj, hr, hbr⟩ := hrel
    have HR := hide hr
    have HL := hide hL
    have HLj := hide hLj
    clear hr hL hLj
    by_cases hlt : i < m
    · have hil : i < L.length := by rw [HL.out]; exact hlt
      obtain ⟨c, hc⟩ : ∃ c, L[i]? = some c := ⟨_, List.getElem?_eq_getElem hil⟩
      obtain ⟨hc1, hc2⟩ := HR.out.row.2 i c hc
      have HC : Hid ((fitL l m false)[i]? = some c) := by unfold Hid; rw [← HLj.out i (Nat.le_refl _)]; exact hc
      obtain ⟨v, hv⟩ := bump c
      have HS1 := hide (HR.out.set_ i v)
      have HS2 : Hid (∀ j, i + 1 ≤ j → (L.set i v)[j]? = (fitL l m false)[j]?) := fun j hj => by rw [List.getElem?_set_ne (by omega)]; exact HLj.out j (by omega)
      clear hc hil
      by_cases hin : i < n
      · have hcell : w.cell? ⟨b, off + i, none⟩ = some (.int .u8 (c.toNat : Int)) := by
          have hn := Hn.out
          rcases HA.out with h0 | ⟨b', off', e, hbB, hcc⟩
          · subst h0; simp at hn; omega
          · injection e with e
            injection e with e1 e2
            subst e1; subst e2
            have h := HC.out
            rw [fitL_right_in l m i hlt (by omega)] at h
            exact hcc i c (by rw [List.getElem?_eq_getElem (by omega)]; exact h)
        have hbl : b < w.heap.size := lt_of_cell hcell
        have hcell2 : wr.cell? ⟨b, off + i, none⟩ = some (.int .u8 (c.toNat : Int)) := (hbr.cell (p := ⟨b, off + i, none⟩) hbl).trans hcell
        clear hcell
        go_wp2_with fail
        exact ⟨⟨i + 1, L.set i v, by omega, by go_num, by rw [List.length_set]; exact HL.out, HS2.out, HS1.out, hbr.setCell (by show w.heap.size ≤ w.heap.size + 1; omega) _⟩, by simp [intOf]; omega⟩
      · have h32 : c = 32 := by
          have h := HC.out
          rw [fitL_right_out l m i hlt (by have := Hn.out; omega)] at h
          injection h with h
          exact h.symm
        have hq : ((c.toNat : Int) != 32) = false := by rw [h32]; rfl
        clear h32
        go_wp2_with fail
        exact ⟨⟨i + 1, L.set i v, by omega, by go_num, by rw [List.length_set]; exact HL.out, HS2.out, HS1.out, hbr.setCell (by show w.heap.size ≤ w.heap.size + 1; omega) _⟩, by simp [intOf]; omega⟩
    · obtain rfl : i = m := by omega
      have htext := HT.out wr hbr
      go_wp2_with (go_at_call 9; refine (lives_c _).mono ?_; rintro e w' ⟨rfl, hb⟩)
      go_ret
      exact ⟨rfl, hbr.trans (hb.mono hbr.size)⟩

set_option maxHeartbeats 2000000 in
set_option maxRecDepth 100000 in
theorem CharsFit_ls (b off : Nat) (l : List UInt8) (n cap B m : Nat) (w : World) (hA : Sl w B (some ⟨b, off, none⟩) l) (hB : B ≤ w.heap.size) (hn : n = l.length) (hcap : n ≤ cap) (hs : cap ≤ maxLen) (hn1 : n ≤ 200) (hm : m ≤ 1000) :
    Calls Try.prog 7 #[.slice (some ⟨b, off, none⟩) n cap, .int .i64 (m : Int), .bool true] w fun e w' => e = .returned (.bool true) ∧ Below w.heap.size w w' := by
  obtain ⟨S, hS⟩ := sl_name w hA
  have htext := hA.str n cap hn S hS
  have HF := hide (Fit_c _ l n cap B m true w hA hB hn hcap hs (by omega))
  have HT := hide (fun (w1 : World) (hb : Below w.heap.size w w1) => (hA.keep hb hB B (Nat.le_refl _)).str n cap hn S hS)
  have HA := hide hA
  have Hn := hide hn
  have Hlen := hide (fitL_length l m true)
  unfold maxLen at hs
  clear hS hA hn
  go_enter Try.func7, Try.ntmps7
  go_wp2_with fail
  refine HF.out.mono ?_
  rintro e w1 ⟨rfl, hblk, hb1⟩
  have HB := hide hblk
  clear hblk htext
  go_wp2_with fail
  go_loopw [10] (fun i wr => ∃ k : Nat, ∃ L : List UInt8, k ≤ m ∧ i = .int .i64 k ∧ L.length = m ∧ (∀ j, k ≤ j → L[j]? = (fitL l m true)[j]?) ∧ Blk8 wr (w.heap.size + 1) L ∧ Below w.heap.size w wr) (fun i _ => m - (intOf i).toNat)
  case atStart => exact ⟨0, fitL l m true, Nat.zero_le _, rfl, Hlen.out, fun _ _ => rfl, HB.out, hb1⟩
  case round =>
    obtain ⟨i, L, hi, rfl, hL, hLj, hr, hbr⟩ := hrel
    have HR := hide hr
    have HL := hide hL
    have HLj := hide hLj
    clear hr hL hLj
    by_cases hlt : i < m
    · have hil : i < L.length := by rw [HL.out]; exact hlt
      obtain ⟨c, hc⟩ : ∃ c, L[i]? = some c := ⟨_, List.getElem?_eq_getElem hil⟩
      obtain ⟨hc1, hc2⟩ := HR.out.row.2 i c hc
      have HC : Hid ((fitL l m true)[i]? = some c) := by unfold Hid; rw [← HLj.out i (Nat.le_refl _)]; exact hc
      obtain ⟨v, hv⟩ := bump c
      have HS1 := hide (HR.out.set_ i v)
      have HS2 : Hid (∀ j, i + 1 ≤ j → (L.set i v)[j]? = (fitL l m true)[j]?) := fun j hj => by rw [List.getElem?_set_ne (by omega)]; exact HLj.out j (by omega)
      clear hc hil
      by_cases hin : m ≤ n + i
      · obtain ⟨d, hd⟩ : ∃ d, d = n + i - m := ⟨_, rfl⟩
        have hcell : w.cell? ⟨b, off + d, none⟩ = some (.int .u8 (c.toNat : Int)) := by
          have hn := Hn.out
          rcases HA.out with h0 | ⟨b', off', e, hbB, hcc⟩
          · subst h0; simp at hn; omega
          · injection e with e
            injection e with e1 e2
            subst e1; subst e2
            have h := HC.out
            rw [fitL_left_in l m i hlt (by omega)] at h
            exact hcc d c (by subst hd; rw [← h, List.getElem?_eq_getElem (by omega)]; congr 1; simp [hn])
        have hbl : b < w.heap.size := lt_of_cell hcell
        have hcell2 : wr.cell? ⟨b, off + d, none⟩ = some (.int .u8 (c.toNat : Int)) := (hbr.cell (p := ⟨b, off + d, none⟩) hbl).trans hcell
        have hk : (n : Int) - (m : Int) + (i : Int) = (d : Int) := by omega
        have hdn : d < n := by omega
        clear hcell hd
        go_wp2_with fail
        exact ⟨⟨i + 1, L.set i v, by omega, by go_num, by rw [List.length_set]; exact HL.out, HS2.out, HS1.out, hbr.setCell (by show w.heap.size ≤ w.heap.size + 1; omega) _⟩, by simp [intOf]; omega⟩
      · have h32 : c = 32 := by
          have h := HC.out
          rw [fitL_left_out l m i hlt (by have := Hn.out; omega)] at h
          injection h with h
          exact h.symm
        have hq : ((c.toNat : Int) != 32) = false := by rw [h32]; rfl
        clear h32
        go_wp2_with fail
        exact ⟨⟨i + 1, L.set i v, by omega, by go_num, by rw [List.length_set]; exact HL.out, HS2.out, HS1.out, hbr.setCell (by show w.heap.size ≤ w.heap.size + 1; omega) _⟩, by simp [intOf]; omega⟩
    · obtain rfl : i = m := by omega
      have htext := HT.out wr hbr
      go_wp2_with (go_at_call 9; refine (lives_c _).mono ?_; rintro e w' ⟨rfl, hb⟩)
      go_ret
      exact ⟨rfl, hbr.trans (hb.mono hbr.size)⟩

theorem CharsFit_w (A : Option Addr) (l : List UInt8) (n cap B : Nat) (m : Int) (left : Bool) (w : World) (hA : Sl w B A l) (hB : B ≤ w.heap.size) (hn : n = l.length) (hcap : n ≤ cap) (hs : cap ≤ maxLen) (hm1 : -9223372036854775808 ≤ m) (hm2 : m ≤ 9223372036854775807) :
    Calls Try.prog 7 #[.slice A n cap, .int .i64 m, .bool left] w fun e w' => e = .returned (.bool true) ∧ Below w.heap.size w w' := by
  by_cases h1 : 200 < n ∨ (1000 < m ∧ m ≤ 1048576)
  · exact CharsFit_far A n cap m left w (by omega) h1
  · by_cases h2 : m < 0 ∨ 1048576 < m
    · exact CharsFit_bad A l n cap B m left w hA hn hm1 hm2 (by omega) h2
    · obtain ⟨k, rfl⟩ := Int.eq_ofNat_of_zero_le (show 0 ≤ m by omega)
      rcases hA with rfl | ⟨b, off, rfl, hbB, hc⟩
      · cases left
        · exact CharsFit_re A [] n cap B k w (.inl rfl) hB hn hcap hs (by omega) (by omega) (by simp at hn; omega)
        · exact CharsFit_le A [] n cap B k w (.inl rfl) hB hn hcap hs (by omega) (by omega) (by simp at hn; omega)
      · cases left
        · exact CharsFit_rs b off l n cap B k w (.inr ⟨b, off, rfl, hbB, hc⟩) hB hn hcap hs (by omega) (by omega)
        · exact CharsFit_ls b off l n cap B k w (.inr ⟨b, off, rfl, hbB, hc⟩) hB hn hcap hs (by omega) (by omega)
end Go.Proofs.Ytlhkekdhgpmpaaa
