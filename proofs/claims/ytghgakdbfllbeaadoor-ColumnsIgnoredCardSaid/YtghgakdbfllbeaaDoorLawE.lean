/-
  CONTRACTS of what computes on strings besides (layer 2, columns): plain, divide, digits of the laws, Squeeze of the reference.
-/
import Derived.Test.YtghgakdbfllbeaaDoorBase
namespace Go.Proofs.YtghgakdbfllbeaaDoor
open Go.RowKit


set_option maxHeartbeats 400000 in
theorem plain_c (s : ByteArray) (w : World) (hs : s.size ≤ maxLen) :
    Calls Tryd.prog 20 #[.string s] w fun e w' => e = .returned (.bool (decide (badN s.data.toList = s.size))) ∧ w = w' := by
  unfold maxLen at hs
  go_enter Tryd.func20, Tryd.ntmps20
  go_wp2_with fail
  go_loop [3] (fun i => ∃ k : Nat, k ≤ s.size ∧ i = .int .i64 k ∧ Hid (∀ j (h : j < s.size), j < k → badC (s[j]'h) = false)) (fun i => s.size - (intOf i).toNat)
  case atStart => exact ⟨0, Nat.zero_le _, rfl, fun j _ hj => by omega⟩
  case round =>
    obtain ⟨k, hk, rfl, hf⟩ := hrel
    by_cases hlt : k < s.size
    · by_cases hb : badC (s[k]'hlt) = true
      · have hbn : Hid (badN s.data.toList = k) := badN_at _ k (by rw [len_data]; exact hlt) (fun j h hj => hf.out j (by rw [← len_data]; exact h) hj) hb
        have hbx : (s[k]'hlt).toNat < 32 ∨ 126 < (s[k]'hlt).toNat := by simpa [badC] using hb
        clear hb hf
        rcases hbx with hb | hb
        all_goals
          go_wp2_with fail
          go_ret
          exact ⟨ret_bool (by rw [hbn.out]; simp; omega), rfl⟩
      · have hbx : ¬ (s[k]'hlt).toNat < 32 ∧ ¬ 126 < (s[k]'hlt).toNat := by simpa [badC] using hb
        have H : Hid (∀ j (h : j < s.size), j < k + 1 → badC (s[j]'h) = false) := fun j h hj => by
          rcases Nat.lt_or_ge j k with h' | h'
          · exact hf.out j h h'
          · obtain rfl : k = j := by omega
            simpa using hb
        obtain ⟨hb1, hb2⟩ := hbx
        clear hb hf
        go_wp2_with fail
        exact ⟨⟨k + 1, by omega, by go_num, H⟩, by simp [intOf]; omega⟩
    · have hbn : Hid (badN s.data.toList = s.size) := by
        unfold Hid
        rw [badN_none _ (fun j h => hf.out j (by rw [← len_data]; exact h) (by rw [len_data] at h; omega)), len_data]
      obtain rfl : k = s.size := by omega
      clear hf
      go_wp2_with fail
      go_ret
      exact ⟨ret_bool (by rw [hbn.out]; simp), rfl⟩
/-- whether a space stands before a place -/
def spAt (s : ByteArray) : Nat → Bool
  | 0 => false
  | k + 1 => s.data.toList.getD k 0 == 32
def SqI (s X : ByteArray) (k : Nat) (q : Bool) : Prop := squeezeL s.data.toList = X.data.toList ++ sqz (spAt s k) q (s.data.toList.drop k)
theorem SqI.keep {s X : ByteArray} {k : Nat} {q : Bool} (h : SqI s X k q) (hk : k < s.size) (hc : s[k] ≠ 32 ∨ q = true ∨ spAt s k = false) : SqI s (X ++ s.extract k (k + 1)) (k + 1) (if s[k] = 34 then !q else q) := by
  unfold SqI at *
  rw [h, drop_one s k hk, sqz, if_neg (by rcases hc with h | h | h <;> simp [h]), ByteArray.data_append, Array.toList_append, one_at s k hk]
  simp only [spAt, getD_at s k hk, List.append_assoc, List.singleton_append]
theorem SqI.skip {s X : ByteArray} {k : Nat} (h : SqI s X k false) (hk : k < s.size) (hc : s[k] = 32) (hp : spAt s k = true) : SqI s X (k + 1) false := by
  unfold SqI at *
  rw [h, drop_one s k hk, sqz, if_pos ⟨hc, rfl, hp⟩]
  simp only [spAt, getD_at s k hk, hc]
  rfl
theorem spAt_of (s : ByteArray) (k : Nat) (h0 : 0 < k) (hk : k ≤ s.size) : spAt s k = (s[k - 1]'(by omega) == 32) := by
  cases k with
  | zero => omega
  | succ k => simp only [spAt, getD_at s k (by omega)]; rfl
set_option maxHeartbeats 2000000 in
set_option maxRecDepth 100000 in
theorem Squeeze_c (s : ByteArray) (w : World) (hs : s.size ≤ 2000000) :
    Calls Tryd.prog 13 #[.string s] w fun e w' => e = .returned (.string (mk (squeezeL s.data.toList))) ∧ w = w' := by
  go_enter Tryd.func13, Tryd.ntmps13
  go_wp2_with fail
  go_loop [3, 4, 5] (fun o q i => ∃ (X : ByteArray) (b : Bool) (k : Nat), o = .string X ∧ q = .bool b ∧ i = .int .i64 k ∧ k ≤ s.size ∧ X.size ≤ k ∧ Hid (SqI s X k b)) (fun _ _ i => s.size - (intOf i).toNat)
  case atStart => exact ⟨⟨#[]⟩, false, 0, rfl, rfl, rfl, Nat.zero_le _, Nat.le_refl _, rfl⟩
  case round =>
    obtain ⟨X, b, k, rfl, rfl, rfl, hk, hX, hI⟩ := hrel
    by_cases hlt : k < s.size
    · have hsz : (X ++ s.extract k (k + 1)).size ≤ k + 1 := by rw [ByteArray.size_append]; simp; omega
      have hadd := fun wx : World => run_string_add_sum (P := Tryd.prog) wx X (s.extract k (k + 1)) (by simp; omega)
      have HZ := hide hsz
      clear hsz
      by_cases h34 : (s[k]'hlt).toNat = 34
      · have e34 : (((s[k]'hlt).toNat : Int) == 34) = true := by rw [beq_iff_eq]; omega
        have e32 : (((s[k]'hlt).toNat : Int) == 32) = false := by rw [beq_eq_false_iff_ne]; omega
        have hn : s[k]'hlt ≠ 32 := fun e => by rw [e] at h34; exact absurd h34 (by decide)
        cases b
        · have H : Hid (SqI s (X ++ s.extract k (k + 1)) (k + 1) true) := by
            have h := hI.out.keep hlt (.inl hn)
            rw [if_pos (UInt8.toNat_inj.1 h34)] at h; exact h
          clear hI h34 hn
          go_wp2_with fail
          exact ⟨⟨_, _, k + 1, rfl, rfl, by go_num, by omega, HZ.out, H⟩, by simp [intOf]; omega⟩
        · have H : Hid (SqI s (X ++ s.extract k (k + 1)) (k + 1) false) := by
            have h := hI.out.keep hlt (.inl hn)
            rw [if_pos (UInt8.toNat_inj.1 h34)] at h; exact h
          clear hI h34 hn
          go_wp2_with fail
          exact ⟨⟨_, _, k + 1, rfl, rfl, by go_num, by omega, HZ.out, H⟩, by simp [intOf]; omega⟩
      · by_cases h32 : (s[k]'hlt).toNat = 32
        · have e34 : (((s[k]'hlt).toNat : Int) == 34) = false := by rw [beq_eq_false_iff_ne]; omega
          have e32 : (((s[k]'hlt).toNat : Int) == 32) = true := by rw [beq_iff_eq]; omega
          cases b
          · by_cases h0 : 0 < k
            · have hsp := spAt_of s k h0 hk
              by_cases hp : (s[k - 1]'(by omega)).toNat = 32
              · have ep : (((s[k - 1]'(by omega)).toNat : Int) == 32) = true := by rw [beq_iff_eq]; omega
                have H : Hid (SqI s X (k + 1) false) := hI.out.skip hlt (UInt8.toNat_inj.1 h32) (by rw [hsp, beq_iff_eq]; exact UInt8.toNat_inj.1 hp)
                clear hI h34 h32 hsp hp
                go_wp2_with fail
                exact ⟨⟨_, _, k + 1, rfl, rfl, by go_num, by omega, by omega, H⟩, by simp [intOf]; omega⟩
              · have ep : (((s[k - 1]'(by omega)).toNat : Int) == 32) = false := by rw [beq_eq_false_iff_ne]; omega
                have H : Hid (SqI s (X ++ s.extract k (k + 1)) (k + 1) false) := by
                  have h := hI.out.keep hlt (.inr (.inr (by rw [hsp, beq_eq_false_iff_ne]; exact fun e => hp (by rw [e]; rfl))))
                  rw [if_neg (fun e => h34 (by rw [e]; rfl))] at h; exact h
                clear hI h34 h32 hsp hp
                go_wp2_with fail
                exact ⟨⟨_, _, k + 1, rfl, rfl, by go_num, by omega, HZ.out, H⟩, by simp [intOf]; omega⟩
            · obtain rfl : 0 = k := by omega
              have H : Hid (SqI s (X ++ s.extract 0 (0 + 1)) (0 + 1) false) := by
                have h := hI.out.keep hlt (.inr (.inr rfl))
                rw [if_neg (fun e => h34 (by rw [e]; rfl))] at h; exact h
              clear hI h34 h32 h0
              go_wp2_with fail
              exact ⟨⟨_, _, 0 + 1, rfl, rfl, by go_num, by omega, HZ.out, H⟩, by simp [intOf]; omega⟩
          · have H : Hid (SqI s (X ++ s.extract k (k + 1)) (k + 1) true) := by
              have h := hI.out.keep hlt (.inr (.inl rfl))
              rw [if_neg (fun e => h34 (by rw [e]; rfl))] at h; exact h
            clear hI h34 h32
            go_wp2_with fail
            exact ⟨⟨_, _, k + 1, rfl, rfl, by go_num, by omega, HZ.out, H⟩, by simp [intOf]; omega⟩
        · have e34 : (((s[k]'hlt).toNat : Int) == 34) = false := by rw [beq_eq_false_iff_ne]; omega
          have e32 : (((s[k]'hlt).toNat : Int) == 32) = false := by rw [beq_eq_false_iff_ne]; omega
          cases b
          · have H : Hid (SqI s (X ++ s.extract k (k + 1)) (k + 1) false) := by
              have h := hI.out.keep hlt (.inl (fun e => h32 (by rw [e]; rfl)))
              rw [if_neg (fun e => h34 (by rw [e]; rfl))] at h; exact h
            clear hI h34 h32
            go_wp2_with fail
            exact ⟨⟨_, _, k + 1, rfl, rfl, by go_num, by omega, HZ.out, H⟩, by simp [intOf]; omega⟩
          · have H : Hid (SqI s (X ++ s.extract k (k + 1)) (k + 1) true) := by
              have h := hI.out.keep hlt (.inl (fun e => h32 (by rw [e]; rfl)))
              rw [if_neg (fun e => h34 (by rw [e]; rfl))] at h; exact h
            clear hI h34 h32
            go_wp2_with fail
            exact ⟨⟨_, _, k + 1, rfl, rfl, by go_num, by omega, HZ.out, H⟩, by simp [intOf]; omega⟩
    · have H : Hid (squeezeL s.data.toList = X.data.toList) := by
        obtain rfl : k = s.size := by omega
        have e : s.data.toList.drop s.size = [] := List.drop_eq_nil_of_le (by rw [len_data]; exact Nat.le_refl _)
        have h := hI.out
        unfold SqI at h
        rw [e] at h
        unfold Hid; rw [h]; simp [sqz]
      obtain rfl : k = s.size := by omega
      clear hI
      go_wp2_with fail
      go_ret
      exact ⟨by rw [H.out, mk_of]; rfl, rfl⟩
set_option maxHeartbeats 1000000 in
theorem digits_c (n : Nat) (w : World) (hs : n ≤ 2000000) :
    Calls Tryd.prog 15 #[.int .i64 (n : Int)] w fun e w' => e = .returned (.string (mk (digs n))) ∧ w = w' := by
  go_enter Tryd.func15, Tryd.ntmps15
  go_wp2_with fail
  go_loop [0, 3] (fun v o => ∃ (m : Nat) (X : ByteArray), v = .int .i64 m ∧ o = .string X ∧ X.size + m ≤ n ∧ Hid (digs n = digs m ++ X.data.toList)) (fun v _ => (intOf v).toNat)
  case atStart => exact ⟨n, ⟨#[]⟩, rfl, rfl, by show 0 + n ≤ n; omega, by simp [Hid]⟩
  case round =>
    obtain ⟨m, X, rfl, rfl, hX, hI⟩ := hrel
    by_cases h0 : 0 < m
    · have hd := digit_at ⟨m % 10, by omega⟩
      have hg := digs_pos m h0
      simp only at hd
      generalize UInt8.ofNat (48 + m % 10) = c at hd hg
      have hs1 : (⟨#[c]⟩ : ByteArray).size = 1 := rfl
      have hadd := fun wx : World => run_string_add_sum (P := Tryd.prog) wx ⟨#[c]⟩ X (by omega)
      have hsz : ((⟨#[c]⟩ : ByteArray) ++ X).size = 1 + X.size := by rw [ByteArray.size_append, hs1]
      have H : Hid (digs n = digs (m / 10) ++ ((⟨#[c]⟩ : ByteArray) ++ X).data.toList) := by
        unfold Hid; rw [hI.out, hg]; simp
      have HZ := hide hsz
      clear hsz hs1 hI hg
      go_wp2_with fail
      exact ⟨⟨m / 10, _, by go_num, rfl, by rw [HZ.out]; omega, H⟩, by simp [intOf]; omega⟩
    · obtain rfl : m = 0 := by omega
      have H : Hid (digs n = X.data.toList) := by unfold Hid; rw [hI.out, digs_zero, List.nil_append]
      clear hI
      go_wp2_with fail
      go_ret
      exact ⟨by rw [H.out, mk_of]; rfl, rfl⟩
set_option maxHeartbeats 2000000 in
set_option maxRecDepth 100000 in
theorem divide_c (s : ByteArray) (room : Nat) (inside : Bool) (w : World) (hs : s.size ≤ 2000000) (hr : room ≤ 100) :
    Calls Tryd.prog 16 #[.string s, .int .i64 (room : Int), .bool inside] w fun e w' => e = .returned (.tuple #[.int .i64 (((divK s.data.toList inside room).getD room : Nat) : Int), .bool (divK s.data.toList inside room).isSome]) ∧ w = w' := by
  go_enter Tryd.func16, Tryd.ntmps16
  go_wp2_with fail
  go_loop [8] (fun v => ∃ k : Nat, v = .int .i64 k ∧ k ≤ room ∧ Hid (divK s.data.toList inside room = divK s.data.toList inside k)) (fun v => (intOf v).toNat)
  case atStart => exact ⟨room, rfl, Nat.le_refl _, rfl⟩
  case round =>
    obtain ⟨k, rfl, hk, hI⟩ := hrel
    by_cases h0 : 0 < k
    · by_cases hl : k < s.size
      · have hg := hide (getD_at s k hl)
        by_cases hc : (s[k]'hl).toNat = 32
        · have ec : (((s[k]'hl).toNat : Int) == 32) = true := by rw [beq_iff_eq]; omega
          have ht : Hid ((s.extract 0 k).data.toList = s.data.toList.take k) := by
            unfold Hid
            rw [ByteArray.data_extract, Array.toList_extract]; simp only [List.extract_eq_take_drop, List.drop_zero, Nat.sub_zero]
          have hopen := hide (fun (w1 : World) => Open_c (s.extract 0 k) w1 (by unfold maxLen; simp; omega))
          by_cases ho : openL (s.data.toList.take k) = inside
          · have H : Hid (divK s.data.toList inside room = some k) := by
              obtain ⟨j, rfl⟩ : ∃ j, k = j + 1 := ⟨k - 1, by omega⟩
              unfold Hid; rw [hI.out, divK, if_pos ⟨by rw [len_data]; exact hl, by rw [hg.out]; exact UInt8.toNat_inj.1 hc, ho⟩]
            have HO := hide ho
            clear hI hc ho
            go_wp2_with fail
            refine (hopen.out _).mono ?_
            rw [ht.out, HO.out]
            rintro e w' ⟨rfl, rfl⟩
            go_wp2_with fail
            go_ret2
            exact ⟨by rw [H.out]; rfl, rfl⟩
          · have H : Hid (divK s.data.toList inside room = divK s.data.toList inside (k - 1)) := by
              obtain ⟨j, rfl⟩ : ∃ j, k = j + 1 := ⟨k - 1, by omega⟩
              unfold Hid; rw [hI.out, divK, if_neg (fun h => ho h.2.2)]; rfl
            have HO : Hid (openL (s.data.toList.take k) = !inside) := by
              unfold Hid; cases inside <;> simpa using ho
            clear hI hc ho
            go_wp2_with fail
            refine (hopen.out _).mono ?_
            rw [ht.out, HO.out]
            rintro e w' ⟨rfl, rfl⟩
            cases inside
            all_goals
              go_wp2_with fail
              exact ⟨⟨k - 1, by go_num, by omega, H⟩, by simp [intOf]; omega⟩
        · have ec : (((s[k]'hl).toNat : Int) == 32) = false := by rw [beq_eq_false_iff_ne]; omega
          have H : Hid (divK s.data.toList inside room = divK s.data.toList inside (k - 1)) := by
            obtain ⟨j, rfl⟩ : ∃ j, k = j + 1 := ⟨k - 1, by omega⟩
            unfold Hid; rw [hI.out, divK, if_neg (fun h => hc (by have := h.2.1; rw [hg.out] at this; rw [this]; rfl))]; rfl
          clear hI hc
          go_wp2_with fail
          exact ⟨⟨k - 1, by go_num, by omega, H⟩, by simp [intOf]; omega⟩
      · have H : Hid (divK s.data.toList inside room = divK s.data.toList inside (k - 1)) := by
          obtain ⟨j, rfl⟩ : ∃ j, k = j + 1 := ⟨k - 1, by omega⟩
          unfold Hid; rw [hI.out, divK, if_neg (fun h => hl (by have := h.1; rwa [len_data] at this))]; rfl
        clear hI
        go_wp2_with fail
        exact ⟨⟨k - 1, by go_num, by omega, H⟩, by simp [intOf]; omega⟩
    · obtain rfl : k = 0 := by omega
      have H : Hid (divK s.data.toList inside room = none) := hI.out
      clear hI
      go_wp2_with fail
      go_ret2
      exact ⟨by rw [H.out]; rfl, rfl⟩
end Go.Proofs.YtghgakdbfllbeaaDoor
