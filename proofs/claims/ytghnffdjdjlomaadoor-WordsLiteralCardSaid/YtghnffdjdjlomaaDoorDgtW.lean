/-
  CONTRACT of law 05's digits; numbers that are composed of digits (layer 5, words).
-/
import Derived.Test.YtghnffdjdjlomaaDoorLvX
import Derived.Test.YtghnffdjdjlomaaDoorNumB
namespace Go.Proofs.YtghnffdjdjlomaaDoor
open Go.RowKit Go.Shelf

def dgt (c : UInt8) : UInt8 := UInt8.ofNat (48 + c.toNat % 10)
def dgts (l : List UInt8) (n : Nat) : List UInt8 := (l.take n).map dgt
theorem dgt_dig (c : UInt8) : dig (dgt c) = true := by
  have h : (dgt c).toNat = 48 + c.toNat % 10 := by unfold dgt; rw [UInt8.toNat_ofNat']; omega
  unfold dig
  rw [h, decide_eq_true (by omega), decide_eq_true (by omega)]; rfl
theorem dgts_snoc (l : List UInt8) (n k : Nat) (h : k < n) (hk : k < l.length) : dgts l (k + 1) = dgts l k ++ [dgt l[k]] := by
  unfold dgts
  rw [List.take_succ_eq_append_getElem hk, List.map_append]; rfl
set_option maxRecDepth 100000 in
set_option maxHeartbeats 1000000 in
theorem digits_c (s : ByteArray) (n : Nat) (w : World) (hs : s.size ≤ maxLen) (hn : n ≤ 100) :
    Calls Tryd.prog 23 #[.string s, .int .i64 (n : Int)] w fun e w' => e = .returned (.string (mk (dgts s.data.toList n))) ∧ Below w.heap.size w w' := by
  unfold maxLen at hs
  go_enter Tryd.func23, Tryd.ntmps23
  go_wp2_with fail
  go_loopw [5, 6] (fun v5 v6 wr => ∃ k : Nat, k ≤ s.size ∧ k ≤ n ∧ v6 = .int .i64 (k : Int) ∧ v5 = .string (mk (dgts s.data.toList k)) ∧ Below w.heap.size w wr) (fun _ v6 _ => s.size - (intOf v6).toNat)
  case atStart => exact ⟨0, Nat.zero_le _, Nat.zero_le _, rfl, rfl, Below.refl _ _⟩
  case round =>
    obtain ⟨k, hk, hkn, rfl, rfl, hb⟩ := hrel
    obtain ⟨W, rfl⟩ : ∃ W, W = wr := ⟨_, rfl⟩
    have HB := hide hb
    clear hb
    obtain ⟨Q, hQ⟩ : ∃ Q, Q = mk (dgts s.data.toList k) := ⟨_, rfl⟩
    have hQs : Q.size ≤ 100 := by rw [hQ, mk_sz]; unfold dgts; rw [List.length_map, List.length_take]; omega
    rw [← hQ]
    have HQ := hide hQ
    clear hQ
    by_cases hlt : k < s.size
    · by_cases hln : k < n
      · obtain ⟨c, hc⟩ : ∃ c, s[k] = c := ⟨_, rfl⟩
        have hkl : k < s.data.toList.length := by rw [len_data]; exact hlt
        have hcl : s.data.toList[k] = c := by
          have := Lib.data_getElem? s k hlt
          rw [List.getElem?_eq_getElem hkl, hc] at this
          exact Option.some.inj this
        have HN : Hid (mk (dgts s.data.toList (k + 1)) = Q ++ mk [dgt c]) := by
          unfold Hid
          rw [dgts_snoc _ n k hln hkl, hcl, HQ.out, app_mk]
        have hdc : ((dgt c).toNat : Int) = 48 + (c.toNat : Int) % 10 := by
          have h : (dgt c).toNat = 48 + c.toNat % 10 := by unfold dgt; rw [UInt8.toNat_ofNat']; omega
          rw [h]; simp
        obtain ⟨d, hd⟩ : ∃ d, d = dgt c := ⟨_, rfl⟩
        rw [← hd] at HN hdc
        have hrow : Row (W.alloc (.cells #[.int .u8 (48 + (c.toNat : Int) % 10)] 5)) W.heap.size [d] := by
          refine ⟨by simp, fun j u hu => ?_⟩
          have hj : j = 0 := by
            rcases Nat.eq_zero_or_pos j with h | h
            · exact h
            · rw [List.getElem?_eq_none (by rw [List.length_singleton]; omega)] at hu; cases hu
          subst hj
          have hu' : u = d := by simpa using hu.symm
          subst hu'
          have h0 := heap_alloc_new W (.cells #[.int .u8 (48 + (c.toNat : Int) % 10)] 5)
          exact ⟨by rw [hdc]; exact cell_of_row _ _ 0 _ _ _ h0, frozen_of_row _ _ 0 _ _ h0⟩
        have hconv := hrow.text 1 1 rfl
        rw [show (⟨[d].toArray⟩ : ByteArray) = mk [d] from rfl] at hconv
        have HB2 := hide (HB.out.alloc HB.out.size (.cells #[.int .u8 (48 + (c.toNat : Int) % 10)] 5))
        have hds : (mk [d]).size = 1 := rfl
        have hc1 : 0 ≤ (c.toNat : Int) % 10 := Int.emod_nonneg _ (by decide)
        have hc2 : (c.toNat : Int) % 10 < 10 := Int.emod_lt_of_pos _ (by decide)
        clear hrow hd hdc hcl
        go_wp2_with fail
        go_roundw
        case rel => exact ⟨k + 1, hlt, hln, by go_num, by rw [HN.out], HB2.out⟩
        case measure => simp [intOf]; omega
      · obtain rfl : k = n := by omega
        go_wp2_with fail
        go_ret
        exact ⟨by rw [← HQ.out]; rfl, HB.out⟩
    · have HE : Hid (mk (dgts s.data.toList n) = Q) := by
        unfold Hid; rw [HQ.out]; unfold dgts
        rw [List.take_of_length_le (by rw [len_data]; omega), List.take_of_length_le (by rw [len_data]; omega)]
      go_wp2_with fail
      go_ret
      exact ⟨by rw [HE.out]; rfl, HB.out⟩
end Go.Proofs.YtghnffdjdjlomaaDoor
