/-
  THE CONTRACT of chars.Fold.
-/
import Derived.Test.YtlhkekdhgpmpaaaRows8
namespace Go.Proofs.Ytlhkekdhgpmpaaa
open Go.RowKit Go.Shelf

def up (c : UInt8) : UInt8 := if 97 ≤ c.toNat ∧ c.toNat ≤ 122 then UInt8.ofNat (c.toNat - 32) else c
def upTo (l : List UInt8) (k : Nat) : List UInt8 := (l.take k).map up ++ l.drop k

theorem upTo_split (l : List UInt8) (k : Nat) (hk : k < l.length) : upTo l k = (l.take k).map up ++ l[k] :: l.drop (k + 1) := by
  rw [upTo, List.drop_eq_getElem_cons hk]
theorem upTo_length (l : List UInt8) (k : Nat) (hk : k ≤ l.length) : (upTo l k).length = l.length := by simp [upTo]; omega
theorem upTo_at (l : List UInt8) (k : Nat) (hk : k < l.length) : (upTo l k)[k]? = some l[k] := by
  rw [upTo_split l k hk, List.getElem?_append_right (by simp; omega)]
  simp [Nat.min_eq_left (Nat.le_of_lt hk)]
theorem upTo_succ (l : List UInt8) (k : Nat) (hk : k < l.length) : upTo l (k + 1) = (upTo l k).set k (up l[k]) := by
  rw [upTo_split l k hk, List.set_append_right _ _ (by simp; omega)]
  rw [show k - ((l.take k).map up).length = 0 by simp; omega, List.set_cons_zero, upTo, List.take_succ_eq_append_getElem hk]
  simp only [List.map_append, List.map_cons, List.map_nil, List.append_assoc, List.singleton_append]
theorem upTo_zero (l : List UInt8) : upTo l 0 = l := by simp [upTo]
theorem upTo_all (l : List UInt8) : upTo l l.length = l.map up := by simp [upTo]

theorem step_up {l : List UInt8} {k g : Nat} {wr : World} (hk : k < l.length) (h : Row wr g (upTo l k)) (h1 : 97 ≤ l[k].toNat) (h2 : l[k].toNat ≤ 122) :
    Row (wr.setCell ⟨g, k, none⟩ (.int .u8 ((l[k].toNat : Int) - 97 + 65))) g (upTo l (k + 1)) := by
  have hu : ((up l[k]).toNat : Int) = (l[k].toNat : Int) - 97 + 65 := by
    unfold up; rw [if_pos ⟨h1, h2⟩]; simp; omega
  rw [← hu, upTo_succ l k hk]
  exact h.set_ k (by rw [upTo_length _ _ (by omega)]; exact hk) _
theorem step_same {l : List UInt8} {k g : Nat} {wr : World} (hk : k < l.length) (h : Row wr g (upTo l k)) (h1 : ¬ (97 ≤ l[k].toNat ∧ l[k].toNat ≤ 122)) : Row wr g (upTo l (k + 1)) := by
  have hu : up l[k] = l[k] := by unfold up; rw [if_neg h1]
  have e : (upTo l k).set k l[k] = upTo l k := by
    rw [upTo_split l k hk, List.set_append_right _ _ (by simp; omega)]
    rw [show k - ((l.take k).map up).length = 0 by simp; omega, List.set_cons_zero]
  rw [upTo_succ l k hk, hu, e]; exact h

set_option maxHeartbeats 400000 in
theorem Fold_c (s : ByteArray) (w : World) (hs : s.size ≤ maxLen) :
    Calls Try.prog 13 #[.string s] w fun e w' => e = .returned (.string ⟨(s.data.toList.map up).toArray⟩) ∧ Below w.heap.size w w' := by
  have hlen : Hid (s.data.toList.length = s.size) := by rw [Array.length_toList]; rfl
  obtain ⟨cap, C, hconv, hrow⟩ := row_of_string w s
  unfold maxLen at hs
  go_enter Try.func13, Try.ntmps13
  go_wp2_with fail
  clear hconv
  go_loopw [10] (fun i wr => ∃ k : Nat, k ≤ s.size ∧ i = .int .i64 k ∧ Row wr w.heap.size (upTo s.data.toList k) ∧ Below w.heap.size w wr) (fun i _ => s.size - (intOf i).toNat)
  case atStart => exact ⟨0, Nat.zero_le _, rfl, by rw [upTo_zero]; exact hrow, ((Below.refl _ _).alloc (Nat.le_refl _) _).drew⟩
  case round =>
    obtain ⟨k, hk, rfl, hr, hb⟩ := hrel
    by_cases hlt : k < s.size
    · have hkl : k < s.data.toList.length := by rw [hlen.out]; exact hlt
      have hcell := (hr.at_ k (by rw [upTo_length _ _ (by omega)]; exact hkl)).1
      have hfr := (hr.at_ k (by rw [upTo_length _ _ (by omega)]; exact hkl)).2
      have hat := upTo_at _ _ hkl
      rw [List.getElem?_eq_getElem (by rw [upTo_length _ _ (by omega)]; exact hkl)] at hat
      injection hat with hat
      rw [hat] at hcell
      clear hat
      have hbyte := s.data.toList[k].toNat_lt
      by_cases h1 : 97 ≤ s.data.toList[k].toNat ∧ s.data.toList[k].toNat ≤ 122
      · have R := step_up hkl hr h1.1 h1.2
        obtain ⟨u, hu⟩ : ∃ u, u = s.data.toList[k] := ⟨_, rfl⟩
        have HU := hide hu
        rw [← hu] at hcell h1 hbyte R
        clear hu
        obtain ⟨ha, hz⟩ := h1
        have HR := hide R
        clear R
        go_wp2_with fail
        exact ⟨⟨k + 1, by omega, by go_num, HR.out, hb.setCell (Nat.le_refl _) _⟩, by simp [intOf]; omega⟩
      · have R := step_same hkl hr h1
        obtain ⟨u, hu⟩ : ∃ u, u = s.data.toList[k] := ⟨_, rfl⟩
        have HU := hide hu
        rw [← hu] at hcell h1 hbyte
        clear hu
        have HR := hide R
        clear R
        by_cases ha : 97 ≤ u.toNat
        · have hz : 122 < u.toNat := by omega
          clear h1
          go_wp2_with fail
          exact ⟨⟨k + 1, by omega, by go_num, HR.out, hb⟩, by simp [intOf]; omega⟩
        · clear h1
          go_wp2_with fail
          exact ⟨⟨k + 1, by omega, by go_num, HR.out, hb⟩, by simp [intOf]; omega⟩
    · obtain rfl : k = s.size := by omega
      have hr' : Row wr w.heap.size (s.data.toList.map up) := by
        have h := hr
        rw [← hlen.out, upTo_all] at h
        exact h
      have hback := hr'.text s.size cap (by rw [List.length_map, hlen.out])
      clear hr hr'
      go_wp2_with fail
      go_ret
      exact ⟨rfl, hb⟩
end Go.Proofs.Ytlhkekdhgpmpaaa
