/-
  THE WALK of the law CharsFold.
-/
import Derived.Test.YtlhkekdhgpmpaaaLives
namespace Go.Proofs.Ytlhkekdhgpmpaaa
open Go.RowKit Go.Shelf

theorem up_small (c : UInt8) (h1 : 97 ≤ c.toNat) (h2 : c.toNat ≤ 122) : ((up c).toNat : Int) = (c.toNat : Int) - 97 + 65 := by
  unfold up; rw [if_pos ⟨h1, h2⟩]; simp; omega
theorem up_same (c : UInt8) (h : ¬ (97 ≤ c.toNat ∧ c.toNat ≤ 122)) : up c = c := by unfold up; rw [if_neg h]
theorem up_up (c : UInt8) : up (up c) = up c := by
  by_cases h : 97 ≤ c.toNat ∧ c.toNat ≤ 122
  · have := up_small c h.1 h.2
    exact up_same _ (by omega)
  · rw [up_same c h, up_same c h]
theorem name_up (l : List UInt8) (h : isName l = true) : l.map up = l := by
  unfold isName at h
  simp only [Bool.and_eq_true, Bool.not_eq_true'] at h
  have hf := List.any_eq_false.1 h.2.1
  conv => rhs; rw [← List.map_id l]
  apply List.map_congr_left
  intro c hc
  have := hf c hc
  refine up_same c ?_
  unfold foreign dig capi at this
  simp at this
  omega

theorem fold_text (s : ByteArray) : ∃ F : ByteArray, Hid (s.data.toList.map up = F.data.toList) ∧ F.size = s.size ∧ Hid (F.data.toList.map up = F.data.toList) ∧ (∀ k (h : k < s.size) (h' : k < F.size), F[k] = up s[k]) ∧ (isName s.data.toList = true → F = s) := by
  refine ⟨⟨(s.data.toList.map up).toArray⟩, rfl, ?_, ?_, ?_, ?_⟩
  · show (s.data.toList.map up).toArray.size = s.data.size
    simp
  · show List.map up (List.map up _) = _
    rw [List.map_map]
    apply List.map_congr_left
    intro c _
    exact up_up c
  · intro k h h'
    show ((s.data.toList.map up).toArray)[k]'_ = up (s.data[k]'_)
    simp
  · intro hn
    rw [name_up _ hn]

theorem Fold_u (s F : ByteArray) (hF : s.data.toList.map up = F.data.toList) (hs : s.size ≤ maxLen) (w : World) :
    Calls Try.prog 13 #[.string s] w fun e w' => e = .returned (.string F) ∧ Below w.heap.size w w' := by
  have h := Fold_c s w hs
  rw [hF] at h
  exact h

set_option maxHeartbeats 4000000 in
set_option maxRecDepth 100000 in
theorem CharsFold_w (s : ByteArray) (w : World) (hs : s.size ≤ maxLen) :
    Calls Try.prog 4 #[.string s] w fun e w' => e = .returned (.bool true) ∧ Below w.heap.size w w' := by
  by_cases hbig : 300 < s.size
  · clear hs
    go_enter Try.func4, Try.ntmps4
    go_wp2_with (go_at_call 9; refine (lives_c _).mono ?_; rintro e w' ⟨rfl, hb⟩)
    go_ret
    exact ⟨rfl, hb⟩
  · have HS := hide hs
    clear hs
    obtain ⟨F, hF, hsize, hFF, hat, hname⟩ := fold_text s
    have HAt := hide hat
    have hszF : Hid (F.size ≤ maxLen) := by unfold Hid; rw [hsize]; exact HS.out
    have hle : F.size ≤ s.size := by omega
    have hge : s.size ≤ F.size := by omega
    have hlq : ((F.size : Int) != (s.size : Int)) = false := by rw [hsize]; simp
    clear hsize hat
    cases hn : isName s.data.toList
    · have Hn := hide hn
      clear hname hn
      go_enter Try.func4, Try.ntmps4
      go_wp2_with fail
      refine (Fold_u s F hF.out HS.out _).mono ?_
      rintro e w1 ⟨rfl, b1⟩
      go_wp2_with fail
      refine (Fold_u F F hFF.out hszF.out _).mono ?_
      rintro e w2 ⟨rfl, h2⟩
      have b2 := b1.trans (h2.mono b1.size)
      go_wp2_with fail
      refine (IsName_t s _ Hn.out HS.out _).mono ?_
      rintro e w' ⟨rfl, rfl⟩
      go_wp2_with fail
      go_loopw [4] (fun i wr => ∃ k : Nat, k ≤ s.size ∧ i = .int .i64 k ∧ Below w.heap.size w wr) (fun i _ => s.size - (intOf i).toNat)
      case atStart => exact ⟨0, Nat.zero_le _, rfl, b2⟩
      case round =>
        obtain ⟨k, hk, rfl, hbw⟩ := hrel
        by_cases hlt : k < s.size
        · have hltF : k < F.size := by omega
          by_cases hc : 97 ≤ (s[k]'hlt).toNat ∧ (s[k]'hlt).toNat ≤ 122
          · have hq : ((F[k]'hltF).toNat : Int) = ((s[k]'hlt).toNat : Int) - 97 + 65 := by rw [HAt.out k hlt hltF]; exact up_small _ hc.1 hc.2
            obtain ⟨c1, c2⟩ := hc
            go_wp2_with fail
            exact ⟨⟨k + 1, by omega, by go_num, hbw⟩, by simp [intOf]; omega⟩
          · have hq : F[k]'hltF = s[k]'hlt := by rw [HAt.out k hlt hltF]; exact up_same _ hc
            by_cases c1 : 97 ≤ (s[k]'hlt).toNat
            · have c2 : 122 < (s[k]'hlt).toNat := by omega
              clear hc
              go_wp2_with fail
              exact ⟨⟨k + 1, by omega, by go_num, hbw⟩, by simp [intOf]; omega⟩
            · clear hc
              go_wp2_with fail
              exact ⟨⟨k + 1, by omega, by go_num, hbw⟩, by simp [intOf]; omega⟩
        · obtain rfl : k = s.size := by omega
          go_wp2_with (go_at_call 9; refine (lives_c _).mono ?_; rintro e w' ⟨rfl, hb⟩)
          go_ret
          exact ⟨rfl, hbw.trans (hb.mono hbw.size)⟩
    · have Hn := hide hn
      obtain rfl : F = s := hname hn
      clear hname hn hlq
      go_enter Try.func4, Try.ntmps4
      go_wp2_with fail
      refine (Fold_u F F hF.out HS.out _).mono ?_
      rintro e w1 ⟨rfl, b1⟩
      go_wp2_with fail
      refine (Fold_u F F hF.out HS.out _).mono ?_
      rintro e w2 ⟨rfl, h2⟩
      have b2 := b1.trans (h2.mono b1.size)
      go_wp2_with fail
      refine (IsName_t F _ Hn.out HS.out _).mono ?_
      rintro e w' ⟨rfl, rfl⟩
      go_wp2_with fail
      go_loopw [4] (fun i wr => ∃ k : Nat, k ≤ F.size ∧ i = .int .i64 k ∧ Below w.heap.size w wr) (fun i _ => F.size - (intOf i).toNat)
      case atStart => exact ⟨0, Nat.zero_le _, rfl, b2⟩
      case round =>
        obtain ⟨k, hk, rfl, hbw⟩ := hrel
        by_cases hlt : k < F.size
        · have hltF : k < F.size := by omega
          have hk2 := HAt.out k hlt hltF
          have HK := hide hk2
          clear hk2
          by_cases hc : 97 ≤ (F[k]'hlt).toNat ∧ (F[k]'hlt).toNat ≤ 122
          · have hq : ((F[k]'hltF).toNat : Int) = ((F[k]'hlt).toNat : Int) - 97 + 65 := by
              conv => lhs; rw [HK.out]
              exact up_small _ hc.1 hc.2
            obtain ⟨c1, c2⟩ := hc
            exfalso; omega
          · by_cases c1 : 97 ≤ (F[k]'hlt).toNat
            · have c2 : 122 < (F[k]'hlt).toNat := by omega
              clear hc
              go_wp2_with fail
              exact ⟨⟨k + 1, by omega, by go_num, hbw⟩, by simp [intOf]; omega⟩
            · clear hc
              go_wp2_with fail
              exact ⟨⟨k + 1, by omega, by go_num, hbw⟩, by simp [intOf]; omega⟩
        · obtain rfl : k = F.size := by omega
          go_wp2_with (go_at_call 9; refine (lives_c _).mono ?_; rintro e w' ⟨rfl, hb⟩)
          go_ret
          exact ⟨rfl, hbw.trans (hb.mono hbw.size)⟩
end Go.Proofs.Ytlhkekdhgpmpaaa
