/-
  THE CONTRACTS of last over bytes, of chars.Trim, and of the law's own Bytes.
-/
import Derived.Test.YtlhkekdhgpmpaaaRows8
import Derived.Laws.CopyOwn
namespace Go.Proofs.Ytlhkekdhgpmpaaa
open Go.RowKit Go.Shelf

set_option maxHeartbeats 400000 in
theorem last_bytes (f : Nat) (p : UInt8 → Bool) (hf : Tests f p) (A : Option Addr) (l : List UInt8) (n cap B : Nat) (w : World) (hA : Sl w B A l) (hn : n = l.length) (hs : n ≤ maxLen) :
    Calls Try.prog 28 #[.slice A n cap, .func (.func f) #[] #[]] w fun e w' => e = .returned (.int .i64 (lastI p l n)) ∧ w = w' := by
  unfold maxLen at hs
  have eg := hf.enters
  rcases hA with rfl | ⟨b, off, rfl, _, hc⟩
  · simp at hn
    subst hn
    have H : Hid (lastI p [] 0 = -1) := rfl
    go_enter Try.func28, Try.ntmps28
    go_wp2_with fail
    refine wp_loop_rounds 1 ?_
    rw [rounds_succ]
    go_wp2_with fail
    go_ret
    exact ⟨by rw [H.out]; rfl, rfl⟩
  · have Hc := hide hc
    have Hn := hide hn
    clear hc hn
    go_enter Try.func28, Try.ntmps28
    go_wp2_with fail
    go_loop [5] (fun i => ∃ k : Nat, k ≤ n ∧ i = .int .i64 ((k : Int) - 1) ∧ Hid (lastI p l n = lastI p l k)) (fun i => (intOf i + 1).toNat)
    case atStart => exact ⟨n, Nat.le_refl _, rfl, rfl⟩
    case round =>
      obtain ⟨k, hk, rfl, hl⟩ := hrel
      by_cases h0 : 1 ≤ k
      · obtain ⟨k, rfl⟩ : ∃ j, k = j + 1 := ⟨k - 1, by omega⟩
        obtain ⟨u, hu, hcell⟩ : ∃ u, Hid (l.getD k 0 = u) ∧ w.cell? ⟨b, off + k, none⟩ = some (.int .u8 (u.toNat : Int)) := by
          have hn := Hn.out
          refine ⟨l[k]'(by omega), ?_, Hc.out k _ (List.getElem?_eq_getElem (by omega))⟩
          unfold Hid; rw [List.getD_eq_getElem?_getD, List.getElem?_eq_getElem (by omega)]; rfl
        have hl2 : Hid (lastI p l n = if p u then (k : Int) else lastI p l k) := by
          rw [hl.out]; show (if p (l.getD k 0) then (k : Int) else lastI p l k) = _; rw [hu.out]
        clear hl
        go_wp2_with (refine (hf.says _ _).mono ?_; rintro e w' ⟨rfl, rfl⟩)
        · have h : p u = true := by assumption
          go_ret
          exact ⟨by rw [hl2.out, if_pos h]; rfl, rfl⟩
        · have h : p u = false := by assumption
          exact ⟨⟨k, by omega, rfl, by rw [hl2.out, h]; rfl⟩, by simp [intOf]⟩
      · obtain rfl : k = 0 := by omega
        go_wp2_with fail
        go_ret
        exact ⟨by rw [hl.out]; rfl, rfl⟩

/-- how long a text is without the spaces at its end -/
def trimN (l : List UInt8) : Nat := (1 + lastI nospace l l.length).toNat
theorem trimN_le (l : List UInt8) : trimN l ≤ l.length ∧ ((trimN l : Nat) : Int) = 1 + lastI nospace l l.length := by
  have := lastI_ge nospace l l.length
  unfold trimN
  omega
def trimL (l : List UInt8) : List UInt8 := l.take (trimN l)
theorem trimL_length (l : List UInt8) : (trimL l).length = trimN l := by
  have := (trimN_le l).1
  simp [trimL]; omega

theorem splice_head (Z X : List Value) (h : Z.length = X.length) : splice Z 0 X = X := by
  simp [splice, ← h]

set_option maxHeartbeats 400000 in
theorem Trim_c (A : Option Addr) (l : List UInt8) (n cap B : Nat) (w : World) (hA : Sl w B A l) (hB : B ≤ w.heap.size) (hn : n = l.length) (hs : n ≤ 1048576) :
    Calls Try.prog 17 #[.slice A n cap] w fun e w' => e = .returned (.slice (some ⟨w.heap.size, 0, none⟩) (trimN l) (trimN l)) ∧ Blk8 w' w.heap.size (trimL l) ∧ Below w.heap.size w w' := by
  obtain ⟨h1, h2⟩ := trimN_le l
  have hmk := make8 w (trimN l) (by omega)
  have hnew := hide (Blk8.new w (List.replicate (trimN l) 0))
  have HA := hide hA
  have Hn := hide hn
  have hm : n ≤ maxLen := by unfold maxLen; omega
  have HM := hide hm
  have H2 : Hid (1 + lastI nospace l n = ((trimN l : Nat) : Int)) := by unfold Hid; rw [hn]; exact h2.symm
  have hlt : trimN l ≤ n := by omega
  have HX : Hid (trimL l = l.take (trimN l)) := rfl
  have hb := hide (Below.alloc (Below.refl w.heap.size w) (Nat.le_refl _) (.cells (cells8 (List.replicate (trimN l) 0)).toArray 5))
  generalize ht : trimN l = t at *
  have hg := lastI_ge nospace l n
  have Hlen : Hid ((l.take t).length = t) := by unfold Hid; simp; omega
  clear h1 h2 hA hn hm ht
  obtain ⟨w2, c, hcopy, hblk, hbel⟩ := copy8 _ w.heap.size 0 t t _ hnew.out (some ⟨w.heap.size, 0, none⟩) A l n cap w.heap.size (HA.out.keep hb.out hB w.heap.size hB) Hn.out 3 (fun _ => rfl) (by simp; omega) w.heap.size w hb.out (Nat.le_refl _)
  have HB := hide hblk
  clear hblk
  go_enter Try.func17, Try.ntmps17
  go_wp2_with (go_at_call 28; refine (last_bytes _ _ nospace_c A l n cap B _ HA.out Hn.out HM.out).mono ?_; rintro e w' ⟨rfl, rfl⟩; have h2 := H2.out)
  go_ret
  refine ⟨rfl, ?_, hbel⟩
  have h := HB.out
  rw [HX.out]
  simpa [Nat.min_eq_right hlt] using h
end Go.Proofs.Ytlhkekdhgpmpaaa
