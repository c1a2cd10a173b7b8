/-
  THE WALK of the law CharsTrim.
-/
import Derived.Test.YtlhkekdhgpmpaaaLives
namespace Go.Proofs.Ytlhkekdhgpmpaaa
open Go.RowKit Go.Shelf

theorem lastI_has (p : UInt8 → Bool) (l : List UInt8) (k j : Nat) (h : lastI p l k = (j : Int)) : p (l.getD j 0) = true := by
  induction k with
  | zero => simp [lastI] at h
  | succ k ih =>
    unfold lastI at h
    split at h
    · obtain rfl : k = j := by omega
      assumption
    · exact ih h
/-- behind the last place that has p nothing has it -/
theorem lastI_behind (p : UInt8 → Bool) (l : List UInt8) (k : Nat) : ∀ j : Nat, lastI p l k < (j : Int) → j < k → p (l.getD j 0) = false := by
  induction k with
  | zero => intro j _ hj; omega
  | succ k ih =>
    intro j h1 h2
    unfold lastI at h1
    split at h1
    · omega
    · rcases Nat.lt_or_ge j k with hlt | hge
      · exact ih j h1 hlt
      · obtain rfl : j = k := by omega
        simpa using ‹¬ p (l.getD j 0) = true›

theorem fit_trim (l : List UInt8) : fitL (trimL l) l.length false = l := by
  obtain ⟨h1, h2⟩ := trimN_le l
  have hb := lastI_behind nospace l l.length
  simp only [fitL, Bool.false_eq_true, if_false, trimL_length]
  rw [List.take_of_length_le (by rw [trimL_length]; exact h1)]
  apply List.ext_getElem
  · simp [trimL_length]; omega
  · intro i g1 g2
    rw [List.getElem_append]
    split
    · rename_i hi
      simp [trimL]
    · rename_i hi
      rw [trimL_length] at hi
      have h := hb i (by omega) g2
      rw [List.getD_eq_getElem?_getD, List.getElem?_eq_getElem g2] at h
      simp [nospace] at h
      simp
      apply UInt8.toNat_inj.1
      rw [show ((32 : UInt8).toNat) = 32 from rfl]
      omega

theorem Bytes_g (A : Option Addr) (l : List UInt8) (n B : Nat) (s : ByteArray) (w : World) (hA : Sl w B A l) (hn : n = l.length) (hs : s.data.toList = l) :
    Calls Try.prog 19 #[.slice A n n, .string s] w fun e w' => e = .returned (.int .i64 0) ∧ w = w' := by
  subst hs
  exact Bytes_c A s.data.toList n B w hA hn

/-- 'string(b)', under a name of its own -/
theorem Sl.str {w : World} {B : Nat} {A : Option Addr} {l : List UInt8} (h : Sl w B A l) (n cap : Nat) (hn : n = l.length) (S : ByteArray) (hS : S.data.toList = l) :
    (convert 25 9 (.slice A n cap)).run Try.prog w = .ok (.string S) w := by
  subst hS
  exact h.text n cap hn
theorem extract_head (S : ByteArray) (l : List UInt8) (t : Nat) (hS : S.data.toList = l) : (S.extract 0 t).data.toList = l.take t := by
  subst hS
  simp [ByteArray.data_extract]

theorem bump (c : UInt8) : ∃ u : UInt8, IntKind.u8.wrap ((c.toNat : Int) + 1) = (u.toNat : Int) := by
  refine ⟨UInt8.ofNat (c.toNat + 1), ?_⟩
  have h := c.toNat_lt
  simp [IntKind.wrap, IntKind.bits, IntKind.signed]

set_option maxHeartbeats 4000000 in
set_option maxRecDepth 100000 in
theorem CharsTrim_w (A : Option Addr) (l : List UInt8) (n cap B : Nat) (w : World) (hA : Sl w B A l) (hB : B ≤ w.heap.size) (hn : n = l.length) (_hcap : n ≤ cap) (_hs : cap ≤ maxLen) :
    Calls Try.prog 8 #[.slice A n cap] w fun e w' => e = .returned (.bool true) ∧ Below w.heap.size w w' := by
  unfold maxLen at _hs
  by_cases hbig : 300 < n
  · clear hA hn
    go_enter Try.func8, Try.ntmps8
    go_wp2_with (go_at_call 9; refine (lives_c _).mono ?_; rintro e w' ⟨rfl, hb⟩)
    go_ret
    exact ⟨rfl, hb⟩
  · have HA := hide hA
    have Hn := hide hn
    obtain ⟨ht1, ht2⟩ := trimN_le l
    rw [← hn] at ht1 ht2
    have HT2 := hide ht2
    have Hfit : Hid (fitL (trimL l) n false = l) := by unfold Hid; rw [hn]; exact fit_trim l
    have Hlen := hide (trimL_length l)
    generalize htt : trimN l = t at *
    have Htt := hide htt
    obtain ⟨S, hS⟩ : ∃ S : ByteArray, S = ⟨l.toArray⟩ := ⟨_, rfl⟩
    have HSl : Hid (S.data.toList = l) := by unfold Hid; rw [hS]
    have hsz : t ≤ S.size := by
      have e : S.size = n := by rw [hn, hS]; simp [ByteArray.size]
      omega
    clear hS
    rcases Nat.eq_zero_or_pos n with hn0 | hn0
    · have hn1 : n ≤ 0 := by omega
      have ht0 : t ≤ 0 := by omega
      clear hn htt ht2 hn0 hA
      go_enter Try.func8, Try.ntmps8
      go_wp2_with fail
      refine wp_loop_rounds 1 ?_
      rw [rounds_succ]
      have htext := HA.out.str n cap Hn.out S HSl.out
      go_wp2_with fail
      refine (Trim_c _ l n cap B _ HA.out hB Hn.out (by omega)).mono ?_
      rw [Htt.out]
      rintro e w1 ⟨rfl, hblk1, hb1⟩
      have HB1 := hide hblk1
      clear hblk1 htext
      go_wp2_with fail
      refine (Bytes_g _ (trimL l) t _ _ _ (HB1.out.row.sl HB1.out.lt) Hlen.out.symm (by first | (rw [extract_head S l t HSl.out, ← Htt.out]; rfl) | (rw [show n = t by omega, extract_head S l t HSl.out, ← Htt.out]; rfl))).mono ?_
      rintro e w' ⟨rfl, rfl⟩
      go_wp2_with fail
      refine (Fit_c _ (trimL l) t t _ n false _ (HB1.out.row.sl HB1.out.lt) (Nat.le_refl _) Hlen.out.symm (Nat.le_refl _) (by unfold maxLen; omega) (by omega)).mono ?_
      rw [Hfit.out]
      rintro e w2 ⟨rfl, hblk2, hb2⟩
      have HB2 := hide hblk2
      have HB1' := hide (HB1.out.below hb2 HB1.out.lt)
      have hbw := hb1.trans (hb2.mono hb1.size)
      have hl1 := hb1.size
      have Hlt := hide HB1.out.lt
      clear hblk2 hb2
      go_wp2_with fail
      go_loopw [8] (fun i wr => ∃ k : Nat, ∃ L : List UInt8, k ≤ t ∧ i = .int .i64 k ∧ L.length = t ∧ Blk8 wr w.heap.size L ∧ Blk8 wr (w1.heap.size + 1) l ∧ Below w.heap.size w wr) (fun i _ => t - (intOf i).toNat)
      case atStart => exact ⟨0, trimL l, Nat.zero_le _, rfl, Hlen.out, HB1'.out, HB2.out, hbw⟩
      case round =>
        obtain ⟨i, L, hi, rfl, hL, hr1, hr2, hbr⟩ := hrel
        have HR1 := hide hr1
        have HR2 := hide hr2
        have HL := hide hL
        clear hr1 hr2 hL
        by_cases hit : i < t
        · exfalso; omega
        · have htext := (HA.out.keep hbr hB B (Nat.le_refl _)).str n cap Hn.out S HSl.out
          go_wp2_with fail
          refine (Bytes_g _ l n _ _ _ (HR2.out.row.sl HR2.out.lt) Hn.out HSl.out).mono ?_
          rintro e w' ⟨rfl, rfl⟩
          go_wp2_with fail
          refine (lives_c _).mono ?_
          rintro e w3 ⟨rfl, hb3⟩
          go_wp2_with fail
          go_ret
          exact ⟨rfl, hbr.trans (hb3.mono hbr.size)⟩
    · rcases hA with rfl | ⟨b, off, rfl, hbB, hc⟩
      · simp at hn; omega
      · have Hc := hide hc
        clear hc hn htt ht2
        go_enter Try.func8, Try.ntmps8
        go_wp2_with fail
        go_loop [3] (fun i => ∃ k : Nat, k ≤ n ∧ t ≤ k ∧ i = .int .i64 k) (fun i => (intOf i).toNat)
        case atStart => exact ⟨n, Nat.le_refl _, ht1, rfl⟩
        case round =>
          obtain ⟨k, hk, htk, rfl⟩ := hrel
          have HK : Hid (1 ≤ k → ∃ u, l.getD (k - 1) 0 = u ∧ w.cell? ⟨b, off + (k - 1), none⟩ = some (.int .u8 (u.toNat : Int))) := fun h0 => by
            have hn := Hn.out
            refine ⟨l[k - 1]'(by omega), ?_, Hc.out (k - 1) _ (List.getElem?_eq_getElem (by omega))⟩
            rw [List.getD_eq_getElem?_getD, List.getElem?_eq_getElem (by omega)]; rfl
          rcases Nat.lt_or_ge t k with hlt | hge
          · obtain ⟨u, hu, hcell⟩ := HK.out (by omega)
            have hsp := lastI_behind nospace l n (k - 1) (by have := HT2.out; omega) (by omega)
            rw [hu] at hsp
            have hq : ((u.toNat : Int) == 32) = true := by simpa [nospace] using hsp
            clear hu hsp
            go_wp2_with fail
            exact ⟨⟨k - 1, by omega, by omega, by congr 1; omega⟩, by simp [intOf]; omega⟩
          · obtain rfl : t = k := by omega
            rcases Nat.eq_zero_or_pos t with ht0 | ht0
            · have ht1' : t ≤ 0 := by omega
              clear ht0
              have htext := HA.out.str n cap Hn.out S HSl.out
              go_wp2_with fail
              refine (Trim_c _ l n cap B _ HA.out hB Hn.out (by omega)).mono ?_
              rw [Htt.out]
              rintro e w1 ⟨rfl, hblk1, hb1⟩
              have HB1 := hide hblk1
              clear hblk1 htext
              go_wp2_with fail
              refine (Bytes_g _ (trimL l) t _ _ _ (HB1.out.row.sl HB1.out.lt) Hlen.out.symm (by first | (rw [extract_head S l t HSl.out, ← Htt.out]; rfl) | (rw [show n = t by omega, extract_head S l t HSl.out, ← Htt.out]; rfl))).mono ?_
              rintro e w' ⟨rfl, rfl⟩
              go_wp2_with fail
              refine (Fit_c _ (trimL l) t t _ n false _ (HB1.out.row.sl HB1.out.lt) (Nat.le_refl _) Hlen.out.symm (Nat.le_refl _) (by unfold maxLen; omega) (by omega)).mono ?_
              rw [Hfit.out]
              rintro e w2 ⟨rfl, hblk2, hb2⟩
              have HB2 := hide hblk2
              have HB1' := hide (HB1.out.below hb2 HB1.out.lt)
              have hbw := hb1.trans (hb2.mono hb1.size)
              have hl1 := hb1.size
              have Hlt := hide HB1.out.lt
              clear hblk2 hb2
              go_wp2_with fail
              go_loopw [8] (fun i wr => ∃ k : Nat, ∃ L : List UInt8, k ≤ t ∧ i = .int .i64 k ∧ L.length = t ∧ Blk8 wr w.heap.size L ∧ Blk8 wr (w1.heap.size + 1) l ∧ Below w.heap.size w wr) (fun i _ => t - (intOf i).toNat)
              case atStart => exact ⟨0, trimL l, Nat.zero_le _, rfl, Hlen.out, HB1'.out, HB2.out, hbw⟩
              case round =>
                obtain ⟨i, L, hi, rfl, hL, hr1, hr2, hbr⟩ := hrel
                have HR1 := hide hr1
                have HR2 := hide hr2
                have HL := hide hL
                clear hr1 hr2 hL
                by_cases hit : i < t
                · exfalso; omega
                · have htext := (HA.out.keep hbr hB B (Nat.le_refl _)).str n cap Hn.out S HSl.out
                  go_wp2_with fail
                  refine (Bytes_g _ l n _ _ _ (HR2.out.row.sl HR2.out.lt) Hn.out HSl.out).mono ?_
                  rintro e w' ⟨rfl, rfl⟩
                  go_wp2_with fail
                  refine (lives_c _).mono ?_
                  rintro e w3 ⟨rfl, hb3⟩
                  go_wp2_with fail
                  go_ret
                  exact ⟨rfl, hbr.trans (hb3.mono hbr.size)⟩
            · obtain ⟨u, hu, hcell⟩ := HK.out (by omega)
              have hsp := lastI_has nospace l n (t - 1) (by have := HT2.out; omega)
              rw [hu] at hsp
              have hq : ((u.toNat : Int) == 32) = false := by simpa [nospace] using hsp
              clear hu hsp
              have htext := HA.out.str n cap Hn.out S HSl.out
              go_wp2_with fail
              refine (Trim_c _ l n cap B _ HA.out hB Hn.out (by omega)).mono ?_
              rw [Htt.out]
              rintro e w1 ⟨rfl, hblk1, hb1⟩
              have HB1 := hide hblk1
              clear hblk1 htext
              go_wp2_with fail
              refine (Bytes_g _ (trimL l) t _ _ _ (HB1.out.row.sl HB1.out.lt) Hlen.out.symm (by first | (rw [extract_head S l t HSl.out, ← Htt.out]; rfl) | (rw [show n = t by omega, extract_head S l t HSl.out, ← Htt.out]; rfl))).mono ?_
              rintro e w' ⟨rfl, rfl⟩
              go_wp2_with fail
              refine (Fit_c _ (trimL l) t t _ n false _ (HB1.out.row.sl HB1.out.lt) (Nat.le_refl _) Hlen.out.symm (Nat.le_refl _) (by unfold maxLen; omega) (by omega)).mono ?_
              rw [Hfit.out]
              rintro e w2 ⟨rfl, hblk2, hb2⟩
              have HB2 := hide hblk2
              have HB1' := hide (HB1.out.below hb2 HB1.out.lt)
              have hbw := hb1.trans (hb2.mono hb1.size)
              have hl1 := hb1.size
              have Hlt := hide HB1.out.lt
              clear hblk2 hb2
              go_wp2_with fail
              go_loopw [8] (fun i wr => ∃ k : Nat, ∃ L : List UInt8, k ≤ t ∧ i = .int .i64 k ∧ L.length = t ∧ Blk8 wr w.heap.size L ∧ Blk8 wr (w1.heap.size + 1) l ∧ Below w.heap.size w wr) (fun i _ => t - (intOf i).toNat)
              case atStart => exact ⟨0, trimL l, Nat.zero_le _, rfl, Hlen.out, HB1'.out, HB2.out, hbw⟩
              case round =>
                obtain ⟨i, L, hi, rfl, hL, hr1, hr2, hbr⟩ := hrel
                have HR1 := hide hr1
                have HR2 := hide hr2
                have HL := hide hL
                clear hr1 hr2 hL
                by_cases hit : i < t
                · have hil : i < L.length := by rw [HL.out]; exact hit
                  obtain ⟨hc1, hc2⟩ := HR1.out.row.at_ i hil
                  obtain ⟨v, hv⟩ := bump L[i]
                  have HS1 := hide (HR1.out.set_ i v)
                  have HS2 : Hid (Blk8 (wr.setCell ⟨w.heap.size, i, none⟩ (.int .u8 (v.toNat : Int))) (w1.heap.size + 1) l) := (Below.heap_setCell _ _ _ _ (by show w1.heap.size + 1 ≠ w.heap.size; omega)).trans HR2.out
                  obtain ⟨c, hc⟩ : ∃ c, c = L[i] := ⟨_, rfl⟩
                  rw [← hc] at hc1 hv
                  clear hc hil
                  go_wp2_with fail
                  exact ⟨⟨i + 1, _, by omega, by go_num, by rw [List.length_set]; exact HL.out, HS1.out, HS2.out, hbr.setCell (Nat.le_refl _) _⟩, by simp [intOf]; omega⟩
                · have htext := (HA.out.keep hbr hB B (Nat.le_refl _)).str n cap Hn.out S HSl.out
                  go_wp2_with fail
                  refine (Bytes_g _ l n _ _ _ (HR2.out.row.sl HR2.out.lt) Hn.out HSl.out).mono ?_
                  rintro e w' ⟨rfl, rfl⟩
                  go_wp2_with fail
                  refine (lives_c _).mono ?_
                  rintro e w3 ⟨rfl, hb3⟩
                  go_wp2_with fail
                  go_ret
                  exact ⟨rfl, hbr.trans (hb3.mono hbr.size)⟩
end Go.Proofs.Ytlhkekdhgpmpaaa
