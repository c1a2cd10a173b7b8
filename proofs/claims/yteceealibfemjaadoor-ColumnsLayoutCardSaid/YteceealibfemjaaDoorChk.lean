/-
  THE CONTRACT of check (layer 2, columns): the first fault that a line has whatever stands before it.
-/
import Derived.Test.YteceealibfemjaaDoorQuo
import Derived.Outline
namespace Go.Proofs.YteceealibfemjaaDoor
open Go.RowKit

/-- the indicator is one of those of the chapter -/
def okM (m : UInt8) : Bool := m == 32 || m == 45 || m == 42 || m == 47 || m == 68 || m == 100
theorem okM_index (m : UInt8) : decide (Lib.indexByte [32, 45, 42, 47, 68, 100] m < 0) = !okM m := by
  have h : ∀ n : Fin 256, decide (Lib.indexByte [32, 45, 42, 47, 68, 100] (UInt8.ofNat n.val) < 0) = !okM (UInt8.ofNat n.val) := by decide +kernel
  have := h ⟨m.toNat, m.toNat_lt⟩
  simpa using this
/-- the fault of a line -/
def chkL (line : Int) (l : List UInt8) : Int × Int × Int :=
  if 80 < l.length then (5, line, 81) else if badN l < l.length then (4, line, (badN l : Int) + 1) else if okM (markOf l) then (0, 0, 0) else (4, line, 7)

set_option maxHeartbeats 1000000 in
set_option maxRecDepth 100000 in
theorem check_c (line : Int) (s : ByteArray) (w : World) (hs : s.size ≤ 2000000) :
    Calls Tryd.prog 46 #[.agg #[.int .i64 line, .string s]] w fun e w' => e = .returned (fault (chkL line s.data.toList)) ∧ Below w.heap.size w w' := by
  have hflt : Hid (∀ (e c : Int) (w1 : World), Calls Tryd.prog 69 #[.agg #[.int .i64 line, .string s], .int .i64 e, .int .i64 c] w1 fun en w' => en = .returned (.agg #[.int .i64 e, .int .i64 line, .int .i64 c]) ∧ Below w1.heap.size w1 w') := fun e c w1 => fault_c line e c s w1
  by_cases hbig : 80 < s.size
  · have hR : Hid (chkL line s.data.toList = (5, line, 81)) := by
      unfold Hid chkL; rw [if_pos (by rw [len_data]; exact hbig)]
    go_enter Tryd.func46, Tryd.ntmps46
    go_wp2_with fail
    refine (hflt.out 5 81 _).mono ?_
    rintro e w' ⟨rfl, hb1⟩
    have hk := blk_kept hb1 (blk_new (w.alloc (.cells #[.int .i64 line, .string s] 93)) #[.int .i64 0, .int .i64 0, .int .i64 0] 40)
    rw [World.size_alloc] at hk
    have hB := (below2 w (.cells #[.int .i64 line, .string s] 93) (.cells #[.int .i64 0, .int .i64 0, .int .i64 0] 40)).trans (hb1.mono (by simp; omega))
    have k0 : w'.cell? ⟨w.heap.size + 1, 0, none⟩ = some (.int .i64 0) := hk.cell 0
    have k1 : w'.cell? ⟨w.heap.size + 1, 1, none⟩ = some (.int .i64 0) := hk.cell 1
    have k2 : w'.cell? ⟨w.heap.size + 1, 2, none⟩ = some (.int .i64 0) := hk.cell 2
    have f0 := hk.free 0
    have f1 := hk.free 1
    have f2 := hk.free 2
    clear hk
    go_wp2_with fail
    refine bodyPost_ret (v := .agg #[.int .i64 (5), .int .i64 line, .int .i64 (81)]) (by simp [results, Tryd.results46, go_sem, k0, k1, k2]) rfl ?_
    exact ⟨by rw [hR.out]; rfl, below_set3 hB (by omega) _ _ _⟩
  · go_enter Tryd.func46, Tryd.ntmps46
    go_wp2_with fail
    go_loop [13] (fun i => ∃ k : Nat, k ≤ s.size ∧ i = .int .i64 k ∧ Hid (∀ j (h : j < s.size), j < k → badC (s[j]'h) = false)) (fun i => s.size - (intOf i).toNat)
    case atStart => exact ⟨0, Nat.zero_le _, rfl, fun j _ hj => by omega⟩
    case round =>
      obtain ⟨k, hk, rfl, hf⟩ := hrel
      by_cases hlt : k < s.size
      · have hone : Hid (goodL (s.extract k (k + 1)).data.toList = !badC (s[k]'hlt)) := by
          unfold Hid goodL; rw [one_at s k hlt]; simp
        have hpr := hide (fun (w1 : World) => Printable_c (s.extract k (k + 1)) w1 (by simp; omega))
        by_cases hb : badC (s[k]'hlt) = true
        · have hbn : badN s.data.toList = k := badN_at _ k (by rw [len_data]; exact hlt) (fun j h hj => hf.out j (by rw [← len_data]; exact h) hj) hb
          have hR : Hid (chkL line s.data.toList = (4, line, (k : Int) + 1)) := by
            unfold Hid chkL; rw [if_neg (by rw [len_data]; exact hbig), hbn, if_pos (by rw [len_data]; exact hlt)]
          rw [hone.out, hb] at hpr
          have hpr2 : Hid (∀ w1, Calls Tryd.prog 30 #[.string (s.extract k (k + 1))] w1 fun e w' => e = .returned (.bool false) ∧ w1 = w') := hpr
          clear hpr hone hb hbn hf
          go_wp2_with fail
          refine (hpr2.out _).mono ?_
          rintro e w' ⟨rfl, rfl⟩
          go_wp2_with fail
          refine (hflt.out 4 ((k : Int) + 1) _).mono ?_
          rintro e w' ⟨rfl, hb1⟩
          have hk := blk_kept hb1 (blk_new (w.alloc (.cells #[.int .i64 line, .string s] 93)) #[.int .i64 0, .int .i64 0, .int .i64 0] 40)
          rw [World.size_alloc] at hk
          have hB := (below2 w (.cells #[.int .i64 line, .string s] 93) (.cells #[.int .i64 0, .int .i64 0, .int .i64 0] 40)).trans (hb1.mono (by simp; omega))
          have k0 : w'.cell? ⟨w.heap.size + 1, 0, none⟩ = some (.int .i64 0) := hk.cell 0
          have k1 : w'.cell? ⟨w.heap.size + 1, 1, none⟩ = some (.int .i64 0) := hk.cell 1
          have k2 : w'.cell? ⟨w.heap.size + 1, 2, none⟩ = some (.int .i64 0) := hk.cell 2
          have f0 := hk.free 0
          have f1 := hk.free 1
          have f2 := hk.free 2
          clear hk
          go_wp2_with fail
          refine bodyPost_ret (v := .agg #[.int .i64 (4), .int .i64 line, .int .i64 ((k : Int) + 1)]) (by simp [results, Tryd.results46, go_sem, k0, k1, k2]) rfl ?_
          exact ⟨by rw [hR.out]; rfl, below_set3 hB (by omega) _ _ _⟩
        · have hb2 : badC (s[k]'hlt) = false := by simpa using hb
          have H : Hid (∀ j (h : j < s.size), j < k + 1 → badC (s[j]'h) = false) := fun j h hj => by
            rcases Nat.lt_or_ge j k with h' | h'
            · exact hf.out j h h'
            · obtain rfl : k = j := by omega
              exact hb2
          rw [hone.out, hb2] at hpr
          have hpr2 : Hid (∀ w1, Calls Tryd.prog 30 #[.string (s.extract k (k + 1))] w1 fun e w' => e = .returned (.bool true) ∧ w1 = w') := hpr
          clear hpr hone hb hb2 hf
          go_wp2_with fail
          refine (hpr2.out _).mono ?_
          rintro e w' ⟨rfl, rfl⟩
          go_wp2_with fail
          exact ⟨⟨k + 1, by omega, by go_num, H⟩, by simp [intOf]; omega⟩
      · have hbn : badN s.data.toList = s.size := by
          rw [badN_none _ (fun j h => hf.out j (by rw [← len_data]; exact h) (by rw [len_data] at h; omega)), len_data]
        have hR0 : Hid (chkL line s.data.toList = if okM (markOf s.data.toList) then (0, 0, 0) else (4, line, 7)) := by
          unfold Hid chkL; rw [if_neg (by rw [len_data]; exact hbig), if_neg (by rw [hbn, len_data]; omega)]
        have hI := hide (fun (w1 : World) => indicator_c line s w1 hs)
        obtain ⟨m, hm⟩ : ∃ m, m = markOf s.data.toList := ⟨_, rfl⟩
        rw [← hm] at hR0 hI
        have hix := okM_index m
        have hXI : Hid (∀ w1, Calls Tryd.prog 67 #[.string ⟨#[32, 45, 42, 47, 68, 100]⟩, .int .u8 (m.toNat : Int)] w1 fun e w' => e = .returned (.int .i64 (Lib.indexByte [32, 45, 42, 47, 68, 100] m)) ∧ w1 = w') := fun w1 => by
          have := Tryd.strings_IndexByte ⟨#[32, 45, 42, 47, 68, 100]⟩ (m.toNat : Int) w1
          have e : ((m.toNat : Int)).toNat.toUInt8 = m := by simp
          rw [e] at this
          exact this.mono fun _ _ h => ⟨h.1, h.2.symm⟩
        generalize Lib.indexByte [32, 45, 42, 47, 68, 100] m = ix at hix hXI
        clear hm hbn hf
        cases hok : okM m
        · rw [hok] at hR0 hix
          have hix1 : ix < 0 := by simpa using hix
          have hR : Hid (chkL line s.data.toList = (4, line, 7)) := hR0
          clear hR0 hix hok
          go_wp2_with fail
          refine (hI.out _).mono ?_
          rintro e w2 ⟨rfl, hb2⟩
          go_wp2_with fail
          refine (hXI.out _).mono ?_
          rintro e w3 ⟨rfl, rfl⟩
          have b1 := blk_kept hb2 ((blk_new w #[.int .i64 line, .string s] 93).alloc (.cells #[.int .i64 0, .int .i64 0, .int .i64 0] 40))
          have b2 := blk_kept hb2 (blk_new (w.alloc (.cells #[.int .i64 line, .string s] 93)) #[.int .i64 0, .int .i64 0, .int .i64 0] 40)
          rw [World.size_alloc] at b2
          have q0 : w2.cell? ⟨w.heap.size, 0, none⟩ = some (.int .i64 line) := b1.cell 0
          have q1 : w2.cell? ⟨w.heap.size, 1, none⟩ = some (.string s) := b1.cell 1
          have hB2 := (below2 w (.cells #[.int .i64 line, .string s] 93) (.cells #[.int .i64 0, .int .i64 0, .int .i64 0] 40)).trans (hb2.mono (by simp; omega))
          have B2 := hide b2
          clear b1 b2 hb2
          go_wp2_with fail
          refine (hflt.out 4 7 _).mono ?_
          rintro e w' ⟨rfl, hb1⟩
          have hk := blk_kept hb1 B2.out
          have hB := hB2.trans (hb1.mono hB2.size)
          have k0 : w'.cell? ⟨w.heap.size + 1, 0, none⟩ = some (.int .i64 0) := hk.cell 0
          have k1 : w'.cell? ⟨w.heap.size + 1, 1, none⟩ = some (.int .i64 0) := hk.cell 1
          have k2 : w'.cell? ⟨w.heap.size + 1, 2, none⟩ = some (.int .i64 0) := hk.cell 2
          have f0 := hk.free 0
          have f1 := hk.free 1
          have f2 := hk.free 2
          clear hk
          go_wp2_with fail
          refine bodyPost_ret (v := .agg #[.int .i64 4, .int .i64 line, .int .i64 7]) (by simp [results, Tryd.results46, go_sem, k0, k1, k2]) rfl ?_
          exact ⟨by rw [hR.out]; rfl, below_set3 hB (by omega) _ _ _⟩
        · rw [hok] at hR0 hix
          have hix1 : ¬ ix < 0 := by simpa using hix
          have hR : Hid (chkL line s.data.toList = (0, 0, 0)) := hR0
          clear hR0 hix hok
          go_wp2_with fail
          refine (hI.out _).mono ?_
          rintro e w2 ⟨rfl, hb2⟩
          have hk := blk_kept hb2 (blk_new (w.alloc (.cells #[.int .i64 line, .string s] 93)) #[.int .i64 0, .int .i64 0, .int .i64 0] 40)
          rw [World.size_alloc] at hk
          have hB := (below2 w (.cells #[.int .i64 line, .string s] 93) (.cells #[.int .i64 0, .int .i64 0, .int .i64 0] 40)).trans (hb2.mono (by simp; omega))
          have k0 : w2.cell? ⟨w.heap.size + 1, 0, none⟩ = some (.int .i64 0) := hk.cell 0
          have k1 : w2.cell? ⟨w.heap.size + 1, 1, none⟩ = some (.int .i64 0) := hk.cell 1
          have k2 : w2.cell? ⟨w.heap.size + 1, 2, none⟩ = some (.int .i64 0) := hk.cell 2
          have f0 := hk.free 0
          have f1 := hk.free 1
          have f2 := hk.free 2
          clear hk hb2
          go_wp2_with fail
          refine (hXI.out _).mono ?_
          rintro e w3 ⟨rfl, rfl⟩
          go_wp2_with fail
          refine bodyPost_ret (v := .agg #[.int .i64 0, .int .i64 0, .int .i64 0]) (by simp [results, Tryd.results46, go_sem, k0, k1, k2]) rfl ?_
          exact ⟨by rw [hR.out]; rfl, below_set3 hB (by omega) _ _ _⟩
end Go.Proofs.YteceealibfemjaaDoor
