/-
  THE CONTRACT of chars.Fit.
-/
import Derived.Test.YtlhkekdhgpmpaaaFill
import Derived.RegionTactic
import Derived.BigRegion
namespace Go.Proofs.Ytlhkekdhgpmpaaa
open Go.RowKit Go.Shelf

/-- the text with m bytes -/
def fitL (l : List UInt8) (m : Nat) (left : Bool) : List UInt8 :=
  if left then List.replicate (m - l.length) 32 ++ l.drop (l.length - m) else l.take m ++ List.replicate (m - l.length) 32
theorem fitL_length (l : List UInt8) (m : Nat) (left : Bool) : (fitL l m left).length = m := by
  unfold fitL; split <;> simp <;> omega
theorem fill_space (m : Nat) : fillL [32] m = List.replicate m 32 := by
  apply List.ext_getElem
  · simp [fillL]
  · intro i h1 h2
    simp [fillL, Nat.mod_one]

theorem sl_one (w : World) (v : Value) (hv : v = .int .u8 32) : Sl (w.alloc (.cells #[v] 5)) (w.heap.size + 1) (some ⟨w.heap.size, 0, none⟩) [32] := by
  subst hv
  exact (Blk8.new w [32]).row.sl (by omega)

set_option maxHeartbeats 400000 in
theorem Fit_bad (A : Option Addr) (n cap : Nat) (m : Int) (left : Bool) (w : World) (hm1 : -9223372036854775808 ≤ m) (hm2 : m ≤ 9223372036854775807) (hbad : fillErr 1 m ≠ 0) :
    Calls Try.prog 15 #[.slice A n cap, .int .i64 m, .bool left] w fun e w' => e = .returned (.tuple #[.slice none 0 0, .int .i64 (fillErr 1 m)]) ∧ Below w.heap.size w w' := by
  have hF := fun (w1 : World) => Fill_bad (some ⟨w.heap.size, 0, none⟩) 1 1 m w1 (by unfold maxLen; omega) hm1 hm2 hbad
  have HF := hide hF
  have hne : (fillErr 1 m != 0) = true := by simpa using hbad
  have hb := hide (Below.alloc (Below.refl w.heap.size w) (Nat.le_refl _) (.cells #[.int .u8 32] 5))
  clear hF hbad
  go_enter Try.func15, Try.ntmps15
  go_wp2_with (go_at_call 18; refine (HF.out _).mono ?_; rintro e w' ⟨rfl, rfl⟩)
  go_ret2
  exact ⟨rfl, hb.out⟩

theorem fill_space_at (w : World) (m : Nat) (hm : m ≤ 1048576) :
    Calls Try.prog 18 #[.slice (some ⟨w.heap.size, 0, none⟩) 1 1, .int .i64 (m : Int)] (w.alloc (.cells #[.int .u8 32] 5)) fun e w' =>
      e = .returned (.tuple #[.slice (some ⟨w.heap.size + 1, 0, none⟩) m m, .int .i64 0]) ∧ Blk8 w' (w.heap.size + 1) (List.replicate m 32) ∧ Below (w.heap.size + 1) (w.alloc (.cells #[.int .u8 32] 5)) w' := by
  have hF := Fill_c (some ⟨w.heap.size, 0, none⟩) [32] 1 1 (w.heap.size + 1) m (w.alloc (.cells #[.int .u8 32] 5)) (sl_one w _ rfl) (by simp) rfl (by unfold maxLen; omega) hm (by omega)
  rw [fill_space] at hF
  have e : (w.alloc (.cells #[.int .u8 32] 5)).heap.size = w.heap.size + 1 := by simp
  rw [e] at hF
  exact hF

set_option maxHeartbeats 400000 in
theorem Fit_right (A : Option Addr) (l : List UInt8) (n cap B m : Nat) (w : World) (hA : Sl w B A l) (hB : B ≤ w.heap.size) (hn : n = l.length) (hs : n ≤ maxLen) (hm : m ≤ 1048576) :
    Calls Try.prog 15 #[.slice A n cap, .int .i64 (m : Int), .bool false] w fun e w' => e = .returned (.tuple #[.slice (some ⟨w.heap.size + 1, 0, none⟩) m m, .int .i64 0]) ∧ Blk8 w' (w.heap.size + 1) (fitL l m false) ∧ Below w.heap.size w w' := by
  have HF := hide (fill_space_at w m hm)
  have HA := hide hA
  have Hn := hide hn
  have hb := hide (Below.alloc (Below.refl w.heap.size w) (Nat.le_refl _) (.cells #[.int .u8 32] 5))
  unfold maxLen at hs
  clear hA hn
  go_enter Try.func15, Try.ntmps15
  go_wp2_with fail
  refine HF.out.mono ?_
  rintro e w1 ⟨rfl, hblk, hbel⟩
  have hb1 : Below w.heap.size w w1 := hb.out.trans (hbel.mono (by omega))
  obtain ⟨w2, c, hcopy, hblk2, hbel2⟩ := copy8 w1 (w.heap.size + 1) 0 m m _ hblk (some ⟨w.heap.size + 1, 0, none⟩) A l n cap B (HA.out.keep hb1 hB B (Nat.le_refl _)) Hn.out 3 (fun _ => rfl) (by simp; omega) w.heap.size w hb1 (by omega)
  have HB2 := hide hblk2
  clear hblk hbel hblk2 hb1
  go_wp2_with fail
  go_ret2
  refine ⟨rfl, ?_, hbel2⟩
  have h := HB2.out
  have hn := Hn.out
  have e : fitL l m false = List.take 0 (List.replicate m 32) ++ (List.take m l ++ List.drop (0 + min n m) (List.replicate m 32)) := by
    subst hn
    simp [fitL]; omega
  rw [e]; exact h

theorem wrap_sub (a b : Nat) (ha : a ≤ 9223372036854775807) (hb : b ≤ 9223372036854775807) : IntKind.i64.wrap ((a : Int) - (b : Int)) = (a : Int) - (b : Int) := by
  rw [IntKind.wrap_i64]; omega
theorem fit_left_long (l : List UInt8) (m n : Nat) (hn : n = l.length) (h : n ≤ m) :
    fitL l m true = List.take (m - n) (List.replicate m 32) ++ (List.take (m - (m - n)) l ++ List.drop ((m - n) + min n (m - (m - n))) (List.replicate m 32)) := by
  subst hn
  simp [fitL]
  rw [show l.length - m = 0 by omega, show m - (m - l.length) = l.length by omega]
  simp
  omega
theorem fit_left_short (l : List UInt8) (m n : Nat) (hn : n = l.length) (h : m ≤ n) :
    fitL l m true = List.take 0 (List.replicate m 32) ++ (List.take m (l.drop (n - m)) ++ List.drop (0 + min (n - (n - m)) m) (List.replicate m 32)) := by
  subst hn
  simp [fitL]
  rw [show m - l.length = 0 by omega]
  simp [List.take_of_length_le (show (l.drop (l.length - m)).length ≤ m by simp; omega)]
  omega

set_option maxHeartbeats 1000000 in
/-- a text of one byte or more that is shorter than m -/
theorem Fit_left_pad (b off : Nat) (l : List UInt8) (n cap B m : Nat) (w : World) (hA : Sl w B (some ⟨b, off, none⟩) l) (hB : B ≤ w.heap.size) (hn : n = l.length) (hs : n ≤ maxLen) (hm : m ≤ 1048576) (h0 : 0 < n) (hlt : n < m) :
    Calls Try.prog 15 #[.slice (some ⟨b, off, none⟩) n cap, .int .i64 (m : Int), .bool true] w fun e w' => e = .returned (.tuple #[.slice (some ⟨w.heap.size + 1, 0, none⟩) m m, .int .i64 0]) ∧ Blk8 w' (w.heap.size + 1) (fitL l m true) ∧ Below w.heap.size w w' := by
  have HF := hide (fill_space_at w m hm)
  have HL := hide (fit_left_long l m n hn (by omega))
  have HA := hide hA
  have Hn := hide hn
  have hb := hide (Below.alloc (Below.refl w.heap.size w) (Nat.le_refl _) (.cells #[.int .u8 32] 5))
  unfold maxLen at hs
  clear hA hn
  obtain ⟨d, hd⟩ : ∃ d, d = m - n := ⟨_, rfl⟩
  rw [← hd] at HL
  have hd0 : 0 < d := by omega
  have hw1 : IntKind.i64.wrap ((m : Int) - (n : Int)) = (d : Int) := by rw [wrap_sub m n (by omega) (by omega)]; omega
  have hw2 : IntKind.i64.wrap ((n : Int) - (m : Int)) = -(d : Int) := by rw [wrap_sub n m (by omega) (by omega)]; omega
  have hne : ¬ m = d := by omega
  have hd1 : (d : Int) ≤ (m : Int) := by omega
  have hdm : d ≤ m := by omega
  have Hd := hide hd
  clear hd
  go_enter Try.func15, Try.ntmps15
  go_wp2_with fail
  refine HF.out.mono ?_
  rintro e w1 ⟨rfl, hblk, hbel⟩
  have hb1 : Below w.heap.size w w1.drew := (hb.out.trans (hbel.mono (by omega))).drew
  obtain ⟨w2, c, hcopy, hblk2, hbel2⟩ := copy8 w1.drew (w.heap.size + 1) d (m - d) (m - d) _ hblk.drew (some ⟨w.heap.size + 1, d, none⟩) (some ⟨b, off, none⟩) l n cap B (HA.out.keep hb1 hB B (Nat.le_refl _)) Hn.out 3 (fun _ => rfl) (by simp; omega) w.heap.size w hb1 (by omega)
  have HB2 := hide hblk2
  clear hblk hbel hblk2 hb1
  go_wp2_with fail
  go_region
  go_wp2_with fail
  go_ret2
  exact ⟨rfl, by rw [HL.out]; exact HB2.out, hbel2⟩

set_option maxHeartbeats 1000000 in
/-- the empty text -/
theorem Fit_left_empty (A : Option Addr) (cap m : Nat) (w : World) (hm : m ≤ 1048576) :
    Calls Try.prog 15 #[.slice A 0 cap, .int .i64 (m : Int), .bool true] w fun e w' => e = .returned (.tuple #[.slice (some ⟨w.heap.size + 1, 0, none⟩) m m, .int .i64 0]) ∧ Blk8 w' (w.heap.size + 1) (fitL [] m true) ∧ Below w.heap.size w w' := by
  have HF := hide (fill_space_at w m hm)
  have hA0 : Option.map (fun x : Addr => x.add 0) A = A := by cases A <;> simp [Addr.add]
  have hb := hide (Below.alloc (Below.refl w.heap.size w) (Nat.le_refl _) (.cells #[.int .u8 32] 5))
  have hw1 : IntKind.i64.wrap (m : Int) = (m : Int) := by rw [IntKind.wrap_i64]; omega
  have hw2 : IntKind.i64.wrap (-(m : Int)) = -(m : Int) := by rw [IntKind.wrap_i64]; omega
  have hE : fitL [] m true = List.replicate m 32 := by simp [fitL]
  have HE := hide hE
  clear hE
  rcases Nat.eq_zero_or_pos m with rfl | hm0
  all_goals
    go_enter Try.func15, Try.ntmps15
    go_wp2_with fail
    refine HF.out.mono ?_
    rintro e w1 ⟨rfl, hblk, hbel⟩
    have hb1 : Below w.heap.size w w1.drew := (hb.out.trans (hbel.mono (by omega))).drew
    have hcopy := run_copy_none (P := Try.prog) w1.drew 25 25 3 5 (some ⟨w.heap.size + 1, 0, none⟩) A 0 0 0 cap Try.underlying25 u8size rfl
    have HB2 := hide hblk.drew
    clear hblk hbel
    go_wp2_with fail
    go_region
    go_wp2_with fail
    go_ret2
    exact ⟨rfl, by rw [HE.out]; exact HB2.out, hb1⟩

set_option maxHeartbeats 1000000 in
/-- a text that is not shorter than m -/
theorem Fit_left_cut (b off : Nat) (l : List UInt8) (n cap B m : Nat) (w : World) (hA : Sl w B (some ⟨b, off, none⟩) l) (hB : B ≤ w.heap.size) (hn : n = l.length) (hcap : n ≤ cap) (hs : cap ≤ maxLen) (hm : m ≤ 1048576) (h0 : 0 < n) (hlt : m ≤ n) :
    Calls Try.prog 15 #[.slice (some ⟨b, off, none⟩) n cap, .int .i64 (m : Int), .bool true] w fun e w' => e = .returned (.tuple #[.slice (some ⟨w.heap.size + 1, 0, none⟩) m m, .int .i64 0]) ∧ Blk8 w' (w.heap.size + 1) (fitL l m true) ∧ Below w.heap.size w w' := by
  have HF := hide (fill_space_at w m hm)
  have HL := hide (fit_left_short l m n hn hlt)
  have HA := hide hA
  have Hn := hide hn
  have hb := hide (Below.alloc (Below.refl w.heap.size w) (Nat.le_refl _) (.cells #[.int .u8 32] 5))
  unfold maxLen at hs
  clear hA hn
  obtain ⟨d, hd⟩ : ∃ d, d = n - m := ⟨_, rfl⟩
  rw [← hd] at HL
  have hw1 : IntKind.i64.wrap ((m : Int) - (n : Int)) = -(d : Int) := by rw [wrap_sub m n (by omega) (by omega)]; omega
  have hw2 : IntKind.i64.wrap ((n : Int) - (m : Int)) = (d : Int) := by rw [wrap_sub n m (by omega) (by omega)]; omega
  have hd1 : (d : Int) ≤ (n : Int) := by omega
  have hdm : d ≤ n := by omega
  have Hd := hide hd
  clear hd
  have Hgoal : ∀ A' : Option Addr, (∀ w' : World, Below w.heap.size w w' → Sl w' B A' (l.drop d)) → ∀ w1 : World, Blk8 w1 (w.heap.size + 1) (List.replicate m 32) → Below w.heap.size w w1.drew →
      ∃ w2 c, (Builtin.copy_ #[25, 25] 3 #[.slice (some ⟨w.heap.size + 1, 0, none⟩) m m, .slice A' (n - d) (cap - d)]).run Try.prog w1.drew = .ok (.int .i64 c) w2 ∧ Blk8 w2 (w.heap.size + 1) (fitL l m true) ∧ Below w.heap.size w w2 := by
    intro A' hA' w1 hblk hb1
    have h := copy8 w1.drew (w.heap.size + 1) 0 m m _ hblk.drew (some ⟨w.heap.size + 1, 0, none⟩) A' (l.drop d) (n - d) (cap - d) B (hA' _ hb1) (by rw [List.length_drop, ← Hn.out]) 3 (fun _ => rfl) (by simp; omega) w.heap.size w hb1 (by omega)
    rw [HL.out]; exact h
  have HG := hide Hgoal
  clear Hgoal
  rcases Nat.eq_zero_or_pos d with rfl | hd0
  · go_enter Try.func15, Try.ntmps15
    go_wp2_with fail
    refine HF.out.mono ?_
    rintro e w1 ⟨rfl, hblk, hbel⟩
    have hb1 : Below w.heap.size w w1.drew := (hb.out.trans (hbel.mono (by omega))).drew
    obtain ⟨w2, c, hcopy, hblk2, hbel2⟩ := HG.out (some ⟨b, off, none⟩) (fun w' hw' => by rw [List.drop_zero]; exact HA.out.keep hw' hB B (Nat.le_refl _)) w1 hblk hb1
    rw [Nat.sub_zero, Nat.sub_zero] at hcopy
    have HB2 := hide hblk2
    clear hblk hbel hblk2 hb1
    go_wp2_with fail
    go_region
    go_wp2_with fail
    go_ret2
    exact ⟨rfl, HB2.out, hbel2⟩
  · by_cases hc : cap = d
    · have hnil : l.drop d = [] := by
        apply List.eq_nil_of_length_eq_zero
        rw [List.length_drop, ← Hn.out]; omega
      have Hnil := hide hnil
      clear hnil
      obtain rfl : cap = d := hc
      obtain rfl : n = cap := by omega
      go_enter Try.func15, Try.ntmps15
      go_wp2_with fail
      refine HF.out.mono ?_
      rintro e w1 ⟨rfl, hblk, hbel⟩
      have hb1 : Below w.heap.size w w1.drew := (hb.out.trans (hbel.mono (by omega))).drew
      obtain ⟨w2, c, hcopy, hblk2, hbel2⟩ := HG.out (some ⟨b, off, none⟩) (fun w' hw' => .inl Hnil.out) w1 hblk hb1
      rw [Nat.sub_self] at hcopy
      have HB2 := hide hblk2
      clear hblk hbel hblk2 hb1
      go_wp2_with fail
      go_region
      go_wp2_with fail
      go_ret2
      exact ⟨rfl, HB2.out, hbel2⟩
    · go_enter Try.func15, Try.ntmps15
      go_wp2_with fail
      refine HF.out.mono ?_
      rintro e w1 ⟨rfl, hblk, hbel⟩
      have hb1 : Below w.heap.size w w1.drew := (hb.out.trans (hbel.mono (by omega))).drew
      obtain ⟨w2, c, hcopy, hblk2, hbel2⟩ := HG.out (some ⟨b, off + d, none⟩) (fun w' hw' => (HA.out.keep hw' hB B (Nat.le_refl _)).drop d) w1 hblk hb1
      have HB2 := hide hblk2
      clear hblk hbel hblk2 hb1
      go_wp2_with fail
      go_region
      go_wp2_with fail
      go_ret2
      exact ⟨rfl, HB2.out, hbel2⟩

theorem Fit_c (A : Option Addr) (l : List UInt8) (n cap B m : Nat) (left : Bool) (w : World) (hA : Sl w B A l) (hB : B ≤ w.heap.size) (hn : n = l.length) (hcap : n ≤ cap) (hs : cap ≤ maxLen) (hm : m ≤ 1048576) :
    Calls Try.prog 15 #[.slice A n cap, .int .i64 (m : Int), .bool left] w fun e w' => e = .returned (.tuple #[.slice (some ⟨w.heap.size + 1, 0, none⟩) m m, .int .i64 0]) ∧ Blk8 w' (w.heap.size + 1) (fitL l m left) ∧ Below w.heap.size w w' := by
  cases left
  · exact Fit_right A l n cap B m w hA hB hn (by omega) hm
  · rcases Nat.eq_zero_or_pos n with h0 | h0
    · subst h0
      have : l = [] := List.eq_nil_of_length_eq_zero hn.symm
      subst this
      exact Fit_left_empty A cap m w hm
    · rcases hA with rfl | ⟨b, off, rfl, hbB, hc⟩
      · simp at hn; omega
      · rcases Nat.lt_or_ge n m with h | h
        · exact Fit_left_pad b off l n cap B m w (.inr ⟨b, off, rfl, hbB, hc⟩) hB hn (by omega) hm h0 h
        · exact Fit_left_cut b off l n cap B m w (.inr ⟨b, off, rfl, hbB, hc⟩) hB hn hcap hs hm h0 h
end Go.Proofs.Ytlhkekdhgpmpaaa
