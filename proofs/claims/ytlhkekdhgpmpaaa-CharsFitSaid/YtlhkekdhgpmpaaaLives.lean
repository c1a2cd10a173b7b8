/-
  THE CONTRACTS of the law's Bytes and lives (the chapter's examples).
-/
import Derived.Test.YtlhkekdhgpmpaaaFit
import Derived.Test.YtlhkekdhgpmpaaaComp
import Derived.Test.YtlhkekdhgpmpaaaTrim
import Derived.Test.YtlhkekdhgpmpaaaFold
import Derived.Lib.SlBytesConst
namespace Go.Proofs.Ytlhkekdhgpmpaaa
open Go.RowKit Go.Shelf

set_option maxHeartbeats 400000 in
theorem Bytes_c (A : Option Addr) (l : List UInt8) (n B : Nat) (w : World) (hA : Sl w B A l) (hn : n = l.length) :
    Calls Try.prog 19 #[.slice A n n, .string ⟨l.toArray⟩] w fun e w' => e = .returned (.int .i64 0) ∧ w = w' := by
  have htext := hA.text n n hn
  clear hA hn
  go_enter Try.func19, Try.ntmps19
  go_wp2
  go_ret
  exact ⟨rfl, rfl⟩

theorem Blk8.pass {w w' : World} {g : Nat} {l : List UInt8} (h : Blk8 w g l) (hb : Below w.heap.size w w') : Blk8 w' g l := h.below hb h.lt

theorem lit_sl (w : World) (L : List UInt8) (C : Array Value) (fr : Nat × Nat) (hC : C = (cells8 L).toArray) : Sl (w.alloc (.cells C 5 fr)) (w.heap.size + 1) (some ⟨w.heap.size, 0, none⟩) L := by
  subst hC
  refine .inr ⟨w.heap.size, 0, rfl, by omega, fun j u hu => ?_⟩
  rw [Nat.zero_add, World.cell?_alloc_mark]
  simp [cells8, hu]
theorem lit_below (w : World) (o : Obj) : Below w.heap.size w (w.alloc o) := Below.alloc (Below.refl w.heap.size w) (Nat.le_refl _) o

theorem Fill_lit (L : List UInt8) (C : Array Value) (fr : Nat × Nat) (hC : C = (cells8 L).toArray) (k m : Nat) (hk : k = L.length) (h0 : 0 < k) (h1 : k ≤ 1000) (hm : m ≤ 1048576) (w : World) :
    Calls Try.prog 18 #[.slice (some ⟨w.heap.size, 0, none⟩) k k, .int .i64 (m : Int)] (w.alloc (.cells C 5 fr)) fun e w' =>
      e = .returned (.tuple #[.slice (some ⟨w.heap.size + 1, 0, none⟩) m m, .int .i64 0]) ∧ Blk8 w' (w.heap.size + 1) (fillL L m) ∧ Below w.heap.size w w' := by
  have e : (w.alloc (.cells C 5 fr)).heap.size = w.heap.size + 1 := by simp
  have h := Fill_c (some ⟨w.heap.size, 0, none⟩) L k k (w.heap.size + 1) m (w.alloc (.cells C 5 fr)) (lit_sl w L C fr hC) (by omega) hk (by unfold maxLen; omega) hm (by omega)
  rw [e] at h
  exact h.mono fun e w' ⟨he, hb, hl⟩ => ⟨he, hb, (lit_below w _).trans (hl.mono (by omega))⟩

theorem Fit_lit (L : List UInt8) (C : Array Value) (fr : Nat × Nat) (hC : C = (cells8 L).toArray) (k m : Nat) (left : Bool) (hk : k = L.length) (h1 : k ≤ 1000) (hm : m ≤ 1048576) (w : World) :
    Calls Try.prog 15 #[.slice (some ⟨w.heap.size, 0, none⟩) k k, .int .i64 (m : Int), .bool left] (w.alloc (.cells C 5 fr)) fun e w' =>
      e = .returned (.tuple #[.slice (some ⟨w.heap.size + 2, 0, none⟩) m m, .int .i64 0]) ∧ Blk8 w' (w.heap.size + 2) (fitL L m left) ∧ Below w.heap.size w w' := by
  have e : (w.alloc (.cells C 5 fr)).heap.size = w.heap.size + 1 := by simp
  have h := Fit_c (some ⟨w.heap.size, 0, none⟩) L k k (w.heap.size + 1) m left (w.alloc (.cells C 5 fr)) (lit_sl w L C fr hC) (by omega) hk (by omega) (by unfold maxLen; omega) hm
  rw [e] at h
  exact h.mono fun e w' ⟨he, hb, hl⟩ => ⟨he, hb, (lit_below w _).trans (hl.mono (by omega))⟩

theorem Trim_lit (L : List UInt8) (C : Array Value) (fr : Nat × Nat) (hC : C = (cells8 L).toArray) (k : Nat) (hk : k = L.length) (h1 : k ≤ 1000) (t : Nat) (ht : trimN L = t) (w : World) :
    Calls Try.prog 17 #[.slice (some ⟨w.heap.size, 0, none⟩) k k] (w.alloc (.cells C 5 fr)) fun e w' =>
      e = .returned (.slice (some ⟨w.heap.size + 1, 0, none⟩) t t) ∧ Blk8 w' (w.heap.size + 1) (trimL L) ∧ Below w.heap.size w w' := by
  subst ht
  have e : (w.alloc (.cells C 5 fr)).heap.size = w.heap.size + 1 := by simp
  have h := Trim_c (some ⟨w.heap.size, 0, none⟩) L k k (w.heap.size + 1) (w.alloc (.cells C 5 fr)) (lit_sl w L C fr hC) (by omega) hk (by omega)
  rw [e] at h
  exact h.mono fun e w' ⟨he, hb, hl⟩ => ⟨he, hb, (lit_below w _).trans (hl.mono (by omega))⟩

theorem Compare_lit (L L' : List UInt8) (C C' : Array Value) (fr fr' : Nat × Nat) (hC : C = (cells8 L).toArray) (hC' : C' = (cells8 L').toArray) (k k' : Nat) (hk : k = L.length) (hk' : k' = L'.length) (h1 : k ≤ 1000) (h1' : k' ≤ 1000) (r : Int) (hr : cmpL L L' = r) (w : World) :
    Calls Try.prog 16 #[.slice (some ⟨w.heap.size, 0, none⟩) k k, .slice (some ⟨w.heap.size + 1, 0, none⟩) k' k'] ((w.alloc (.cells C 5 fr)).alloc (.cells C' 5 fr')) fun e w' =>
      e = .returned (.int .i64 r) ∧ ((w.alloc (.cells C 5 fr)).alloc (.cells C' 5 fr')) = w' := by
  have e : (w.alloc (.cells C 5 fr)).heap.size = w.heap.size + 1 := by simp
  have hb := lit_below (w.alloc (.cells C 5 fr)) (.cells C' 5 fr')
  rw [e] at hb
  have h2 := lit_sl (w.alloc (.cells C 5 fr)) L' C' fr' hC'
  rw [e] at h2
  subst hr
  exact Compare_c (some ⟨w.heap.size, 0, none⟩) (some ⟨w.heap.size + 1, 0, none⟩) L L' k k' k k' (w.heap.size + 1) (w.heap.size + 1 + 1) _ ((lit_sl w L C fr hC).keep hb (Nat.le_refl _) _ (Nat.le_refl _)) hk h2 hk' (by unfold maxLen; omega) (by unfold maxLen; omega)

theorem IsDigits_t (s : ByteArray) (b : Bool) (hb : isDigits s.data.toList = b) (hs : s.size ≤ maxLen) (w : World) :
    Calls Try.prog 10 #[.string s] w fun e w' => e = .returned (.bool b) ∧ w = w' := by
  subst hb; exact IsDigits_c s w hs
theorem IsName_t (s : ByteArray) (b : Bool) (hb : isName s.data.toList = b) (hs : s.size ≤ maxLen) (w : World) :
    Calls Try.prog 11 #[.string s] w fun e w' => e = .returned (.bool b) ∧ w = w' := by
  subst hb; exact IsName_c s w hs
theorem Fold_t (s : ByteArray) (l : List UInt8) (hl : s.data.toList.map up = l) (hs : s.size ≤ maxLen) (w : World) :
    Calls Try.prog 13 #[.string s] w fun e w' => e = .returned (.string ⟨l.toArray⟩) ∧ Below w.heap.size w w' := by
  subst hl; exact Fold_c s w hs

theorem conv_lit (w : World) (C : Array Value) (n c : Nat) : (convert 25 25 (.slice (some ⟨w.heap.size, 0, none⟩) n c)).run Try.prog (w.alloc (.cells C 5)) = .ok (.slice (some ⟨w.heap.size, 0, none⟩) n c) (w.alloc (.cells C 5 (C.size, C.size + 1))) :=
  Lib.run_convert_bytes_const (P := Try.prog) w 25 5 C n c Try.underlying25 Try.underlying5
theorem conv_lit2 (w : World) (C C' : Array Value) (fr : Nat × Nat) (n c : Nat) : (convert 25 25 (.slice (some ⟨w.heap.size + 1, 0, none⟩) n c)).run Try.prog ((w.alloc (.cells C 5 fr)).alloc (.cells C' 5)) = .ok (.slice (some ⟨w.heap.size + 1, 0, none⟩) n c) ((w.alloc (.cells C 5 fr)).alloc (.cells C' 5 (C'.size, C'.size + 1))) := by
  have e : (w.alloc (.cells C 5 fr)).heap.size = w.heap.size + 1 := by simp
  have h := conv_lit (w.alloc (.cells C 5 fr)) C' n c
  rw [e] at h
  exact h

set_option maxHeartbeats 2000000 in
set_option maxRecDepth 100000 in
theorem lives_c (w : World) : Calls Try.prog 9 #[] w fun e w' => e = .returned (.bool true) ∧ Below w.heap.size w w' := by
  have hcv := conv_lit
  have hcv2 := conv_lit2
  go_enter Try.func9, Try.ntmps9
  go_wp2_with fail
  refine (IsDigits_t _ true (by decide +kernel) (by decide +kernel) _).mono ?_
  rintro e w' ⟨rfl, rfl⟩
  go_wp2_with fail
  refine (IsDigits_t _ false (by decide +kernel) (by decide +kernel) _).mono ?_
  rintro e w' ⟨rfl, rfl⟩
  go_wp2_with fail
  refine (IsDigits_t _ false (by decide +kernel) (by decide +kernel) _).mono ?_
  rintro e w' ⟨rfl, rfl⟩
  go_wp2_with fail
  refine (IsName_t _ true (by decide +kernel) (by decide +kernel) _).mono ?_
  rintro e w' ⟨rfl, rfl⟩
  go_wp2_with fail
  refine (IsName_t _ true (by decide +kernel) (by decide +kernel) _).mono ?_
  rintro e w' ⟨rfl, rfl⟩
  go_wp2_with fail
  refine (IsName_t _ false (by decide +kernel) (by decide +kernel) _).mono ?_
  rintro e w' ⟨rfl, rfl⟩
  go_wp2_with fail
  refine (IsName_t _ false (by decide +kernel) (by decide +kernel) _).mono ?_
  rintro e w' ⟨rfl, rfl⟩
  go_wp2_with fail
  refine (IsName_t _ false (by decide +kernel) (by decide +kernel) _).mono ?_
  rintro e w' ⟨rfl, rfl⟩
  go_wp2_with fail
  refine (Fold_t _ [65, 90, 45, 57, 123] (by decide +kernel) (by decide +kernel) _).mono ?_
  rintro e w1 ⟨rfl, b1⟩
  go_wp2_with fail
  refine (Fill_lit [97, 98] _ _ rfl 2 5 rfl (by omega) (by omega) (by omega) _).mono ?_
  rintro e w2 ⟨rfl, B1, h2⟩
  have B1 : Blk8 w2 _ [97, 98, 97, 98, 97] := B1
  have b2 := b1.trans (h2.mono b1.size)
  go_wp2_with fail
  refine (Fill_c none [] 0 0 0 0 _ (.inl rfl) (Nat.zero_le _) rfl (by unfold maxLen; omega) (by omega) (fun _ => rfl)).mono ?_
  rintro e w3 ⟨rfl, _, h3⟩
  have b3 := b2.trans (h3.mono b2.size)
  have B1 := B1.pass h3
  go_wp2_with fail
  refine (Fill_bad none 0 0 1 _ (by unfold maxLen; omega) (by omega) (by omega) (by decide)).mono ?_
  rintro e w' ⟨rfl, rfl⟩
  rw [show fillErr 0 1 = 5 from by decide]
  go_wp2_with fail
  refine (Fit_lit [97, 98, 99] _ _ rfl 3 5 false rfl (by omega) (by omega) _).mono ?_
  rintro e w4 ⟨rfl, B2, h4⟩
  have B2 : Blk8 w4 _ [97, 98, 99, 32, 32] := B2
  have b4 := b3.trans (h4.mono b3.size)
  have B1 := B1.pass h4
  go_wp2_with fail
  refine (Fit_lit [97, 98, 99] _ _ rfl 3 2 false rfl (by omega) (by omega) _).mono ?_
  rintro e w5 ⟨rfl, B3, h5⟩
  have B3 : Blk8 w5 _ [97, 98] := B3
  have b5 := b4.trans (h5.mono b4.size)
  have B1 := B1.pass h5
  have B2 := B2.pass h5
  go_wp2_with fail
  refine (Fit_lit [97, 98, 99] _ _ rfl 3 5 true rfl (by omega) (by omega) _).mono ?_
  rintro e w6 ⟨rfl, B4, h6⟩
  have B4 : Blk8 w6 _ [32, 32, 97, 98, 99] := B4
  have b6 := b5.trans (h6.mono b5.size)
  have B1 := B1.pass h6
  have B2 := B2.pass h6
  have B3 := B3.pass h6
  go_wp2_with fail
  refine (Fit_lit [97, 98, 99] _ _ rfl 3 2 true rfl (by omega) (by omega) _).mono ?_
  rintro e w7 ⟨rfl, B5, h7⟩
  have B5 : Blk8 w7 _ [98, 99] := B5
  have b7 := b6.trans (h7.mono b6.size)
  have B1 := B1.pass h7
  have B2 := B2.pass h7
  have B3 := B3.pass h7
  have B4 := B4.pass h7
  go_wp2_with fail
  refine (Bytes_c _ [97, 98, 97, 98, 97] 5 _ _ (B1.row.sl B1.lt) rfl).mono ?_
  rintro e w' ⟨rfl, rfl⟩
  go_wp2_with fail
  refine (Bytes_c _ [97, 98, 99, 32, 32] 5 _ _ (B2.row.sl B2.lt) rfl).mono ?_
  rintro e w' ⟨rfl, rfl⟩
  go_wp2_with fail
  refine (Bytes_c _ [97, 98] 2 _ _ (B3.row.sl B3.lt) rfl).mono ?_
  rintro e w' ⟨rfl, rfl⟩
  go_wp2_with fail
  refine (Bytes_c _ [32, 32, 97, 98, 99] 5 _ _ (B4.row.sl B4.lt) rfl).mono ?_
  rintro e w' ⟨rfl, rfl⟩
  go_wp2_with fail
  refine (Bytes_c _ [98, 99] 2 _ _ (B5.row.sl B5.lt) rfl).mono ?_
  rintro e w' ⟨rfl, rfl⟩
  go_wp2_with fail
  refine (Trim_lit [32, 97, 32, 32] _ _ rfl 4 rfl (by omega) 2 (by decide +kernel) _).mono ?_
  rintro e w8 ⟨rfl, B6, h8⟩
  have B6 : Blk8 w8 _ [32, 97] := B6
  have b8 := b7.trans (h8.mono b7.size)
  go_wp2_with fail
  refine (Bytes_c _ [32, 97] 2 _ _ (B6.row.sl B6.lt) rfl).mono ?_
  rintro e w' ⟨rfl, rfl⟩
  go_wp2_with fail
  refine (Compare_lit [65, 66] [65, 66, 32] _ _ _ _ rfl rfl 2 3 rfl rfl (by omega) (by omega) 0 (by decide +kernel) _).mono ?_
  rintro e w9 ⟨rfl, c9⟩
  have b9 : Below w.heap.size w w9 := by
    rw [← c9]
    exact (b8.alloc b8.size _).alloc (by have := b8.size; simp; omega) _
  clear c9
  go_wp2_with fail
  refine (Compare_lit [65] [65, 33] _ _ _ _ rfl rfl 1 2 rfl rfl (by omega) (by omega) (-1) (by decide +kernel) _).mono ?_
  rintro e w10 ⟨rfl, c10⟩
  have b10 : Below w.heap.size w w10 := by
    rw [← c10]
    exact (b9.alloc b9.size _).alloc (by have := b9.size; simp; omega) _
  clear c10
  go_wp2_with fail
  refine (Compare_lit [66] [65, 126] _ _ _ _ rfl rfl 1 2 rfl rfl (by omega) (by omega) 1 (by decide +kernel) _).mono ?_
  rintro e w11 ⟨rfl, c11⟩
  have b11 : Below w.heap.size w w11 := by
    rw [← c11]
    exact (b10.alloc b10.size _).alloc (by have := b10.size; simp; omega) _
  clear c11
  go_wp2_with fail
  refine (Compare_lit [65] [65, 0] _ _ _ _ rfl rfl 1 2 rfl rfl (by omega) (by omega) 1 (by decide +kernel) _).mono ?_
  rintro e w12 ⟨rfl, c12⟩
  have b12 : Below w.heap.size w w12 := by
    rw [← c12]
    exact (b11.alloc b11.size _).alloc (by have := b11.size; simp; omega) _
  clear c12
  go_wp2_with fail
  go_ret
  exact ⟨rfl, b12⟩
end Go.Proofs.Ytlhkekdhgpmpaaa
