/-
  THE CONTRACT of Write at one line that is right (layer 2, columns).
-/
import Derived.Test.YteceealibfemjaaDoorBuf
namespace Go.Proofs.YteceealibfemjaaDoor
open Go.RowKit Go.Shelf
attribute [local go_sem] Oper.semAt_some

theorem outL_append (n : Nat) (a b : List (List UInt8 × List UInt8)) : outL n (a ++ b) = outL n a ++ outL (n + a.length) b := by
  induction a generalizing n with
  | nil => simp [outL]
  | cons q r ih =>
    simp only [List.cons_append, outL, ih, List.length_cons, List.append_assoc]
    rw [show n + 1 + r.length = n + (r.length + 1) by omega]
theorem outL_prefix {a b : List (List UInt8 × List UInt8)} (h : a <+: b) : (outL 0 a).length ≤ (outL 0 b).length := by
  obtain ⟨r, rfl⟩ := h
  rw [outL_append, List.length_append]; omega

theorem outL_count (n : Nat) (a : List (List UInt8 × List UInt8)) : a.length ≤ (outL n a).length := by
  induction a generalizing n with
  | nil => exact Nat.zero_le _
  | cons q r ih => have := ih (n + 1); simp [outL]; omega
theorem pieces_ne (f r : List UInt8) (op : Bool) : piecesL f r op ≠ [] := by
  rw [piecesL]; split <;> simp

/-- what holds between two output lines; k lines of output stood there before, with the bytes bs -/
structure WrI (n0 m : Nat) (w : World) (ps0 : List (List UInt8 × List UInt8)) (pre : List (List UInt8 × List UInt8)) (W : World) : Prop where
  buf : BufAt (m + 1 + 1 + 1 + 1) m W (outL 0 (ps0 ++ pre))
  num : Blk W (m + 1) #[.int .i64 ((ps0 ++ pre).length : Int)] 3
  rs : Blk W n0 #[.string ⟨#[]⟩] 9
  er : Blk W (n0 + 1) #[.int .i64 0] 24
  bel : Below n0 w W
  siz : m + 1 + 1 + 1 + 1 ≤ W.heap.size
  low : n0 + 1 < m
theorem WrI.mods {n0 m : Nat} {w W W' : World} {ps0 pre : List (List UInt8 × List UInt8)} {M : Nat → Prop} (h : WrI n0 m w ps0 pre W) (hm : Mods M W W') (hM : ∀ j, M j → m + 1 + 1 ≤ j ∧ (j < m + 1 + 1 + 1 + 1 ∨ ∀ o, W.heap[j]? = some o → elemT o ≠ some 5)) : WrI n0 m w ps0 pre W' := by
  have hl := h.low
  have hs := h.siz
  exact ⟨h.buf.mods hm (fun j hj => ⟨by have := (hM j hj).1; omega, (hM j hj).2⟩), h.num.mods hm (fun e => by have := (hM _ e).1; omega), h.rs.mods hm (fun e => by have := (hM _ e).1; omega), h.er.mods hm (fun e => by have := (hM _ e).1; omega),
    h.bel.trans (hm.toBelow (by omega) (fun i hi e => by have := (hM _ e).1; omega)), Nat.le_trans hs hm.size, hl⟩
theorem elem_cells {o : Obj} (h : o.isCells = false) : elemT o ≠ some 5 := by
  cases o with
  | cells cs t f => simp [Obj.isCells] at h
  | _ => simp [elemT]

set_option maxHeartbeats 4000000 in
set_option maxRecDepth 100000 in
theorem Write_one (left : Bool) (s : ByteArray) (b off c : Nat) (w : World) (hs : s.size ≤ 2000000) (hc0 : w.cell? ⟨b, off, none⟩ = some (.bool left)) (hc1 : w.cell? ⟨b, off + 1, none⟩ = some (.string s)) (hb : b < w.heap.size) (hok : rightL s.data.toList = true)
    (htab : Lib.TabIs Tryd.prog w "internal/strconv.uint64pow10" .u64 Lib.pow10Tab) (htot : (outL 0 (piecesL (frontL left) s.data.toList false)).length ≤ 1048576) :
    Calls Tryd.prog 6 #[.slice (some ⟨b, off, none⟩) 1 c] w fun e w' => e = .returned (.tuple #[.string (mk (outL 0 (piecesL (frontL left) s.data.toList false))), .int .i64 0]) ∧ Below w.heap.size w w' := by
  obtain ⟨xs, hxs⟩ : ∃ xs, xs = piecesL (frontL left) s.data.toList false := ⟨_, rfl⟩
  rw [← hxs] at htot ⊢
  have HXS := hide hxs
  clear hxs
  have hW := hide (fun (w1 : World) => writable_c s w1 hs)
  rw [hok] at hW
  refine (callsIn_wide (n := 10)).1 (callsIn_of_wp_marks Tryd.func6 rfl trivial ?_ rfl)
  simp only [Tryd.ntmps6, List.size_toArray, List.length_cons, List.length_nil, Nat.reduceAdd, Nat.reduceSub, Array.replicate_succ, Array.replicate_zero, List.push_toArray, List.append_toArray, List.nil_append, List.cons_append]
  refine wpIn_wide.2 ?_
  go_wp2_with fail
  refine wp_loop_rounds 2 ?_
  rw [rounds_succ]
  go_wp2_with fail
  refine (hW.out _).mono ?_
  rintro e w1 ⟨rfl, hb1⟩
  have hA := (Blk.alloc (Blk.alloc (blk_new w #[.string ⟨#[]⟩] 9) (.cells #[.int .i64 0] 24)) (.cells #[.bool left, .string s] 28))
  have hB := Blk.alloc (blk_new (w.alloc (.cells #[.string ⟨#[]⟩] 9)) #[.int .i64 0] 24) (.cells #[.bool left, .string s] 28)
  rw [World.size_alloc] at hB
  have hA1 := hide (blk_kept hb1 hA)
  have hB1 := hide (blk_kept hb1 hB)
  have hB3 := (((Below.refl _ w).alloc (Nat.le_refl _) (.cells #[.string ⟨#[]⟩] 9)).alloc (by simp) (.cells #[.int .i64 0] 24)).alloc (by simp; omega) (.cells #[.bool left, .string s] 28)
  have HB := hide (hB3.trans (hb1.mono hB3.size))
  have hw1 : w.heap.size + 1 + 1 + 1 ≤ w1.heap.size := by have := hb1.size; simpa using this
  have hc2 : w1.cell? ⟨b, off, none⟩ = some (.bool left) := (World.cell?_of_block (HB.out.block b hb)).trans hc0
  have hc3 : w1.cell? ⟨b, off + 1, none⟩ = some (.string s) := (World.cell?_of_block (HB.out.block b hb)).trans hc1
  have hbw1 : b < w1.heap.size := by omega
  clear hA hB hb1 hB3 hc0 hc1
  go_wp2_with fail
  rw [rounds_succ]
  go_wp2_with fail
  refine wp_loop_rounds 2 ?_
  rw [rounds_succ]
  go_wp2_with fail
  refine (divide_mk left s _).mono ?_
  rintro e w2 ⟨rfl, rfl⟩
  go_wp2_with fail
  obtain ⟨W0, hW0⟩ : ∃ W0, W0 = ((((w1.alloc (.cells #[.pointer none, .slice none 0 0] 46)).alloc (.cells #[.int .i64 0] 3)).alloc (.cells #[.bool left, .string s] 28)).alloc (.cells #[.bool left, .string s] 28)) := ⟨_, rfl⟩
  have hsz : W0.heap.size = w1.heap.size + 1 + 1 + 1 + 1 := by rw [hW0]; simp
  have hbx : Blk W0 (w1.heap.size + 1 + 1 + 1) #[.bool left, .string s] 28 := by
    rw [hW0]
    have := blk_new (((w1.alloc (.cells #[.pointer none, .slice none 0 0] 46)).alloc (.cells #[.int .i64 0] 3)).alloc (.cells #[.bool left, .string s] 28)) #[.bool left, .string s] 28
    simpa using this
  have hI0 : WrI w.heap.size w1.heap.size w [] [] W0 := by
    have n1 := ((blk_new (w1.alloc (.cells #[.pointer none, .slice none 0 0] 46)) #[.int .i64 0] 3).alloc (.cells #[.bool left, .string s] 28)).alloc (.cells #[.bool left, .string s] 28)
    rw [World.size_alloc] at n1
    have b1 : Blk W0 w1.heap.size #[.pointer none, .slice none 0 0] 46 := by
      rw [hW0]; exact ((((blk_new w1 #[.pointer none, .slice none 0 0] 46).alloc _).alloc _).alloc _)
    refine ⟨⟨_, _, b1, .inl rfl, World.ownsRow_nil _ _ _ _⟩, by rw [hW0]; exact n1, ?_, ?_, ?_, by omega, by omega⟩
    · rw [hW0]; exact (((hA1.out.alloc _).alloc _).alloc _).alloc _
    · rw [hW0]; exact (((hB1.out.alloc _).alloc _).alloc _).alloc _
    · rw [hW0]; exact ((((HB.out.alloc (by omega) _).alloc (by simp; omega) _).alloc (by simp; omega) _).alloc (by simp; omega) _)
  have hseq := divide_seq 9 _ left s W0 hs (by omega) hbx
  have HI0 := hide hI0
  clear hbx hI0
  rw [← hW0]
  rw [← HXS.out] at hseq
  refine (wpIn_wide (n := 10)).1 ?_
  refine wpIn_rangeFunc_C (n := 10) (F := Fence.wide) rfl (by omega) (gf := 32) (lb := #[.pointer (some ⟨w1.heap.size + 1 + 1 + 1, 0, none⟩)]) rfl trivial (enters_of Tryd.func32 (by kernel_rfl) rfl)
    hseq (by omega) (Below.refl _ _) (fun _ => rfl) (WrI w.heap.size w1.heap.size w []) (fun _ _ _ => False) ?hI ?hIx ?hIb ?hIxb HI0.out (fun x => { tmps := #[(.slice (some ⟨b, off, none⟩) 1 c), undef, .pointer (some ⟨w.heap.size, 0, none⟩), .pointer (some ⟨w.heap.size + 1, 0, none⟩), undef, .pointer (some ⟨w.heap.size + 1 + 1, 0, none⟩), .pointer (some ⟨w1.heap.size, 0, none⟩), .pointer (some ⟨w1.heap.size + 1, 0, none⟩), undef, .pointer (some ⟨w1.heap.size + 1 + 1, 0, none⟩), .string (mk x.1), .string (mk x.2), .slice (some ⟨b, off, none⟩) 1 c, .int .i64 1, .int .i64 1, .bool false, .pointer (some ⟨b, off, none⟩), .agg #[.bool left, .string s], .pointer (some ⟨w.heap.size + 1 + 1, 1, none⟩), .string s, .bool true, .bool false, .int .i64 1, .slice (some ⟨b, off, none⟩) 1 c, .int .i64 1, .int .i64 0, .bool true, .pointer (some ⟨b, off, none⟩), .agg #[.bool left, .string s], .agg #[.bool left, .string s], .func (.func 32) #[] #[.pointer (some ⟨w1.heap.size + 1 + 1 + 1, 0, none⟩)], .string (mk x.1), .string (mk x.2), undef, undef, undef, undef, undef, undef, undef, undef, undef, undef, undef, undef, undef, undef], defers := [] }) ?assign ?body ?done ?stop
  case hI =>
    intro pre W W' row h hg hr
    exact h.mods (Mods.of_grown hg) (fun j hj => by
      obtain ⟨h1, o, ho, hc⟩ := hr j hj
      exact ⟨by omega, .inr (fun o' ho' => by obtain rfl := Option.some.inj (ho.symm.trans ho'); exact elem_cells hc)⟩)
  case hIx => exact fun c pre W W' row h hg hr => h
  case hIb =>
    intro pre W W' h hg
    exact h.mods (Mods.of_grown hg) (fun j hj => by injection hj with hj; subst hj; exact ⟨by omega, .inl (by omega)⟩)
  case hIxb => exact fun c pre W W' h hg => h
  case assign =>
    intro l x W K hK
    simp only [encP]
    gi_wp2
    exact hK
  case stop => exact fun D c pre W hD hp hx => hx.elim
  case body =>
    intro l pre x W hl hi hpre
    have hsz6 := hi.siz
    have hlow := hi.low
    have hbel := hi.bel
    have htb := hide (fun (w5 : World) (h : Below w.heap.size w w5) => tab_below htab h)
    have hlen := outL_prefix hpre
    have hsn := outL_snoc 0 pre x
    rw [Nat.zero_add] at hsn
    have hpl : pre.length + 1 ≤ 1048576 := by
      have := outL_count 0 (pre ++ [x])
      rw [List.length_append, List.length_singleton] at this
      omega
    have hn0 : W.cell? ⟨w1.heap.size + 1, 0, none⟩ = some (.int .i64 (pre.length : Int)) := hi.num.cell 0
    have hnf := hi.num.free 0
    have hwr : IntKind.i64.wrap ((pre.length : Int) + 1) = (pre.length : Int) + 1 := IntWalk.i64_in _ (by omega)
    have hlt4 := hi.num.lt
    have hd : Hid (∀ w5 : World, Below w.heap.size w w5 → Calls Tryd.prog 17 #[.int .i64 ((pre.length : Int) + 1)] w5 fun e w' => e = .returned (.string (mk (numL (pre.length + 1)))) ∧ Below w5.heap.size w5 w') :=
      fun w5 h => wdigits_c (pre.length + 1) w5 (by omega) (tab_below htab h)
    have hb0 := hi.buf
    rw [List.nil_append] at hb0
    obtain ⟨D, hD⟩ : ∃ D, D = mk (numL (pre.length + 1)) := ⟨_, rfl⟩
    obtain ⟨F, hF⟩ : ∃ F, F = mk x.1 := ⟨_, rfl⟩
    obtain ⟨P, hP⟩ : ∃ P, P = mk x.2 := ⟨_, rfl⟩
    have hDl : D.data.toList = numL (pre.length + 1) := by rw [hD]; rfl
    have hFl : F.data.toList = x.1 := by rw [hF]; rfl
    have hPl : P.data.toList = x.2 := by rw [hP]; rfl
    rw [← hDl, ← hFl, ← hPl] at hsn
    have hln : (outL 0 pre).length + (D.size + F.size + P.size + 1) ≤ 1048576 := by
      have := congrArg List.length hsn
      simp only [List.length_append, len_data, List.length_singleton] at this
      omega
    rw [← hD] at hd
    simp only [← hF, ← hP]
    have n1 := fun wx : World => run_string_add_sum (P := Tryd.prog) wx D F (by omega)
    have n2 := fun wx : World => run_string_add_sum (P := Tryd.prog) wx (D ++ F) P (by rw [ByteArray.size_append]; omega)
    have n3 := fun wx : World => run_string_add_sum (P := Tryd.prog) wx (D ++ F ++ P) ⟨#[10]⟩ (by rw [ByteArray.size_append, ByteArray.size_append]; show D.size + F.size + P.size + 1 ≤ _; omega)
    have hLs : (D ++ F ++ P ++ ⟨#[10]⟩ : ByteArray).size = D.size + F.size + P.size + 1 := by rw [ByteArray.size_append, ByteArray.size_append, ByteArray.size_append]; rfl
    have hLd : (outL 0 pre) ++ (D ++ F ++ P ++ ⟨#[10]⟩ : ByteArray).data.toList = outL 0 (pre ++ [x]) := by
      rw [hsn]; simp [List.append_assoc]
    have HI := hide hi
    have HB0 := hide hb0
    have HLD := hide hLd
    have HLS := hide hLs
    have HPRE := hide hpre
    clear hi hseq htab hD hF hP hDl hFl hPl hsn hLd hLs hb0 hlen hpre htb
    gi_wp2
    refine ⟨trivial, CallsIn.inRound l (callsIn_wide.2 ((hd.out _ (hbel.setCell (by show w.heap.size ≤ w1.heap.size + 1; omega) _)).mono ?_))⟩
    rintro e w2 ⟨rfl, hb2⟩
    have hmW : Mods (· = w1.heap.size + 1) W (W.setCell ⟨w1.heap.size + 1, 0, none⟩ (.int .i64 ((pre.length : Int) + 1))) := (Mods.refl (· = w1.heap.size + 1) W).set _ _ _ (fun _ => rfl)
    have hm2 : Mods (· = w1.heap.size + 1) W w2 := hmW.below hb2
    have hs2 := hm2.size
    have hbf2 : BufAt (w1.heap.size + 1 + 1 + 1 + 1) w1.heap.size w2 (outL 0 pre) := HB0.out.mods hm2 (fun j hj => ⟨by omega, .inl (by omega)⟩)
    have hnu2 : Blk w2 (w1.heap.size + 1) #[.int .i64 ((pre.length : Int) + 1)] 3 := Blk.mods (by simpa using HI.out.num.set 0 (.int .i64 ((pre.length : Int) + 1)) : Blk (W.setCell ⟨w1.heap.size + 1, 0, none⟩ (.int .i64 ((pre.length : Int) + 1))) (w1.heap.size + 1) #[.int .i64 ((pre.length : Int) + 1)] 3) (Mods.of_below hb2) id
    have HBW := hide (buf_write (w1.heap.size + 1 + 1 + 1 + 1) w1.heap.size w2 (outL 0 pre) (D ++ F ++ P ++ ⟨#[10]⟩) hbf2 (by omega) (by rw [HLS.out]; omega))
    have HM2 := hide hm2
    have HN2 := hide hnu2
    clear hmW hm2 hbf2 hnu2 hb2
    gi_wp2
    refine ⟨trivial, CallsIn.inRound l (callsIn_wide.2 (HBW.out.mono ?_))⟩
    rintro e w3 ⟨rfl, hbf3, hm3⟩
    rw [HLD.out] at hbf3
    have hcmp : ¬ (1048576 : Int) < ((outL 0 (pre ++ [x])).length : Int) := by have := outL_prefix HPRE.out; omega
    have HB3 := hide hbf3
    have HM3 := hide hm3
    clear hbf3 hm3
    gi_wp2
    refine ⟨trivial, CallsIn.inRound l (callsIn_wide.2 ((buf_len _ _ w3 _ HB3.out).mono ?_))⟩
    rintro e w4 ⟨rfl, rfl⟩
    gi_wp2
    have hmT : Mods (fun j => j = w1.heap.size + 1 ∨ j = w1.heap.size ∨ (w1.heap.size + 1 + 1 + 1 + 1 ≤ j ∧ ∃ o, W.heap[j]? = some o ∧ elemT o = some 5)) W w3 :=
      (HM2.out.weak (fun i _ e => .inl e)).trans' HM3.out (fun i hi hM => by
        rcases hM with e | ⟨hB, o, ho, he⟩
        · exact .inr (.inl e)
        · exact .inr (.inr ⟨hB, o, (HM2.out.block i hi (by omega)).symm.trans ho, he⟩))
    have h3s := hmT.size
    refine ⟨⟨hmT.size, fun k o hk ho hc => (hmT.block k (Array.getElem?_eq_some_iff.1 ho).1 ?_).trans ho⟩, hmT.block _ (by omega) ?_, ⟨by rw [List.nil_append]; exact HB3.out, ?_, HI.out.rs.mods hmT ?_, HI.out.er.mods hmT ?_, HI.out.bel.trans (hmT.toBelow (by omega) ?_), by omega, hlow⟩⟩
    · rintro (e | e | ⟨_, o', ho', he⟩)
      · omega
      · omega
      · obtain rfl := Option.some.inj (ho.symm.trans ho')
        exact elem_cells hc he
    · rintro (e | e | ⟨e, _⟩) <;> omega
    · rw [List.nil_append, List.length_append, List.length_singleton]
      exact HN2.out.mods HM3.out (by rintro (e | ⟨e, _⟩) <;> omega)
    · rintro (e | e | ⟨e, _⟩) <;> omega
    · rintro (e | e | ⟨e, _⟩) <;> omega
    · rintro i hi (e | e | ⟨e, _⟩) <;> omega
  case done =>
    intro D W hD hi hDK
    obtain ⟨p, v, hb1, hb2, hb3⟩ := hi.buf
    have hne : outL 0 ([] ++ xs) ≠ [] := by
      intro e
      have h1 := outL_count 0 ([] ++ xs)
      rw [e, List.nil_append] at h1
      have h2 := List.length_pos_iff.2 (pieces_ne (frontL left) s.data.toList false)
      rw [← HXS.out] at h2
      simp at h1
      rw [h1] at h2
      simp at h2
    have hrs := hi.rs
    have her := hi.er
    have HBS := hide (bString_c _ w1.heap.size 0 46 _ v (outL 0 ([] ++ xs)) W (bin_of_buf hb1 rfl) rfl hb3 hne (by rw [List.nil_append]; omega))
    have HI := hide hi
    have HDK := hide hDK
    have HOW := hide hb3
    have hlow := hi.low
    have hsz6 := hi.siz
    have HRS := hide hrs
    have HER := hide her
    clear hi hDK hb1 hb2 hb3 hne hrs her hseq
    gi_wp2
    go_wp2_with fail
    rw [rounds_succ]
    go_wp2_with fail
    refine HBS.out.mono ?_
    rintro e w4 ⟨rfl, hm4⟩
    have hno : ∀ j, v.ownBlock = some j → w1.heap.size + 1 + 1 + 1 + 1 ≤ j ∧ ∃ o, W.heap[j]? = some o ∧ elemT o = some 5 := fun j hj => by
      obtain ⟨o, ho, he, hB⟩ := own_elem HOW.out j hj
      exact ⟨hB, o, ho, he⟩
    have hrs4 := HRS.out.mods hm4 (fun e => by have := (hno _ e).1; omega)
    have her4 := HER.out.mods hm4 (fun e => by have := (hno _ e).1; omega)
    have a0 := hrs4.cell 0
    have a1 := hrs4.free 0
    have b0 := her4.cell 0
    have b1 := her4.free 0
    have HM4 := hide hm4
    have HN := hide hno
    have HR4 := hide hrs4
    have HE4 := hide her4
    clear hm4 hno hrs4 her4
    go_wp2_with fail
    have hDl := lt_of_block HDK.out
    have hK4 := (HM4.out.block D hDl (fun e => by
      obtain ⟨_, o, ho, he⟩ := HN.out D e
      obtain rfl := Option.some.inj (HDK.out.symm.trans ho)
      cases he)).trans HDK.out
    have hmS : Mods (fun k => k = w.heap.size ∨ k = w.heap.size + 1) w4 ((w4.setCell ⟨w.heap.size, 0, none⟩ (.string (mk (outL 0 xs)))).setCell ⟨w.heap.size + 1, 0, none⟩ (.int .i64 0)) :=
      ((Mods.refl (fun k => k = w.heap.size ∨ k = w.heap.size + 1) w4).set w.heap.size 0 (.string (mk (outL 0 xs))) (fun _ => .inl rfl)).set (w.heap.size + 1) 0 (.int .i64 0) (fun _ => .inr rfl)
    have h4s := HM4.out.size
    have hK5 := (hmS.block D (by omega) (by omega)).trans hK4
    refine ⟨by simp, .inl ⟨_, _, rfl, run_takeDeferred hK5, ?_⟩⟩
    have hmP : ∀ W1 : World, Mods (· = D) W1 (W1.putObj D (.deferred none)) := fun W1 => (Mods.of_grown (grownBy_putObj' W1 D (.deferred none))).weak (fun i _ e => by injection e with e; exact e.symm)
    have hr5 : Blk _ w.heap.size #[.string (mk (outL 0 xs))] 9 := ((HR4.out.set 0 (.string (mk (outL 0 xs)))).mods ((Mods.refl (· = w.heap.size + 1) _).set (w.heap.size + 1) 0 (.int .i64 0) (fun _ => rfl)) (by omega)).mods (hmP _) (by omega)
    have he5 : Blk _ (w.heap.size + 1) #[.int .i64 0] 24 := ((HE4.out.mods ((Mods.refl (· = w.heap.size) w4).set w.heap.size 0 (.string (mk (outL 0 xs))) (fun _ => rfl)) (by omega)).set 0 (.int .i64 0)).mods (hmP _) (by omega)
    have z0 := hr5.cell 0
    have z1 := he5.cell 0
    refine ⟨.tuple #[.string (mk (outL 0 xs)), .int .i64 0], by simp [results, Tryd.results6, go_sem, z0, z1], rfl, ?_⟩
    refine ((HI.out.bel.trans (HM4.out.toBelow (by omega) (fun i hi e => by have := (HN.out i e).1; omega))).trans (hmS.toBelow (by omega) (fun i hi e => by omega))).trans ((hmP _).toBelow ?_ (fun i hi e => by omega))
    have := hmS.size
    omega
end Go.Proofs.YteceealibfemjaaDoor
