/-
  THE CONTRACT of Write at two lines that are right (layer 2, columns). 
-/
import Derived.Test.YteceealibfemjaaDoorWr2
import Derived.Test.YteceealibfemjaaDoorDvdN
namespace Go.Proofs.YteceealibfemjaaDoor
open Go.RowKit Go.Shelf
attribute [local go_sem] Oper.semAt_some

set_option maxHeartbeats 4000000 in
set_option maxRecDepth 100000 in
theorem Write_two (left left2 : Bool) (s t : ByteArray) (b off c : Nat) (w : World) (hs : s.size ≤ 2000000) (ht : t.size ≤ 2000000) (hc0 : w.cell? ⟨b, off, none⟩ = some (.bool left)) (hc1 : w.cell? ⟨b, off + 1, none⟩ = some (.string s)) (hc2 : w.cell? ⟨b, off + 2, none⟩ = some (.bool left2)) (hc3 : w.cell? ⟨b, off + 3, none⟩ = some (.string t)) (hb : b < w.heap.size) (hok : rightL s.data.toList = true) (hok2 : rightL t.data.toList = true)
    (htab : Lib.TabIs Tryd.prog w "internal/strconv.uint64pow10" .u64 Lib.pow10Tab) (htot : (outL 0 (piecesL (frontL left) s.data.toList false ++ piecesL (frontL left2) t.data.toList false)).length ≤ 1048576) :
    Calls Tryd.prog 6 #[.slice (some ⟨b, off, none⟩) 2 c] w fun e w' => e = .returned (.tuple #[.string (mk (outL 0 (piecesL (frontL left) s.data.toList false ++ piecesL (frontL left2) t.data.toList false))), .int .i64 0]) ∧ Below w.heap.size w w' := by
  obtain ⟨xs, hxs⟩ : ∃ xs, xs = piecesL (frontL left) s.data.toList false := ⟨_, rfl⟩
  obtain ⟨ys, hys⟩ : ∃ ys, ys = piecesL (frontL left2) t.data.toList false := ⟨_, rfl⟩
  rw [← hxs, ← hys] at htot ⊢
  have HXS := hide hxs
  have HYS := hide hys
  clear hxs hys
  have hW := hide (fun (w1 : World) => writable_c s w1 hs)
  rw [hok] at hW
  have hW2 := hide (fun (w1 : World) => writable_c t w1 ht)
  rw [hok2] at hW2
  refine (callsIn_wide (n := 10)).1 (callsIn_of_wp_marks Tryd.func6 rfl trivial ?_ rfl)
  simp only [Tryd.ntmps6, List.size_toArray, List.length_cons, List.length_nil, Nat.reduceAdd, Nat.reduceSub, Array.replicate_succ, Array.replicate_zero, List.push_toArray, List.append_toArray, List.nil_append, List.cons_append]
  refine wpIn_wide.2 ?_
  go_wp2_with fail
  refine wp_loop_rounds 3 ?_
  rw [rounds_succ]
  go_wp2_with fail
  refine (hW.out _).mono ?_
  rintro e w1 ⟨rfl, hb1⟩
  have hA := (Blk.alloc (Blk.alloc (blk_new w #[.string ⟨#[]⟩] 9) (.cells #[.int .i64 0] 24)) (.cells #[.bool left, .string s] 28))
  have hB := Blk.alloc (blk_new (w.alloc (.cells #[.string ⟨#[]⟩] 9)) #[.int .i64 0] 24) (.cells #[.bool left, .string s] 28)
  rw [World.size_alloc] at hB
  have hB3 := (((Below.refl _ w).alloc (Nat.le_refl _) (.cells #[.string ⟨#[]⟩] 9)).alloc (by simp) (.cells #[.int .i64 0] 24)).alloc (by simp; omega) (.cells #[.bool left, .string s] 28)
  have hw1 : w.heap.size + 1 + 1 + 1 ≤ w1.heap.size := by have := hb1.size; simpa using this
  have HB1 := hide ((hB3.trans (hb1.mono hB3.size)).alloc (hB3.trans (hb1.mono hB3.size)).size (.cells #[.bool left2, .string t] 28))
  have hA1 := hide (Blk.alloc (blk_kept hb1 hA) (.cells #[.bool left2, .string t] 28))
  have hB1 := hide (Blk.alloc (blk_kept hb1 hB) (.cells #[.bool left2, .string t] 28))
  have hbk := (hB3.trans (hb1.mono hB3.size)).block b hb
  have hd2 : w1.cell? ⟨b, off + 2, none⟩ = some (.bool left2) := (World.cell?_of_block hbk).trans hc2
  have hd3 : w1.cell? ⟨b, off + 2 + 1, none⟩ = some (.string t) := (World.cell?_of_block hbk).trans hc3
  have hbw : b < w1.heap.size := by omega
  clear hA hB hb1 hB3 hbk
  go_wp2_with fail
  rw [rounds_succ]
  go_wp2_with fail
  refine (hW2.out _).mono ?_
  rintro e wb ⟨rfl, hb2⟩
  have HB2 := hide (HB1.out.trans (hb2.mono HB1.out.size))
  have hA2 := hide (blk_kept hb2 hA1.out)
  have hB2 := hide (blk_kept hb2 hB1.out)
  have hw2 : w.heap.size + 1 + 1 + 1 + 1 ≤ wb.heap.size := by have := hb2.size; simp at this; omega
  have hbk := HB2.out.block b hb
  have hf0 : wb.cell? ⟨b, off, none⟩ = some (.bool left) := (World.cell?_of_block hbk).trans hc0
  have hf1 : wb.cell? ⟨b, off + 1, none⟩ = some (.string s) := (World.cell?_of_block hbk).trans hc1
  have hf2 : wb.cell? ⟨b, off + 2, none⟩ = some (.bool left2) := (World.cell?_of_block hbk).trans hc2
  have hf3 : wb.cell? ⟨b, off + 2 + 1, none⟩ = some (.string t) := (World.cell?_of_block hbk).trans hc3
  have hbw2 : b < wb.heap.size := by omega
  clear hA1 hB1 HB1 hb2 hbk hd2 hd3 hc0 hc1 hc2 hc3 hW hW2
  go_wp2_with fail
  rw [rounds_succ]
  go_wp2_with fail
  refine wp_loop_rounds 3 ?_
  rw [rounds_succ]
  go_wp2_with fail
  refine (divide_mk left s _).mono ?_
  rintro e w5 ⟨rfl, rfl⟩
  go_wp2_with fail
  obtain ⟨W0, hW0⟩ : ∃ W0, W0 = ((((wb.alloc (.cells #[.pointer none, .slice none 0 0] 46)).alloc (.cells #[.int .i64 0] 3)).alloc (.cells #[.bool left, .string s] 28)).alloc (.cells #[.bool left, .string s] 28)) := ⟨_, rfl⟩
  have hsz : W0.heap.size = wb.heap.size + 1 + 1 + 1 + 1 := by rw [hW0]; simp
  have hbx : Blk W0 (wb.heap.size + 1 + 1 + 1) #[.bool left, .string s] 28 := by
    rw [hW0]
    have := blk_new (((wb.alloc (.cells #[.pointer none, .slice none 0 0] 46)).alloc (.cells #[.int .i64 0] 3)).alloc (.cells #[.bool left, .string s] 28)) #[.bool left, .string s] 28
    simpa using this
  have hI0 : WrI w.heap.size wb.heap.size w [] [] W0 := by
    have n1 := ((blk_new (wb.alloc (.cells #[.pointer none, .slice none 0 0] 46)) #[.int .i64 0] 3).alloc (.cells #[.bool left, .string s] 28)).alloc (.cells #[.bool left, .string s] 28)
    rw [World.size_alloc] at n1
    have b1 : Blk W0 wb.heap.size #[.pointer none, .slice none 0 0] 46 := by
      rw [hW0]; exact ((((blk_new wb #[.pointer none, .slice none 0 0] 46).alloc _).alloc _).alloc _)
    refine ⟨⟨_, _, b1, .inl rfl, World.ownsRow_nil _ _ _ _⟩, by rw [hW0]; exact n1, ?_, ?_, ?_, by omega, by omega⟩
    · rw [hW0]; exact (((hA2.out.alloc _).alloc _).alloc _).alloc _
    · rw [hW0]; exact (((hB2.out.alloc _).alloc _).alloc _).alloc _
    · rw [hW0]; exact ((((HB2.out.alloc (by omega) _).alloc (by simp; omega) _).alloc (by simp; omega) _).alloc (by simp; omega) _)
  have hseq := divide_seqN 9 _ left s W0 hs (by omega) hbx
  have HI0 := hide hI0
  clear hbx hI0
  rw [← hW0]
  rw [← HXS.out] at hseq
  refine (wpIn_wide (n := 10)).1 ?_
  refine wpIn_rangeFunc_N (n := 10) (F := Fence.wide) rfl (by omega) (gf := 32) (lb := #[.pointer (some ⟨wb.heap.size + 1 + 1 + 1, 0, none⟩)]) rfl trivial (enters_of Tryd.func32 (by kernel_rfl) rfl)
    hseq (by omega) (Below.refl _ _) (fun _ => rfl) (WrI w.heap.size wb.heap.size w []) (fun _ _ _ => False) ?hI ?hIx ?hIb ?hIxb HI0.out (fun x => { tmps := #[(.slice (some ⟨b, off, none⟩) 2 c), undef, .pointer (some ⟨w.heap.size, 0, none⟩), .pointer (some ⟨w.heap.size + 1, 0, none⟩), undef, .pointer (some ⟨w1.heap.size, 0, none⟩), .pointer (some ⟨wb.heap.size, 0, none⟩), .pointer (some ⟨wb.heap.size + 1, 0, none⟩), undef, .pointer (some ⟨wb.heap.size + 1 + 1, 0, none⟩), .string (mk x.1), .string (mk x.2), .slice (some ⟨b, off, none⟩) 2 c, .int .i64 2, .int .i64 2, .bool false, .pointer (some ⟨b, off + 2, none⟩), .agg #[.bool left2, .string t], .pointer (some ⟨w1.heap.size, 1, none⟩), .string t, .bool true, .bool false, .int .i64 2, .slice (some ⟨b, off, none⟩) 2 c, .int .i64 2, .int .i64 0, .bool true, .pointer (some ⟨b, off, none⟩), .agg #[.bool left, .string s], .agg #[.bool left, .string s], .func (.func 32) #[] #[.pointer (some ⟨wb.heap.size + 1 + 1 + 1, 0, none⟩)], .string (mk x.1), .string (mk x.2), undef, undef, undef, undef, undef, undef, undef, undef, undef, undef, undef, undef, undef, undef], defers := [] }) ?assign ?body ?done ?stop
  case hI =>
    intro pre W W' row h hg hr
    exact h.mods (Mods.of_grown hg) (fun j hj => by
      obtain ⟨h1, o, ho, hc⟩ := hr j hj
      exact ⟨by omega, .inr (fun o' ho' => by obtain rfl := Option.some.inj (ho.symm.trans ho'); exact elem_cells hc)⟩)
  case hIx => exact fun c pre W W' row h hg hr => h
  case hIb =>
    intro pre W W' h hg
    exact h.mods (Mods.of_grown hg) (fun j hj => by cases hj)
  case hIxb => exact fun c pre W W' h hg => h
  case assign =>
    intro l x W K hK
    simp only [encP]
    gi_wp2
    exact hK
  case stop => exact fun D c pre W hD hp hx => hx.elim
  case body =>
    intro l pre x W hl hi hpre
    have hsz6 := hi.siz
    have hlow := hi.low
    have hbel := hi.bel
    have htb := hide (fun (w5 : World) (h : Below w.heap.size w w5) => tab_below htab h)
    have hlen := Nat.le_trans (outL_prefix hpre) (outL_prefix (List.prefix_append xs ys))
    have hsn := outL_snoc 0 pre x
    rw [Nat.zero_add] at hsn
    have hpl : pre.length + 1 ≤ 1048576 := by
      have := outL_count 0 (pre ++ [x])
      rw [List.length_append, List.length_singleton] at this
      omega
    have hn0 : W.cell? ⟨wb.heap.size + 1, 0, none⟩ = some (.int .i64 (pre.length : Int)) := hi.num.cell 0
    have hnf := hi.num.free 0
    have hwr : IntKind.i64.wrap ((pre.length : Int) + 1) = (pre.length : Int) + 1 := IntWalk.i64_in _ (by omega)
    have hlt4 := hi.num.lt
    have hd : Hid (∀ w5 : World, Below w.heap.size w w5 → Calls Tryd.prog 17 #[.int .i64 ((pre.length : Int) + 1)] w5 fun e w' => e = .returned (.string (mk (numL (pre.length + 1)))) ∧ Below w5.heap.size w5 w') :=
      fun w5 h => wdigits_c (pre.length + 1) w5 (by omega) (tab_below htab h)
    have hb0 := hi.buf
    rw [List.nil_append] at hb0
    obtain ⟨D, hD⟩ : ∃ D, D = mk (numL (pre.length + 1)) := ⟨_, rfl⟩
    obtain ⟨F, hF⟩ : ∃ F, F = mk x.1 := ⟨_, rfl⟩
    obtain ⟨P, hP⟩ : ∃ P, P = mk x.2 := ⟨_, rfl⟩
    have hDl : D.data.toList = numL (pre.length + 1) := by rw [hD]; rfl
    have hFl : F.data.toList = x.1 := by rw [hF]; rfl
    have hPl : P.data.toList = x.2 := by rw [hP]; rfl
    rw [← hDl, ← hFl, ← hPl] at hsn
    have hln : (outL 0 pre).length + (D.size + F.size + P.size + 1) ≤ 1048576 := by
      have := congrArg List.length hsn
      simp only [List.length_append, len_data, List.length_singleton] at this
      omega
    rw [← hD] at hd
    simp only [← hF, ← hP]
    have n1 := fun wx : World => run_string_add_sum (P := Tryd.prog) wx D F (by omega)
    have n2 := fun wx : World => run_string_add_sum (P := Tryd.prog) wx (D ++ F) P (by rw [ByteArray.size_append]; omega)
    have n3 := fun wx : World => run_string_add_sum (P := Tryd.prog) wx (D ++ F ++ P) ⟨#[10]⟩ (by rw [ByteArray.size_append, ByteArray.size_append]; show D.size + F.size + P.size + 1 ≤ _; omega)
    have hLs : (D ++ F ++ P ++ ⟨#[10]⟩ : ByteArray).size = D.size + F.size + P.size + 1 := by rw [ByteArray.size_append, ByteArray.size_append, ByteArray.size_append]; rfl
    have hLd : (outL 0 pre) ++ (D ++ F ++ P ++ ⟨#[10]⟩ : ByteArray).data.toList = outL 0 (pre ++ [x]) := by
      rw [hsn]; simp [List.append_assoc]
    have HI := hide hi
    have HB0 := hide hb0
    have HLD := hide hLd
    have HLS := hide hLs
    have HPRE := hide hpre
    clear hi hseq htab hD hF hP hDl hFl hPl hsn hLd hLs hb0 hlen hpre htb
    gi_wp2
    refine ⟨trivial, CallsIn.inRound l (callsIn_wide.2 ((hd.out _ (hbel.setCell (by show w.heap.size ≤ wb.heap.size + 1; omega) _)).mono ?_))⟩
    rintro e w2 ⟨rfl, hb2⟩
    have hmW : Mods (· = wb.heap.size + 1) W (W.setCell ⟨wb.heap.size + 1, 0, none⟩ (.int .i64 ((pre.length : Int) + 1))) := (Mods.refl (· = wb.heap.size + 1) W).set _ _ _ (fun _ => rfl)
    have hm2 : Mods (· = wb.heap.size + 1) W w2 := hmW.below hb2
    have hs2 := hm2.size
    have hbf2 : BufAt (wb.heap.size + 1 + 1 + 1 + 1) wb.heap.size w2 (outL 0 pre) := HB0.out.mods hm2 (fun j hj => ⟨by omega, .inl (by omega)⟩)
    have hnu2 : Blk w2 (wb.heap.size + 1) #[.int .i64 ((pre.length : Int) + 1)] 3 := Blk.mods (by simpa using HI.out.num.set 0 (.int .i64 ((pre.length : Int) + 1)) : Blk (W.setCell ⟨wb.heap.size + 1, 0, none⟩ (.int .i64 ((pre.length : Int) + 1))) (wb.heap.size + 1) #[.int .i64 ((pre.length : Int) + 1)] 3) (Mods.of_below hb2) id
    have HBW := hide (buf_write (wb.heap.size + 1 + 1 + 1 + 1) wb.heap.size w2 (outL 0 pre) (D ++ F ++ P ++ ⟨#[10]⟩) hbf2 (by omega) (by rw [HLS.out]; omega))
    have HM2 := hide hm2
    have HN2 := hide hnu2
    clear hmW hm2 hbf2 hnu2 hb2
    gi_wp2
    refine ⟨trivial, CallsIn.inRound l (callsIn_wide.2 (HBW.out.mono ?_))⟩
    rintro e w3 ⟨rfl, hbf3, hm3⟩
    rw [HLD.out] at hbf3
    have hcmp : ¬ (1048576 : Int) < ((outL 0 (pre ++ [x])).length : Int) := by have := Nat.le_trans (outL_prefix HPRE.out) (outL_prefix (List.prefix_append xs ys)); omega
    have HB3 := hide hbf3
    have HM3 := hide hm3
    clear hbf3 hm3
    gi_wp2
    refine ⟨trivial, CallsIn.inRound l (callsIn_wide.2 ((buf_len _ _ w3 _ HB3.out).mono ?_))⟩
    rintro e w4 ⟨rfl, rfl⟩
    gi_wp2
    have hmT : Mods (fun j => j = wb.heap.size + 1 ∨ j = wb.heap.size ∨ (wb.heap.size + 1 + 1 + 1 + 1 ≤ j ∧ ∃ o, W.heap[j]? = some o ∧ elemT o = some 5)) W w3 :=
      (HM2.out.weak (fun i _ e => .inl e)).trans' HM3.out (fun i hi hM => by
        rcases hM with e | ⟨hB, o, ho, he⟩
        · exact .inr (.inl e)
        · exact .inr (.inr ⟨hB, o, (HM2.out.block i hi (by omega)).symm.trans ho, he⟩))
    have h3s := hmT.size
    refine ⟨⟨hmT.size, fun k o hk ho hc => (hmT.block k (Array.getElem?_eq_some_iff.1 ho).1 ?_).trans ho⟩, hmT.block _ (by omega) ?_, ⟨by rw [List.nil_append]; exact HB3.out, ?_, HI.out.rs.mods hmT ?_, HI.out.er.mods hmT ?_, HI.out.bel.trans (hmT.toBelow (by omega) ?_), by omega, hlow⟩⟩
    · rintro (e | e | ⟨_, o', ho', he⟩)
      · omega
      · omega
      · obtain rfl := Option.some.inj (ho.symm.trans ho')
        exact elem_cells hc he
    · rintro (e | e | ⟨e, _⟩) <;> omega
    · rw [List.nil_append, List.length_append, List.length_singleton]
      exact HN2.out.mods HM3.out (by rintro (e | ⟨e, _⟩) <;> omega)
    · rintro (e | e | ⟨e, _⟩) <;> omega
    · rintro (e | e | ⟨e, _⟩) <;> omega
    · rintro i hi (e | e | ⟨e, _⟩) <;> omega
  case done =>
    intro DR W hD hi hDK
    have hg2 : W.cell? ⟨b, off + 2, none⟩ = some (.bool left2) := (World.cell?_of_block ((hi.bel.block b hb).trans (HB2.out.block b hb).symm)).trans hf2
    have hg3 : W.cell? ⟨b, off + 2 + 1, none⟩ = some (.string t) := (World.cell?_of_block ((hi.bel.block b hb).trans (HB2.out.block b hb).symm)).trans hf3
    have hbW : b < W.heap.size := by have := hi.siz; omega
    have HI1 := hide hi
    have HDK := hide hDK
    clear hi hDK hseq hf0 hf1 hf2 hf3
    gi_wp2
    go_wp2_with fail
    rw [rounds_succ]
    go_wp2_with fail
    refine (divide_mk left2 t _).mono ?_
    rintro e w6 ⟨rfl, rfl⟩
    go_wp2_with fail
    obtain ⟨V0, hV0⟩ : ∃ V0, V0 = ((W.alloc (.cells #[.bool left2, .string t] 28)).alloc (.cells #[.bool left2, .string t] 28)) := ⟨_, rfl⟩
    have hvz : V0.heap.size = W.heap.size + 1 + 1 := by rw [hV0]; simp
    have hbx2 : Blk V0 (W.heap.size + 1) #[.bool left2, .string t] 28 := by
      rw [hV0]
      have := blk_new (W.alloc (.cells #[.bool left2, .string t] 28)) #[.bool left2, .string t] 28
      simpa using this
    have hbv : Below W.heap.size W V0 := by rw [hV0]; exact ((Below.refl _ W).alloc (Nat.le_refl _) _).alloc (by simp) _
    have hI2 : WrI w.heap.size wb.heap.size w xs [] V0 := by
      have := HI1.out.mods (Mods.of_below hbv) (fun j hj => by cases hj)
      exact ⟨by simpa using this.buf, by simpa using this.num, this.rs, this.er, this.bel, this.siz, this.low⟩
    have hdk2 : V0.heap[DR]? = some (.deferred (some [])) := (hbv.block DR (lt_of_block HDK.out)).trans HDK.out
    have hDlt : DR < W.heap.size := lt_of_block HDK.out
    have hseq2 := divide_seqN 9 _ left2 t V0 ht (by omega) hbx2
    have hsizW := HI1.out.siz
    have HI2 := hide (And.intro hI2 (And.intro hbx2 hdk2))
    clear hbx2 hI2 hdk2 hbv
    rw [← hV0]
    rw [← HYS.out] at hseq2
    refine (wpIn_wide (n := 10)).1 ?_
    refine wpIn_rangeFunc_N (n := 10) (F := Fence.wide) rfl (by omega) (gf := 32) (lb := #[.pointer (some ⟨W.heap.size + 1, 0, none⟩)]) rfl trivial (enters_of Tryd.func32 (by kernel_rfl) rfl)
      hseq2 (by omega) (Below.refl _ _) (fun _ => rfl) (fun pre Wx => WrI w.heap.size wb.heap.size w xs pre Wx ∧ Blk Wx (W.heap.size + 1) #[.bool left2, .string t] 28 ∧ Wx.heap[DR]? = some (.deferred (some []))) (fun _ _ _ => False) ?hI2 ?hIx2 ?hIb2 ?hIxb2 HI2.out (fun x => { tmps := #[(.slice (some ⟨b, off, none⟩) 2 c), undef, .pointer (some ⟨w.heap.size, 0, none⟩), .pointer (some ⟨w.heap.size + 1, 0, none⟩), undef, .pointer (some ⟨w1.heap.size, 0, none⟩), .pointer (some ⟨wb.heap.size, 0, none⟩), .pointer (some ⟨wb.heap.size + 1, 0, none⟩), undef, .pointer (some ⟨W.heap.size, 0, none⟩), .string (mk x.1), .string (mk x.2), .slice (some ⟨b, off, none⟩) 2 c, .int .i64 2, .int .i64 2, .bool false, .pointer (some ⟨b, off + 2, none⟩), .agg #[.bool left2, .string t], .pointer (some ⟨w1.heap.size, 1, none⟩), .string t, .bool true, .bool false, .int .i64 2, .slice (some ⟨b, off, none⟩) 2 c, .int .i64 2, .int .i64 1, .bool true, .pointer (some ⟨b, off + 2, none⟩), .agg #[.bool left2, .string t], .agg #[.bool left2, .string t], .func (.func 32) #[] #[.pointer (some ⟨W.heap.size + 1, 0, none⟩)], .string (mk x.1), .string (mk x.2), undef, undef, undef, undef, undef, undef, undef, undef, undef, undef, undef, undef, .int .i64 1, undef], defers := [] }) ?assign2 ?body2 ?done2 ?stop2
    case hI2 =>
      rintro pre Wa Wb row ⟨h, h2, h3⟩ hg hr
      have hM : ∀ j, row = some j → V0.heap.size ≤ j ∧ ∃ o, Wa.heap[j]? = some o ∧ o.isCells = false := fun j hj => hr j hj
      refine ⟨h.mods (Mods.of_grown hg) (fun j hj => by
        obtain ⟨h1, o, ho, hc⟩ := hr j hj
        exact ⟨by omega, .inr (fun o' ho' => by obtain rfl := Option.some.inj (ho.symm.trans ho'); exact elem_cells hc)⟩), h2.mods (Mods.of_grown hg) (fun e => ?_), ((Mods.of_grown hg).block DR (lt_of_block h3) (fun e => ?_)).trans h3⟩
      · have := (hM _ e).1; omega
      · have := (hM _ e).1; omega
    case hIx2 => exact fun c pre Wa Wb row h hg hr => h
    case hIb2 =>
      rintro pre Wa Wb ⟨h, h2, h3⟩ hg
      exact ⟨h.mods (Mods.of_grown hg) (fun j hj => by cases hj), h2.mods (Mods.of_grown hg) (fun hj => by cases hj), ((Mods.of_grown hg).block DR (lt_of_block h3) (fun hj => by cases hj)).trans h3⟩
    case hIxb2 => exact fun c pre Wa Wb h hg => h
    case assign2 =>
      intro l x Wa K hK
      simp only [encP]
      gi_wp2
      exact hK
    case stop2 => exact fun D c pre Wa hD hp hx => hx.elim
    case body2 =>
      intro l pre x Wx hl hic hpre
      obtain ⟨hi, hbxp, hdp⟩ := hic
      obtain ⟨pp, hpp⟩ : ∃ pp, pp = xs ++ pre := ⟨_, rfl⟩
      have hpre2 : (pp ++ [x]) <+: (xs ++ ys) := by rw [hpp, List.append_assoc]; exact (List.prefix_append_right_inj xs).2 hpre
      have hsz6 := hi.siz
      have hlow := hi.low
      have hbel := hi.bel
      have htb := hide (fun (w5 : World) (h : Below w.heap.size w w5) => tab_below htab h)
      have hlen := outL_prefix hpre2
      have hbuf0 := hi.buf
      have hnum0 := hi.num
      rw [← hpp] at hbuf0 hnum0
      have hsn := outL_snoc 0 pp x
      rw [Nat.zero_add] at hsn
      have hpl : pp.length + 1 ≤ 1048576 := by
        have := outL_count 0 (pp ++ [x])
        rw [List.length_append, List.length_singleton] at this
        omega
      have hn0 : Wx.cell? ⟨wb.heap.size + 1, 0, none⟩ = some (.int .i64 (pp.length : Int)) := hnum0.cell 0
      have hnf := hnum0.free 0
      have hwr : IntKind.i64.wrap ((pp.length : Int) + 1) = (pp.length : Int) + 1 := IntWalk.i64_in _ (by omega)
      have hlt4 := hnum0.lt
      have hd : Hid (∀ w5 : World, Below w.heap.size w w5 → Calls Tryd.prog 17 #[.int .i64 ((pp.length : Int) + 1)] w5 fun e w' => e = .returned (.string (mk (numL (pp.length + 1)))) ∧ Below w5.heap.size w5 w') :=
        fun w5 h => wdigits_c (pp.length + 1) w5 (by omega) (tab_below htab h)
      have hb0 := hbuf0
      obtain ⟨D, hD⟩ : ∃ D, D = mk (numL (pp.length + 1)) := ⟨_, rfl⟩
      obtain ⟨F, hF⟩ : ∃ F, F = mk x.1 := ⟨_, rfl⟩
      obtain ⟨P, hP⟩ : ∃ P, P = mk x.2 := ⟨_, rfl⟩
      have hDl : D.data.toList = numL (pp.length + 1) := by rw [hD]; rfl
      have hFl : F.data.toList = x.1 := by rw [hF]; rfl
      have hPl : P.data.toList = x.2 := by rw [hP]; rfl
      rw [← hDl, ← hFl, ← hPl] at hsn
      have hln : (outL 0 pp).length + (D.size + F.size + P.size + 1) ≤ 1048576 := by
        have := congrArg List.length hsn
        simp only [List.length_append, len_data, List.length_singleton] at this
        omega
      rw [← hD] at hd
      simp only [← hF, ← hP]
      have n1 := fun wx : World => run_string_add_sum (P := Tryd.prog) wx D F (by omega)
      have n2 := fun wx : World => run_string_add_sum (P := Tryd.prog) wx (D ++ F) P (by rw [ByteArray.size_append]; omega)
      have n3 := fun wx : World => run_string_add_sum (P := Tryd.prog) wx (D ++ F ++ P) ⟨#[10]⟩ (by rw [ByteArray.size_append, ByteArray.size_append]; show D.size + F.size + P.size + 1 ≤ _; omega)
      have hLs : (D ++ F ++ P ++ ⟨#[10]⟩ : ByteArray).size = D.size + F.size + P.size + 1 := by rw [ByteArray.size_append, ByteArray.size_append, ByteArray.size_append]; rfl
      have hLd : (outL 0 pp) ++ (D ++ F ++ P ++ ⟨#[10]⟩ : ByteArray).data.toList = outL 0 (pp ++ [x]) := by
        rw [hsn]; simp [List.append_assoc]
      have HI := hide hi
      have HB0 := hide hb0
      have HLD := hide hLd
      have HLS := hide hLs
      have HPRE := hide hpre2
      have HN0 := hide hnum0
      have HBXP := hide hbxp
      have HDP := hide hdp
      have HPP := hide hpp
      clear hi hseq2 htab hbuf0 hnum0 hbxp hdp hpp hpre2 hD hF hP hDl hFl hPl hsn hLd hLs hb0 hlen hpre htb
      gi_wp2
      refine ⟨trivial, CallsIn.inRound l (callsIn_wide.2 ((hd.out _ (hbel.setCell (by show w.heap.size ≤ wb.heap.size + 1; omega) _)).mono ?_))⟩
      rintro e w2 ⟨rfl, hb2⟩
      have hmW : Mods (· = wb.heap.size + 1) Wx (Wx.setCell ⟨wb.heap.size + 1, 0, none⟩ (.int .i64 ((pp.length : Int) + 1))) := (Mods.refl (· = wb.heap.size + 1) Wx).set _ _ _ (fun _ => rfl)
      have hm2 : Mods (· = wb.heap.size + 1) Wx w2 := hmW.below hb2
      have hs2 := hm2.size
      have hbf2 : BufAt (wb.heap.size + 1 + 1 + 1 + 1) wb.heap.size w2 (outL 0 pp) := HB0.out.mods hm2 (fun j hj => ⟨by omega, .inl (by omega)⟩)
      have hnu2 : Blk w2 (wb.heap.size + 1) #[.int .i64 ((pp.length : Int) + 1)] 3 := Blk.mods (by simpa using HN0.out.set 0 (.int .i64 ((pp.length : Int) + 1)) : Blk (Wx.setCell ⟨wb.heap.size + 1, 0, none⟩ (.int .i64 ((pp.length : Int) + 1))) (wb.heap.size + 1) #[.int .i64 ((pp.length : Int) + 1)] 3) (Mods.of_below hb2) id
      have HBW := hide (buf_write (wb.heap.size + 1 + 1 + 1 + 1) wb.heap.size w2 (outL 0 pp) (D ++ F ++ P ++ ⟨#[10]⟩) hbf2 (by omega) (by rw [HLS.out]; omega))
      have HM2 := hide hm2
      have HN2 := hide hnu2
      clear hmW hm2 hbf2 hnu2 hb2
      gi_wp2
      refine ⟨trivial, CallsIn.inRound l (callsIn_wide.2 (HBW.out.mono ?_))⟩
      rintro e w3 ⟨rfl, hbf3, hm3⟩
      rw [HLD.out] at hbf3
      have hcmp : ¬ (1048576 : Int) < ((outL 0 (pp ++ [x])).length : Int) := by have := outL_prefix HPRE.out; omega
      have HB3 := hide hbf3
      have HM3 := hide hm3
      clear hbf3 hm3
      gi_wp2
      refine ⟨trivial, CallsIn.inRound l (callsIn_wide.2 ((buf_len _ _ w3 _ HB3.out).mono ?_))⟩
      rintro e w4 ⟨rfl, rfl⟩
      gi_wp2
      have hmT : Mods (fun j => j = wb.heap.size + 1 ∨ j = wb.heap.size ∨ (wb.heap.size + 1 + 1 + 1 + 1 ≤ j ∧ ∃ o, Wx.heap[j]? = some o ∧ elemT o = some 5)) Wx w3 :=
        (HM2.out.weak (fun i _ e => .inl e)).trans' HM3.out (fun i hi hM => by
          rcases hM with e | ⟨hB, o, ho, he⟩
          · exact .inr (.inl e)
          · exact .inr (.inr ⟨hB, o, (HM2.out.block i hi (by omega)).symm.trans ho, he⟩))
      have h3s := hmT.size
      have heq : xs ++ (pre ++ [x]) = pp ++ [x] := by rw [HPP.out, List.append_assoc]
      have hnb : ¬ (W.heap.size + 1 = wb.heap.size + 1 ∨ W.heap.size + 1 = wb.heap.size ∨ (wb.heap.size + 1 + 1 + 1 + 1 ≤ W.heap.size + 1 ∧ ∃ o, Wx.heap[W.heap.size + 1]? = some o ∧ elemT o = some 5)) := by
        rintro (e | e | ⟨_, o', ho', he⟩)
        · omega
        · omega
        · have h0 : Wx.heap[W.heap.size + 1]? = _ := HBXP.out
          rw [h0] at ho'
          obtain rfl := Option.some.inj ho'
          exact absurd he (by simp [elemT])
      have hnd : ¬ (DR = wb.heap.size + 1 ∨ DR = wb.heap.size ∨ (wb.heap.size + 1 + 1 + 1 + 1 ≤ DR ∧ ∃ o, Wx.heap[DR]? = some o ∧ elemT o = some 5)) := by
        rintro (e | e | ⟨_, o', ho', he⟩)
        · omega
        · omega
        · rw [HDP.out] at ho'
          obtain rfl := Option.some.inj ho'
          cases he
      refine ⟨⟨hmT.size, fun k o hk ho hc => (hmT.block k (Array.getElem?_eq_some_iff.1 ho).1 ?_).trans ho⟩, hmT.block _ (Blk.lt HBXP.out) hnb, ⟨by rw [heq]; exact HB3.out, ?_, HI.out.rs.mods hmT ?_, HI.out.er.mods hmT ?_, HI.out.bel.trans (hmT.toBelow (by omega) ?_), by omega, hlow⟩, HBXP.out.mods hmT hnb, (hmT.block DR (lt_of_block HDP.out) hnd).trans HDP.out⟩
      · rintro (e | e | ⟨_, o', ho', he⟩)
        · omega
        · omega
        · obtain rfl := Option.some.inj (ho.symm.trans ho')
          exact elem_cells hc he
      · rw [heq, List.length_append, List.length_singleton]
        exact HN2.out.mods HM3.out (by rintro (e | ⟨e, _⟩) <;> omega)
      · rintro (e | e | ⟨e, _⟩) <;> omega
      · rintro (e | e | ⟨e, _⟩) <;> omega
      · rintro i hi (e | e | ⟨e, _⟩) <;> omega
    case done2 =>
      intro D2 Wd hD2 hic hDK2
      obtain ⟨hi, _, hdp⟩ := hic
      obtain ⟨p, v, hb1, hb2, hb3⟩ := hi.buf
      have hne : outL 0 (xs ++ ys) ≠ [] := by
        intro e
        have h1 := outL_count 0 (xs ++ ys)
        rw [e] at h1
        have h2 := List.length_pos_iff.2 (pieces_ne (frontL left) s.data.toList false)
        rw [← HXS.out] at h2
        simp at h1
        rw [h1.1] at h2
        simp at h2
      have hrs := hi.rs
      have her := hi.er
      have HBS := hide (bString_c _ wb.heap.size 0 46 _ v (outL 0 (xs ++ ys)) Wd (bin_of_buf hb1 rfl) rfl hb3 hne (by omega))
      have HI := hide hi
      have HDK2 := hide hDK2
      have HDP := hide hdp
      have HOW := hide hb3
      have hlow := hi.low
      have hsz6 := hi.siz
      have HRS := hide hrs
      have HER := hide her
      clear hi hDK2 hb1 hb2 hb3 hne hrs her hseq2 hdp
      gi_wp2
      go_wp2_with fail
      rw [rounds_succ]
      go_wp2_with fail
      refine HBS.out.mono ?_
      rintro e w4 ⟨rfl, hm4⟩
      have hno : ∀ j, v.ownBlock = some j → wb.heap.size + 1 + 1 + 1 + 1 ≤ j ∧ ∃ o, Wd.heap[j]? = some o ∧ elemT o = some 5 := fun j hj => by
        obtain ⟨o, ho, he, hB⟩ := own_elem HOW.out j hj
        exact ⟨hB, o, ho, he⟩
      have hrs4 := HRS.out.mods hm4 (fun e => by have := (hno _ e).1; omega)
      have her4 := HER.out.mods hm4 (fun e => by have := (hno _ e).1; omega)
      have a0 := hrs4.cell 0
      have a1 := hrs4.free 0
      have b0 := her4.cell 0
      have b1 := her4.free 0
      have HM4 := hide hm4
      have HN := hide hno
      have HR4 := hide hrs4
      have HE4 := hide her4
      clear hm4 hno hrs4 her4
      go_wp2_with fail
      have hDl := lt_of_block HDK2.out
      have hDl1 := lt_of_block HDP.out
      have hK4 := (HM4.out.block D2 hDl (fun e => by
        obtain ⟨_, o, ho, he⟩ := HN.out D2 e
        obtain rfl := Option.some.inj (HDK2.out.symm.trans ho)
        cases he)).trans HDK2.out
      have hL4 := (HM4.out.block DR hDl1 (fun e => by
        obtain ⟨_, o, ho, he⟩ := HN.out DR e
        obtain rfl := Option.some.inj (HDP.out.symm.trans ho)
        cases he)).trans HDP.out
      have hmS : Mods (fun k => k = w.heap.size ∨ k = w.heap.size + 1) w4 ((w4.setCell ⟨w.heap.size, 0, none⟩ (.string (mk (outL 0 (xs ++ ys))))).setCell ⟨w.heap.size + 1, 0, none⟩ (.int .i64 0)) :=
        ((Mods.refl (fun k => k = w.heap.size ∨ k = w.heap.size + 1) w4).set w.heap.size 0 (.string (mk (outL 0 (xs ++ ys)))) (fun _ => .inl rfl)).set (w.heap.size + 1) 0 (.int .i64 0) (fun _ => .inr rfl)
      have h4s := HM4.out.size
      have hK5 := (hmS.block D2 (by omega) (by omega)).trans hK4
      have hL5 := (hmS.block DR (by omega) (by omega)).trans hL4
      have hmP : ∀ (d : Nat) (W1 : World), Mods (· = d) W1 (W1.putObj d (.deferred none)) := fun d W1 => (Mods.of_grown (grownBy_putObj' W1 d (.deferred none))).weak (fun i _ e => by injection e with e; exact e.symm)
      refine ⟨by simp, .inl ⟨_, _, rfl, run_takeDeferred hK5, ?_⟩⟩
      have hL6 := ((hmP D2 _).block DR (by have := hmS.size; omega) (by omega)).trans hL5
      refine ⟨by simp, .inl ⟨_, _, rfl, run_takeDeferred hL6, ?_⟩⟩
      have hr5 : Blk _ w.heap.size #[.string (mk (outL 0 (xs ++ ys)))] 9 := (((HR4.out.set 0 (.string (mk (outL 0 (xs ++ ys))))).mods ((Mods.refl (· = w.heap.size + 1) _).set (w.heap.size + 1) 0 (.int .i64 0) (fun _ => rfl)) (by omega)).mods (hmP D2 _) (by omega)).mods (hmP DR _) (by omega)
      have he5 : Blk _ (w.heap.size + 1) #[.int .i64 0] 24 := (((HE4.out.mods ((Mods.refl (· = w.heap.size) w4).set w.heap.size 0 (.string (mk (outL 0 (xs ++ ys)))) (fun _ => rfl)) (by omega)).set 0 (.int .i64 0)).mods (hmP D2 _) (by omega)).mods (hmP DR _) (by omega)
      have z0 := hr5.cell 0
      have z1 := he5.cell 0
      refine ⟨.tuple #[.string (mk (outL 0 (xs ++ ys))), .int .i64 0], by simp [results, Tryd.results6, go_sem, z0, z1], rfl, ?_⟩
      refine (((HI.out.bel.trans (HM4.out.toBelow (by omega) (fun i hi e => by have := (HN.out i e).1; omega))).trans (hmS.toBelow (by omega) (fun i hi e => by omega))).trans ((hmP D2 _).toBelow ?_ (fun i hi e => by omega))).trans ((hmP DR _).toBelow ?_ (fun i hi e => by omega))
      · have := hmS.size
        omega
      · have := hmS.size
        have := (hmP D2 ((w4.setCell ⟨w.heap.size, 0, none⟩ (.string (mk (outL 0 (xs ++ ys))))).setCell ⟨w.heap.size + 1, 0, none⟩ (.int .i64 0))).size
        omega
end Go.Proofs.YteceealibfemjaaDoor
