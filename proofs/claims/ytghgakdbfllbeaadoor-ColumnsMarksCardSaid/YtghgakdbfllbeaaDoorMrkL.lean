/-
  THE WALK of the law ColumnsMarks (layer 2, columns).
-/
import Derived.Test.YtghgakdbfllbeaaDoorMrkQ
import Derived.Test.YtghgakdbfllbeaaDoorWrtQ
import Derived.Test.YtghgakdbfllbeaaDoorSplC
import Derived.Test.YtghgakdbfllbeaaDoorAtC
import Derived.Test.YtghgakdbfllbeaaDoorLvs
import Derived.Outline
import Derived.IntWalk
import Derived.Deep.DeepCutAuto
import Derived.Deep.RegionHeld3
namespace Go.Proofs.YtghgakdbfllbeaaDoor
open Go.RowKit Go.Shelf

set_option maxHeartbeats 4000000 in
set_option maxRecDepth 100000 in
/-- a text that is too long for the law -/
theorem MarksLaw_far (s : ByteArray) (debug : Bool) (w : World) (hs : s.size ≤ maxLen) (h : 2000 < s.size) (htab : Lib.TabIs Tryd.prog w "internal/strconv.uint64pow10" .u64 Lib.pow10Tab) :
    Calls Tryd.prog 5 #[.string s, .bool debug] w fun e w' => e = .returned (.bool true) ∧ Below w.heap.size w w' := by
  unfold maxLen at hs
  have hL := hide (lives_c w htab)
  clear htab
  go_enter Tryd.func5, Tryd.ntmps5
  go_wp2_with fail
  refine hL.out.mono ?_
  rintro e w1 ⟨rfl, hb1⟩
  go_wp2_with fail
  go_ret
  exact ⟨rfl, hb1⟩
theorem blkS2 {w : World} {b : Nat} {x y : Value} {T : TypeId} (h : Blk w b #[x, y] T) (n : Nat) (x' y' : Value) : Blk (((w.drewN n).setCell ⟨b, 0, none⟩ x').setCell ⟨b, 1, none⟩ y') b #[x', y'] T :=
  ((show Blk (w.drewN n) b #[x, y] T from h).set 0 x').set 1 y'
theorem cellS2 (w : World) (blk b o : Nat) (x y : Value) (h : b ≠ blk) : ((w.setCell ⟨blk, 0, none⟩ x).setCell ⟨blk, 1, none⟩ y).cell? ⟨b, o, none⟩ = w.cell? ⟨b, o, none⟩ :=
  (World.cell?_of_block (Below.heap_setCell _ _ _ _ h)).trans (World.cell?_of_block (Below.heap_setCell _ _ _ _ h))
theorem hS5 {a b k : Nat} (h : a ≤ b) (hk : k < a) : k < b := by omega
theorem getD32 (X : ByteArray) (i : Nat) (h : i < X.size) : X.data.toList.getD i 32 = X[i] := by
  rw [List.getD_eq_getElem?_getD, List.getElem?_eq_getElem (by rw [len_data]; exact h)]; rfl
theorem read_few (s : ByteArray) (debug : Bool) (hs : s.size ≤ 2000) : (((chunks s.data.toList).map stripL).filter (countsL debug)).length ≤ 70000 := by
  have h1 := List.length_filter_le (countsL debug) ((chunks s.data.toList).map stripL)
  have h2 := chunks_length s.data.toList
  rw [List.length_map] at h1
  rw [len_data] at h2
  omega
set_option maxHeartbeats 4000000 in
set_option maxRecDepth 100000 in
/-- a text that Read refuses -/
theorem MarksLaw_bad (s : ByteArray) (debug : Bool) (w : World) (hs : s.size ≤ 2000) (f : FaultL) (hr : readT debug s.data.toList = .error f) (htab : Lib.TabIs Tryd.prog w "internal/strconv.uint64pow10" .u64 Lib.pow10Tab) :
    Calls Tryd.prog 5 #[.string s, .bool debug] w fun e w' => e = .returned (.bool true) ∧ Below w.heap.size w w' := by
  have hL : Hid (∀ w1, Below w.heap.size w w1 → Calls Tryd.prog 8 #[] w1 fun e w' => e = .returned (.bool true) ∧ Below w1.heap.size w1 w') := fun w1 hb => lives_c w1 (tab_below htab hb)
  have hf := readT_err debug _ f hr
  obtain ⟨f1, f2, f3⟩ := f
  have hRD : Hid (Calls Tryd.prog 11 #[.string s, .bool debug] w fun e w' => ∃ A, e = .returned (.tuple #[.slice A 0 0, .agg #[.int .i64 f1, .int .i64 f2, .int .i64 f3]]) ∧ Below w.heap.size w w') := by
    have h := Read_all s debug w (by omega) (fun _ => read_few s debug hs)
    rw [hr] at h
    exact h.mono fun e w' ⟨A, h1, _, _, h4⟩ => ⟨A, h1, h4⟩
  have e1 : (f1 == 0) = false := by rw [beq_eq_false_iff_ne]; exact hf
  have hf1 : ¬ f1 = 0 := hf
  clear htab hr hf
  go_enter Tryd.func5, Tryd.ntmps5
  go_wp2_with fail
  refine hRD.out.mono ?_
  rintro e w1 ⟨A, rfl, hb1⟩
  have HB1 := hide (hb1.alloc hb1.size (.cells #[.int .i64 f1, .int .i64 f2, .int .i64 f3] 34))
  clear hb1 hRD
  go_wp2_with fail
  refine (hL.out _ HB1.out).mono ?_
  rintro e w2 ⟨rfl, hb2⟩
  have HB2 := hide (HB1.out.trans (hb2.mono HB1.out.size))
  clear hb2
  go_wp2_with fail
  go_ret
  exact ⟨rfl, HB2.out⟩

set_option maxHeartbeats 8000000 in
set_option maxRecDepth 100000 in
/-- a text that Read takes -/
theorem MarksLaw_ok (s : ByteArray) (debug : Bool) (w : World) (hs : s.size ≤ 2000) (cs : List CardL) (hr : readT debug s.data.toList = .ok cs) (htab : Lib.TabIs Tryd.prog w "internal/strconv.uint64pow10" .u64 Lib.pow10Tab) (hmx : MaxI w) :
    Calls Tryd.prog 5 #[.string s, .bool debug] w fun e w' => e = .returned (.bool true) ∧ Below w.heap.size w w' := by
  have hL : Hid (∀ w1, Below w.heap.size w w1 → Calls Tryd.prog 8 #[] w1 fun e w' => e = .returned (.bool true) ∧ Below w1.heap.size w1 w') := fun w1 hb => lives_c w1 (tab_below htab hb)
  obtain ⟨n, hn⟩ : ∃ n, n = cs.length := ⟨_, rfl⟩
  have hread : readL debug s.data.toList = .ok cs := by
    rw [← hr]; exact (readT_small debug _ (by rw [len_data]; omega)).symm
  have htot := readT_tot debug s.data.toList
  rw [hr] at htot
  simp only [resCs] at htot
  have hch := chunks_length s.data.toList
  rw [List.length_map, len_data] at *
  have hn2 : n ≤ 2000 := by omega
  have HTL : Hid (∀ k (h : k < cs.length), (cs[k]'h).text.length ≤ 130000 ∧ (cs[k]'h).marks.length ≤ 2000000) := fun k h => by
    have := totL_mem cs _ (List.getElem_mem h)
    have h2 := card_marks debug s.data.toList cs hread k h
    omega
  have hRD : Hid (Calls Tryd.prog 11 #[.string s, .bool debug] w fun e w' => ∃ A, e = .returned (.tuple #[.slice A n n, .agg #[.int .i64 0, .int .i64 0, .int .i64 0]]) ∧ CardsAt w' w'.heap.size A cs ∧ Below w.heap.size w w') := by
    have h := Read_all s debug w (by omega) (fun _ => read_few s debug hs)
    rw [hr] at h
    refine h.mono fun e w' ⟨A, h1, h2, _, h4⟩ => ⟨A, ?_, h2, h4⟩
    rw [h1, hn]; rfl
  have hSP : Hid (∀ w1, Below w.heap.size w w1 → Calls Tryd.prog 12 #[.string s, .string ⟨#[10]⟩] w1 fun e w' => ∃ xs : List ByteArray, xs.map (·.data.toList) = splitNL s.data.toList ∧ e = .returned (.slice (some ⟨w1.heap.size, 0, none⟩) xs.length xs.length) ∧ LinesAt w' w1.heap.size xs ∧ Below w1.heap.size w1 w') := fun w1 hb => Split_nl s w1 (by omega) (hmx.below hb)
  have HN := hide hn
  have HBY := hide (fun i k hi hk => byte_ok debug s.data.toList cs hread i k hi hk)
  have HEN := hide (fun i hi => card_ends debug s.data.toList cs hread i hi)
  clear htab hr hread htot hch hn hmx
  go_enter Tryd.func5, Tryd.ntmps5
  go_wp2_with fail
  refine hRD.out.mono ?_
  rintro e w1 ⟨A, rfl, hcards, hb1⟩
  have HB1 := hide (hb1.alloc hb1.size (.cells #[.int .i64 0, .int .i64 0, .int .i64 0] 34))
  have HCD := hide hcards
  have hsz1 := hb1.size
  clear hcards hb1 hRD
  go_wp2_with fail
  refine (hSP.out _ HB1.out).mono ?_
  rintro e w2 ⟨xs, hxs, rfl, hla, hb2⟩
  have HB2 := hide (HB1.out.trans (hb2.mono HB1.out.size))
  have HXS := hide hxs
  have HLA := hide hla
  have hxl : xs.length ≤ 2001 := by
    have h1 := congrArg List.length hxs
    have h2 := splitNL_len s.data.toList
    rw [List.length_map] at h1
    rw [len_data] at h2; omega
  have HR2 : Hid (Below w1.heap.size w1 w2) := ((Below.refl _ w1).alloc (Nat.le_refl _) (.cells #[.int .i64 0, .int .i64 0, .int .i64 0] 34)).trans (hb2.mono (by simp))
  obtain ⟨lb, hlb⟩ : ∃ b, b = w1.heap.size + 1 := ⟨_, rfl⟩
  have hlbs : (w1.alloc (.cells #[.int .i64 0, .int .i64 0, .int .i64 0] 34)).heap.size = lb := by rw [hlb]; exact World.size_alloc _ _
  rw [hlbs] at HLA
  rw [hlbs]
  have hlb2 : lb < w2.heap.size := lt_of_block HLA.out.blk
  obtain ⟨bb, hbb⟩ : ∃ b, b = w2.heap.size := ⟨_, rfl⟩
  obtain ⟨W3, hW3⟩ : ∃ W, W = w2.alloc (.cells #[.int .i64 0, .int .i64 0] 32) := ⟨_, rfl⟩
  have HK3 : Hid (Blk W3 bb #[.int .i64 0, .int .i64 0] 32) := by rw [hW3, hbb]; exact blk_new w2 _ _
  have HL3 : Hid (LinesAt W3 lb xs) := by rw [hW3]; exact ⟨(heap_alloc_old w2 _ hlb2).trans HLA.out.blk⟩
  have HB3 : Hid (Below w.heap.size w W3) := by rw [hW3]; exact HB2.out.alloc HB2.out.size _
  have HR3 : Hid (Below w1.heap.size w1 W3) := by rw [hW3]; exact HR2.out.alloc HR2.out.size _
  have hbb3 : bb < W3.heap.size := HK3.out.lt
  have hlbb : lb < bb := by omega
  have hw1b : w1.heap.size ≤ bb := by omega
  have hwb : w.heap.size ≤ w1.heap.size := by
    have := HB1.out.size; rw [World.size_alloc] at this; omega
  clear hxs hla hb2 hSP hlbs hlb
  go_wp2_with fail
  rw [← hbb, ← hW3]
  clear hbb hW3
  go_loopw [9] (fun v9 wr => ∃ (i : Nat) (B1 B2 : Int), v9 = .int .i64 (i : Int) ∧ i ≤ n ∧ Hid ((B1, B2) = bfP cs i 0) ∧ Blk wr bb #[.int .i64 B1, .int .i64 B2] 32 ∧ Mods (fun j => j = bb) W3 wr) (fun v9 _ => n - (intOf v9).toNat)
  case atStart => exact ⟨0, 0, 0, rfl, Nat.zero_le _, rfl, HK3.out, Mods.refl _ _⟩
  case round =>
    obtain ⟨i, B1, B2, rfl, hi, hBP, hblk, hmods⟩ := hrel
    have HBL := hide hblk
    have HMO := hide hmods
    have HRr : Hid (Below w1.heap.size w1 wr) := HR3.out.trans (hmods.toBelow (by omega) (fun j hj e => by omega))
    have HBr : Hid (Below w.heap.size w wr) := HB3.out.trans (hmods.toBelow (by omega) (fun j hj e => by omega))
    clear hblk hmods
    by_cases hlt : i < n
    · have hic : i < cs.length := by rw [← HN.out]; exact hlt
      obtain ⟨b, off, rfl, hbw, c0, c1, A', cap, c2, hma⟩ := HCD.out.at_ i hic
      obtain ⟨⟨left, t, ms⟩, hc⟩ : ∃ c, c = cs[i] := ⟨_, rfl⟩
      have HTi := HTL.out i hic
      have HBi := hide (fun k => HBY.out i k hic)
      have HEi := hide (HEN.out i hic)
      rw [← hc] at c0 c1 c2 hma HTi HBi HEi
      simp only at c0 c1 c2 hma HTi
      have heg : cs.getD i ⟨false, [], []⟩ = ⟨left, t, ms⟩ := by rw [hc, List.getD_eq_getElem?_getD, List.getElem?_eq_getElem hic]; rfl
      have HEG := hide heg
      obtain ⟨T, hT⟩ : ∃ T, T = mk t := ⟨_, rfl⟩
      have hTs : T.size = t.length := by rw [hT, mk_size]
      have HTS := hide hTs
      have HTD : Hid (T.data.toList = t) := by unfold Hid; rw [hT]; rfl
      rw [← hT] at c1
      obtain ⟨mn, hmn⟩ : ∃ m, m = ms.length := ⟨_, rfl⟩
      rw [← hmn] at c2
      have HAT : Hid (∀ (idx : Int) W, Below w1.heap.size w1 W → Calls Tryd.prog 19 #[.agg #[.bool left, .string T, .slice A' mn cap], .int .i64 idx] W fun e w' => AtRes ⟨left, t, ms⟩ idx e ∧ Below W.heap.size W w') := fun idx W hb => by
        rw [hT, hmn]
        refine At_c left t ms A' cap w1.heap.size idx W ?_ hb.size (by omega) HTi.2
        rcases hma with hm | ⟨b', off', hA, hb', hcc⟩
        · exact .inl hm
        · exact .inr ⟨b', off', hA, hb', fun j hj => by
            have hbl := hb.block b' hb'
            obtain ⟨y0, y1, y2⟩ := hcc j hj
            exact ⟨(World.cell?_of_block hbl).trans y0, (World.cell?_of_block hbl).trans y1, (World.cell?_of_block hbl).trans y2⟩⟩
      have hval : validL ⟨left, t, ms⟩ = true := HEi.out.1
      have hpos : 0 < t.length := HEi.out.2.1
      have HYes : Hid (∀ k : Nat, k ≤ T.size → ∀ W, Below w1.heap.size w1 W → Calls Tryd.prog 19 #[.agg #[.bool left, .string T, .slice A' mn cap], .int .i64 (k : Int)] W fun e w' => e = .returned (.tuple #[.agg #[.int .i64 (posL ⟨left, t, ms⟩ (k : Int)).1, .int .i64 (posL ⟨left, t, ms⟩ (k : Int)).2], .int .i64 0]) ∧ Below W.heap.size W w') := fun k hk W hb => by
        have hok : atOk ⟨left, t, ms⟩ (k : Int) = true := by
          unfold atOk; rw [hval, decide_eq_true (by omega), decide_eq_true (by show (k : Int) ≤ (t.length : Int); rw [← HTS.out]; omega)]; rfl
        refine (HAT.out (k : Int) W hb).mono fun e w' h => ⟨?_, h.2⟩
        rw [h.1.eq, atP_yes hok, atE_yes hok]
      have HNo : Hid (∀ idx : Int, (idx < 0 ∨ (T.size : Int) < idx) → ∀ W, Below w1.heap.size w1 W → Calls Tryd.prog 19 #[.agg #[.bool left, .string T, .slice A' mn cap], .int .i64 idx] W fun e w' => e = .returned (.tuple #[.agg #[.int .i64 0, .int .i64 0], .int .i64 1]) ∧ Below W.heap.size W w') := fun idx hx W hb => by
        have hok : atOk ⟨left, t, ms⟩ idx = false := by
          unfold atOk
          rcases hx with h | h
          · rw [decide_eq_false (show ¬ 0 ≤ idx by omega)]; simp
          · rw [decide_eq_false (show ¬ idx ≤ (((⟨left, t, ms⟩ : CardL).text.length : Nat) : Int) by show ¬ idx ≤ (t.length : Int); rw [← HTS.out]; omega)]; simp
        refine (HAT.out idx W hb).mono fun e w' h => ⟨?_, h.2⟩
        rw [h.1.eq, atP_no hok, atE_no hok]
      have hTsz : T.size ≤ 130000 := by omega
      have hTpos : 0 < T.size := by omega
      have HMA := hide hma
      have d1 := (World.cell?_of_block (a := ⟨b, off + i * 3 + 1, none⟩) (HRr.out.block b hbw)).trans c1
      have HC0 := hide c0
      have HC1 := hide c1
      have HC2 := hide c2
      have HHC := hide hc
      have HIC := hide hic
      clear hT hTs hmn hma hval hpos HTi heg c0 c1 c2 hc HAT
      go_wp2_with fail
      go_loopw [10] (fun v10 wx => ∃ (k : Nat) (D1 D2 : Int), v10 = .int .i64 (k : Int) ∧ k ≤ T.size ∧ Hid ((D1, D2) = bfP cs i k) ∧ Blk wx bb #[.int .i64 D1, .int .i64 D2] 32 ∧ Mods (fun j => j = bb) W3 wx) (fun v10 _ => T.size - (intOf v10).toNat)
      case atStart => exact ⟨0, B1, B2, rfl, Nat.zero_le _, hBP, HBL.out, HMO.out⟩
      case round =>
        obtain ⟨k, D1, D2, rfl, hk, hDP, hblk, hmods⟩ := hrel
        have hsz := hmods.size
        have HRx : Hid (Below w1.heap.size w1 wr) := HR3.out.trans (hmods.toBelow (by omega) (fun j hj e => by omega))
        have HBx : Hid (Below w.heap.size w wr) := HB3.out.trans (hmods.toBelow (by omega) (fun j hj e => by omega))
        have HBKx := hide hblk
        have HMOx := hide hmods
        have hlax : LinesAt wr lb xs := ⟨(hmods.block lb (by omega) (by omega)).trans HL3.out.blk⟩
        have HLAx := hide hlax
        have hblx := HRx.out.block b hbw
        have x0 := (World.cell?_of_block (a := ⟨b, off + i * 3, none⟩) hblx).trans HC0.out
        have x1 := (World.cell?_of_block (a := ⟨b, off + i * 3 + 1, none⟩) hblx).trans HC1.out
        have x2 := (World.cell?_of_block (a := ⟨b, off + i * 3 + 2, none⟩) hblx).trans HC2.out
        have hbx : b < wr.heap.size := by have := HRx.out.size; omega
        have hbbx : bb < wr.heap.size := by omega
        have hlbx : lb < wr.heap.size := by omega
        clear hblk hmods hlax hblx d1
        by_cases hkl : k < T.size
        · have hkt : k < t.length := by rw [← HTS.out]; exact hkl
          have hbo := HBi.out k hkt
          have hby := HYes.out k (by omega)
          obtain ⟨⟨P1, P2⟩, hP⟩ : ∃ p, p = posL ⟨left, t, ms⟩ (k : Int) := ⟨_, rfl⟩
          rw [← hP] at hbo hby
          rw [← hDP.out] at hbo
          obtain ⟨g1, g2, g3, g4, g5, g6⟩ := hbo
          have hxl2 : (splitNL s.data.toList).length = xs.length := by rw [← HXS.out, List.length_map]
          rw [hxl2] at g2
          simp only at g1 g2 g3 g4 g5 g6 hby
          obtain ⟨li, hli⟩ : ∃ li : Nat, P1 = (li : Int) + 1 := ⟨(P1 - 1).toNat, by omega⟩
          obtain ⟨ci, hci⟩ : ∃ ci : Nat, P2 = (ci : Int) + 1 := ⟨(P2 - 1).toNat, by omega⟩
          subst hli
          subst hci
          have hlx : li < xs.length := by omega
          obtain ⟨X, hX⟩ : ∃ X, X = xs[li]'hlx := ⟨_, rfl⟩
          have hXd : X.data.toList = (splitNL s.data.toList).getD li [] := by
            rw [← HXS.out, List.getD_eq_getElem?_getD, List.getElem?_map, List.getElem?_eq_getElem hlx, hX]; rfl
          have HG6 : Hid (X.data.toList.getD ci 32 = T[k]'hkl) := by
            unfold Hid
            rw [show ((li : Int) + 1 - 1).toNat = li by omega, show ((ci : Int) + 1 - 1).toNat = ci by omega, ← hXd] at g6
            rw [g6]
            have e : T.data.toList[k]? = t[k]? := by rw [HTD.out]
            rw [List.getElem?_eq_getElem (by rw [len_data]; exact hkl), List.getElem?_eq_getElem hkt] at e
            exact (Option.some.inj e).symm
          have HY := hide hby
          have HNX : Hid ((((li : Int) + 1), ((ci : Int) + 1)) = bfP cs i (k + 1)) := by
            unfold Hid; rw [bfP_next, HEG.out]; exact hP
          have hlx2 : (li : Int) + 1 ≤ (xs.length : Int) := by omega
          have hci7 : 7 ≤ (ci : Int) := by omega
          have hci71 : (ci : Int) ≤ 71 := by omega
          have hli2 : li ≤ 2001 := by omega
          have G5 := hide g5
          clear hkt hby hP g1 g2 g3 g4 g5 g6 hxl2 hXd
          have HX := hide hX
          clear hX
          go_wp2_with fail
          refine (HY.out _ HRx.out).mono ?_
          rintro e w4 ⟨rfl, hb4⟩
          obtain ⟨W5, hW5⟩ : ∃ W, W = w4.alloc (.cells #[.int .i64 ((li : Int) + 1), .int .i64 ((ci : Int) + 1)] 32) := ⟨_, rfl⟩
          have HW5 := hide hW5
          have hk4 := blk_kept hb4 HBKx.out
          have e1x := hk4.cell 0
          have e2x := hk4.cell 1
          have hbb4 : bb < w4.heap.size := hk4.lt
          have HK5 : Hid (Blk W5 bb #[.int .i64 D1, .int .i64 D2] 32) := by rw [hW5]; exact hk4.alloc _
          have HP5 : Hid (Blk W5 w4.heap.size #[.int .i64 ((li : Int) + 1), .int .i64 ((ci : Int) + 1)] 32) := by rw [hW5]; exact blk_new w4 _ _
          have HM5 : Hid (Mods (fun j => j = bb) W3 W5) := by rw [hW5]; exact (HMOx.out.below hb4).alloc _
          have HR5 : Hid (Below w1.heap.size w1 W5) := by rw [hW5]; exact (HRx.out.trans (hb4.mono HRx.out.size)).alloc (HRx.out.trans (hb4.mono HRx.out.size)).size _
          have HLA5 : Hid (LinesAt W5 lb xs) := by rw [hW5]; exact ⟨(heap_alloc_old w4 _ (by have := hb4.size; omega)).trans (HLAx.out.below hb4).blk⟩
          have hbb5 : bb < W5.heap.size := HK5.out.lt
          have hp5 : w4.heap.size < W5.heap.size := HP5.out.lt
          have hlb5 : lb < W5.heap.size := by omega
          have hpb : bb ≠ w4.heap.size := by omega
          have hb5 : b < W5.heap.size := by have := HR5.out.size; omega
          clear hW5 hb4 hk4 x0 x1 x2
          go_upto_region 15 with fail
          rw [← HW5.out]
          go_cut [106] (fun s106 wx => s106 = .bool false ∧ wx = W5)
          case first =>
            have y1 := HK5.out.cell 0
            have y2 := HK5.out.cell 1
            have y3 := HP5.out.cell 0
            have y4 := HP5.out.cell 1
            have tri : ((((li : Int) + 1) == D1) = false ∧ D1 ≤ (li : Int) + 1) ∨ ((((li : Int) + 1) == D1) = true ∧ D1 ≤ (li : Int) + 1 ∧ D2 < (ci : Int) + 1) := by
              rcases G5.out with h | ⟨h, h2⟩
              · simp only at h
                exact .inl ⟨by rw [beq_eq_false_iff_ne]; omega, by omega⟩
              · simp only at h h2
                exact .inr ⟨by rw [beq_iff_eq]; omega, by omega, h2⟩
            clear e1x e2x
            rcases tri with ⟨q1, q2⟩ | ⟨q1, q2, q3⟩
            · go_wp2_with fail
              go_meet
              exact ⟨congrArg Value.bool (by simp only [Bool.or_eq_false_iff, decide_eq_false_iff_not]; omega), rfl⟩
            · go_wp2_with fail
              go_meet
              exact ⟨congrArg Value.bool (by simp only [Bool.or_eq_false_iff, decide_eq_false_iff_not]; omega), rfl⟩
          case rest =>
            obtain ⟨rfl, rfl⟩ := hcut
            clear e1x e2x
            have z0 := HLA5.out.cell li hlx
            rw [← HX.out] at z0
            have y3 := HP5.out.cell 0
            have y4 := HP5.out.cell 1
            have f0 := HK5.out.free 0
            have f1 := HK5.out.free 1
            have g0 := HK5.out.cell 0
            have g1 := HK5.out.cell 1
            have hbl5 := HR5.out.block b hbw
            have x1 := (World.cell?_of_block (a := ⟨b, off + i * 3 + 1, none⟩) hbl5).trans HC1.out
            have hw1 : IntKind.i64.wrap ((li : Int) + 1 - 1) = (li : Int) := by rw [IntWalk.i64_in _ (by omega)]; omega
            have hw2 : IntKind.i64.wrap ((ci : Int) + 1 - 1) = (ci : Int) := by rw [IntWalk.i64_in _ (by omega)]; omega
            clear hbl5
            by_cases hx : ci < X.size
            · have hb : (((X[ci]'hx).toNat : Int) != ((T[k]'hkl).toNat : Int)) = false := by
                have h := HG6.out
                rw [getD32 X ci hx] at h
                rw [h, bne_eq_false_iff_eq]
              have hle : (ci : Int) + 1 ≤ (X.size : Int) := by omega
              go_wp2_with fail
              go_quiet (fail)
              go_wp2_with fail
              go_quiet (fail)
              clear hw1 hw2
              go_wp2_with fail
              go_roundw
              case rel => exact ⟨k + 1, _, _, by go_num, hkl, HNX.out, blkS2 HK5.out _ _ _, (HM5.out.drewN _).set _ _ _ (fun _ => rfl) |>.set _ _ _ (fun _ => rfl)⟩
              case measure => simp [intOf]; omega
            · have hb : ((32 : Int) != ((T[k]'hkl).toNat : Int)) = false := by
                have h := HG6.out
                rw [List.getD_eq_getElem?_getD, List.getElem?_eq_none (by rw [len_data]; omega)] at h
                rw [← h]; rfl
              have hle : (X.size : Int) < (ci : Int) + 1 := by omega
              go_wp2_with fail
              go_quiet (fail)
              clear hw1 hw2
              go_wp2_with fail
              go_roundw
              case rel => exact ⟨k + 1, _, _, by go_num, hkl, HNX.out, blkS2 HK5.out _ _ _, (HM5.out.drewN _).set _ _ _ (fun _ => rfl) |>.set _ _ _ (fun _ => rfl)⟩
              case measure => simp [intOf]; omega
        · obtain rfl : k = T.size := by omega
          have hts := HTS.out
          have hEnd := HEi.out.2.2
          have hpos := HEi.out.2.1
          try simp only at hEnd
          try simp only at hpos
          have hlast := bfP_last cs i (by rw [HEG.out]; exact hpos)
          rw [HEG.out] at hlast
          try simp only at hlast
          rw [hlast, ← hts, ← hDP.out] at hEnd
          have HNX : Hid ((D1, D2) = bfP cs (i + 1) 0) := by unfold Hid; rw [hDP.out, hlast, hts]
          have hbo := HBi.out (t.length - 1) (by omega)
          have hD : posL ⟨left, t, ms⟩ ((t.length - 1 : Nat) : Int) = (D1, D2) := by
            rw [hDP.out, hts]
            unfold bfP
            rw [if_pos hpos, HEG.out]
          have g3 : 8 ≤ D2 := by have h := hbo.c1; rw [hD] at h; exact h
          have g4 : D2 ≤ 72 := by have h := hbo.c2; rw [hD] at h; exact h
          have HAE : Hid (∀ W, Below w1.heap.size w1 W → Calls Tryd.prog 19 #[.agg #[.bool left, .string T, .slice A' mn cap], .int .i64 (T.size : Int)] W fun e w' => e = .returned (.tuple #[.agg #[.int .i64 D1, .int .i64 (D2 + 1)], .int .i64 0]) ∧ Below W.heap.size W w') := fun W hb => by
            have := HYes.out T.size (Nat.le_refl _) W hb
            rw [hEnd] at this
            exact this
          have HA1 : Hid (∀ W, Below w1.heap.size w1 W → Calls Tryd.prog 19 #[.agg #[.bool left, .string T, .slice A' mn cap], .int .i64 ((T.size : Int) + 1)] W fun e w' => e = .returned (.tuple #[.agg #[.int .i64 0, .int .i64 0], .int .i64 1]) ∧ Below W.heap.size W w') := fun W hb => HNo.out ((T.size : Int) + 1) (.inr (by omega)) W hb
          have HA2 : Hid (∀ W, Below w1.heap.size w1 W → Calls Tryd.prog 19 #[.agg #[.bool left, .string T, .slice A' mn cap], .int .i64 (-1)] W fun e w' => e = .returned (.tuple #[.agg #[.int .i64 0, .int .i64 0], .int .i64 1]) ∧ Below W.heap.size W w') := fun W hb => HNo.out (-1) (.inl (by omega)) W hb
          clear hbo hts hEnd hpos hlast hD hDP
          have HRw := HRx
          go_upto_region 23 with fail
          go_cut [14, 15] (fun sp se wx => ∃ pb : Nat, sp = .pointer (some ⟨pb, 0, none⟩) ∧ se = .int .i64 0 ∧ wr.heap.size ≤ pb ∧ Blk wx pb #[.int .i64 D1, .int .i64 (D2 + 1)] 32 ∧ Below wr.heap.size wr wx)
          case first =>
            have hB1 := hide (show Below w1.heap.size w1 wr.drew from below_drewN HRw.out 1)
            have hB2 := hide (show Below w1.heap.size w1 (wr.alloc (.cells #[.int .i64 0, .int .i64 0] 32)).drew from below_drewN (HRw.out.alloc HRw.out.size _) 1)
            have hN := hide (show Blk (wr.alloc (.cells #[.int .i64 0, .int .i64 0] 32)).drew wr.heap.size #[.int .i64 0, .int .i64 0] 32 from blk_new wr _ _)
            have hE1 := hide (show Below wr.heap.size wr wr.drew from below_drewN (Below.refl _ _) 1)
            have hbne : b ≠ wr.heap.size := by omega
            have hE2 := hide (show Below wr.heap.size wr (wr.alloc (.cells #[.int .i64 0, .int .i64 0] 32)).drew from below_drewN ((Below.refl _ _).alloc (Nat.le_refl _) _) 1)
            have hB3 : Hid (Below w1.heap.size w1 (wr.drew.alloc (.cells #[.int .i64 0, .int .i64 0] 32))) := hB2
            have hN3 : Hid (Blk (wr.drew.alloc (.cells #[.int .i64 0, .int .i64 0] 32)) wr.heap.size #[.int .i64 0, .int .i64 0] 32) := hN
            have hE3 : Hid (Below wr.heap.size wr (wr.drew.alloc (.cells #[.int .i64 0, .int .i64 0] 32))) := (below_drewN (Below.refl wr.heap.size wr) 1).alloc (Nat.le_refl _) _
            go_region_held3 (fun w' => w'.cell? ⟨b, off + i * 3, none⟩ = some (.bool left) ∧ w'.cell? ⟨b, off + i * 3 + 1, none⟩ = some (.string T) ∧ w'.cell? ⟨b, off + i * 3 + 2, none⟩ = some (.slice A' mn cap))
              (first
                | go_keep
                | (go_split_ands
                   refine ⟨?_, ?_, ?_⟩
                   · (first | exact (World.cell?_of_block (a := ⟨b, off + i * 3, none⟩) (hb5.block b (by simp; omega))).trans (by assumption) | exact (World.cell?_of_block (a := ⟨b, off + i * 3, none⟩) (heap_alloc_old w5 _ hz5)).trans (by assumption) | exact (World.cell?_of_block (a := ⟨b, off + i * 3, none⟩) (heap_alloc_old w5 _ hz5)).trans ((World.cell?_of_block (a := ⟨b, off + i * 3, none⟩) (heap_alloc_old w5 _ hz5)).symm.trans (by assumption)) | exact (cellS2 _ _ _ _ _ _ hne5).trans (by assumption))
                   · (first | exact (World.cell?_of_block (a := ⟨b, off + i * 3 + 1, none⟩) (hb5.block b (by simp; omega))).trans (by assumption) | exact (World.cell?_of_block (a := ⟨b, off + i * 3 + 1, none⟩) (heap_alloc_old w5 _ hz5)).trans (by assumption) | exact (World.cell?_of_block (a := ⟨b, off + i * 3 + 1, none⟩) (heap_alloc_old w5 _ hz5)).trans ((World.cell?_of_block (a := ⟨b, off + i * 3 + 1, none⟩) (heap_alloc_old w5 _ hz5)).symm.trans (by assumption)) | exact (cellS2 _ _ _ _ _ _ hne5).trans (by assumption))
                   · (first | exact (World.cell?_of_block (a := ⟨b, off + i * 3 + 2, none⟩) (hb5.block b (by simp; omega))).trans (by assumption) | exact (World.cell?_of_block (a := ⟨b, off + i * 3 + 2, none⟩) (heap_alloc_old w5 _ hz5)).trans (by assumption) | exact (World.cell?_of_block (a := ⟨b, off + i * 3 + 2, none⟩) (heap_alloc_old w5 _ hz5)).trans ((World.cell?_of_block (a := ⟨b, off + i * 3 + 2, none⟩) (heap_alloc_old w5 _ hz5)).symm.trans (by assumption)) | exact (cellS2 _ _ _ _ _ _ hne5).trans (by assumption))))
              (first
                | (go_at_call 19; ((with_reducible refine (HAE.out wr.drew hB1.out).mono ?_); rintro e w5 ⟨rfl, hb5⟩; have hz5 : b < w5.heap.size := hS5 hb5.size (by simp; omega); have hne5 : b ≠ wr.heap.size := hbne; have HE5 := hide (hE1.out.trans (hb5.mono hE1.out.size)); have hy5 := HE5.out.size))
                | (go_at_call 19; ((with_reducible refine (HAE.out (wr.alloc (.cells #[.int .i64 0, .int .i64 0] 32)).drew hB2.out).mono ?_); rintro e w5 ⟨rfl, hb5⟩; have hz5 : b < w5.heap.size := hS5 hb5.size (by simp; omega); have hne5 : b ≠ wr.heap.size := hbne; have HE5 := hide (hE2.out.trans (hb5.mono hE2.out.size)); have HN5 := hide (blk_kept hb5 hN.out); have k0 := HN5.out.cell 0; have k1 := HN5.out.cell 1; have m0 := HN5.out.free 0; have m1 := HN5.out.free 1; have hy5 := HE5.out.size))
                | (go_at_call 19; ((with_reducible refine (HAE.out (wr.drew.alloc (.cells #[.int .i64 0, .int .i64 0] 32)) hB3.out).mono ?_); rintro e w5 ⟨rfl, hb5⟩; have hz5 : b < w5.heap.size := hS5 hb5.size (by simp; omega); have hne5 : b ≠ wr.heap.size := hbne; have HE5 := hide (hE3.out.trans (hb5.mono hE3.out.size)); have HN5 := hide (blk_kept hb5 hN3.out); have k0 := HN5.out.cell 0; have k1 := HN5.out.cell 1; have m0 := HN5.out.free 0; have m1 := HN5.out.free 1; have hy5 := HE5.out.size)))
            all_goals clear hb5
            all_goals go_wp2_with fail
            all_goals go_meet
            all_goals first
              | exact ⟨_, rfl, rfl, hy5, blk_new w5 _ _, HE5.out.alloc hy5 _⟩
              | exact ⟨_, rfl, rfl, Nat.le_refl _, (HN5.out.set 0 _).set 1 _, (HE5.out.setCell (p := ⟨_, 0, none⟩) (Nat.le_refl _) _).setCell (p := ⟨_, 1, none⟩) (Nat.le_refl _) _⟩
          case rest =>
          obtain ⟨pb, rfl, rfl, hpb, hpk, hbel⟩ := hcut
          have HRa : Hid (Below w1.heap.size w1 wc) := HRx.out.trans (hbel.mono HRx.out.size)
          have HBa : Hid (Below w.heap.size w wc) := HBx.out.trans (hbel.mono HBx.out.size)
          have HMa : Hid (Mods (fun j => j = bb) W3 wc) := HMOx.out.below hbel
          have HKa := hide (blk_kept hbel HBKx.out)
          have HPa := hide hpk
          have hbla := HRa.out.block b hbw
          have x0 := (World.cell?_of_block (a := ⟨b, off + i * 3, none⟩) hbla).trans HC0.out
          have x1 := (World.cell?_of_block (a := ⟨b, off + i * 3 + 1, none⟩) hbla).trans HC1.out
          have x2 := (World.cell?_of_block (a := ⟨b, off + i * 3 + 2, none⟩) hbla).trans HC2.out
          have hba : b < wc.heap.size := by have := HRa.out.size; omega
          have hbba : bb < wc.heap.size := HKa.out.lt
          have hpba : pb < wc.heap.size := HPa.out.lt
          clear hbel hpk hbla
          generalize wc = Wa at *
          have hw3 : IntKind.i64.wrap ((T.size : Int) + 1) = (T.size : Int) + 1 := by rw [IntWalk.i64_in _ (by omega)]
          go_upto_region 24 with fail
          go_cut [16, 17] (fun sp se wx => ∃ pb : Nat, sp = .pointer (some ⟨pb, 0, none⟩) ∧ se = .int .i64 1 ∧ Wa.heap.size ≤ pb ∧ Blk wx pb #[.int .i64 0, .int .i64 0] 32 ∧ Below Wa.heap.size Wa wx)
          case first =>
            have hB1 := hide (show Below w1.heap.size w1 Wa.drew from below_drewN HRa.out 1)
            have hB2 := hide (show Below w1.heap.size w1 (Wa.alloc (.cells #[.int .i64 0, .int .i64 0] 32)).drew from below_drewN (HRa.out.alloc HRa.out.size _) 1)
            have hN := hide (show Blk (Wa.alloc (.cells #[.int .i64 0, .int .i64 0] 32)).drew Wa.heap.size #[.int .i64 0, .int .i64 0] 32 from blk_new Wa _ _)
            have hE1 := hide (show Below Wa.heap.size Wa Wa.drew from below_drewN (Below.refl _ _) 1)
            have hbne : b ≠ Wa.heap.size := by omega
            have hE2 := hide (show Below Wa.heap.size Wa (Wa.alloc (.cells #[.int .i64 0, .int .i64 0] 32)).drew from below_drewN ((Below.refl _ _).alloc (Nat.le_refl _) _) 1)
            have hB3 : Hid (Below w1.heap.size w1 (Wa.drew.alloc (.cells #[.int .i64 0, .int .i64 0] 32))) := hB2
            have hN3 : Hid (Blk (Wa.drew.alloc (.cells #[.int .i64 0, .int .i64 0] 32)) Wa.heap.size #[.int .i64 0, .int .i64 0] 32) := hN
            have hE3 : Hid (Below Wa.heap.size Wa (Wa.drew.alloc (.cells #[.int .i64 0, .int .i64 0] 32))) := (below_drewN (Below.refl Wa.heap.size Wa) 1).alloc (Nat.le_refl _) _
            go_region_held3 (fun w' => w'.cell? ⟨b, off + i * 3, none⟩ = some (.bool left) ∧ w'.cell? ⟨b, off + i * 3 + 1, none⟩ = some (.string T) ∧ w'.cell? ⟨b, off + i * 3 + 2, none⟩ = some (.slice A' mn cap))
              (first
                | go_keep
                | (go_split_ands
                   refine ⟨?_, ?_, ?_⟩
                   · (first | exact (World.cell?_of_block (a := ⟨b, off + i * 3, none⟩) (hb5.block b (by simp; omega))).trans (by assumption) | exact (World.cell?_of_block (a := ⟨b, off + i * 3, none⟩) (heap_alloc_old w5 _ hz5)).trans (by assumption) | exact (World.cell?_of_block (a := ⟨b, off + i * 3, none⟩) (heap_alloc_old w5 _ hz5)).trans ((World.cell?_of_block (a := ⟨b, off + i * 3, none⟩) (heap_alloc_old w5 _ hz5)).symm.trans (by assumption)) | exact (cellS2 _ _ _ _ _ _ hne5).trans (by assumption))
                   · (first | exact (World.cell?_of_block (a := ⟨b, off + i * 3 + 1, none⟩) (hb5.block b (by simp; omega))).trans (by assumption) | exact (World.cell?_of_block (a := ⟨b, off + i * 3 + 1, none⟩) (heap_alloc_old w5 _ hz5)).trans (by assumption) | exact (World.cell?_of_block (a := ⟨b, off + i * 3 + 1, none⟩) (heap_alloc_old w5 _ hz5)).trans ((World.cell?_of_block (a := ⟨b, off + i * 3 + 1, none⟩) (heap_alloc_old w5 _ hz5)).symm.trans (by assumption)) | exact (cellS2 _ _ _ _ _ _ hne5).trans (by assumption))
                   · (first | exact (World.cell?_of_block (a := ⟨b, off + i * 3 + 2, none⟩) (hb5.block b (by simp; omega))).trans (by assumption) | exact (World.cell?_of_block (a := ⟨b, off + i * 3 + 2, none⟩) (heap_alloc_old w5 _ hz5)).trans (by assumption) | exact (World.cell?_of_block (a := ⟨b, off + i * 3 + 2, none⟩) (heap_alloc_old w5 _ hz5)).trans ((World.cell?_of_block (a := ⟨b, off + i * 3 + 2, none⟩) (heap_alloc_old w5 _ hz5)).symm.trans (by assumption)) | exact (cellS2 _ _ _ _ _ _ hne5).trans (by assumption))))
              (first
                | (go_at_call 19; ((with_reducible refine (HA1.out Wa.drew hB1.out).mono ?_); rintro e w5 ⟨rfl, hb5⟩; have hz5 : b < w5.heap.size := hS5 hb5.size (by simp; omega); have hne5 : b ≠ Wa.heap.size := hbne; have HE5 := hide (hE1.out.trans (hb5.mono hE1.out.size)); have hy5 := HE5.out.size))
                | (go_at_call 19; ((with_reducible refine (HA1.out (Wa.alloc (.cells #[.int .i64 0, .int .i64 0] 32)).drew hB2.out).mono ?_); rintro e w5 ⟨rfl, hb5⟩; have hz5 : b < w5.heap.size := hS5 hb5.size (by simp; omega); have hne5 : b ≠ Wa.heap.size := hbne; have HE5 := hide (hE2.out.trans (hb5.mono hE2.out.size)); have HN5 := hide (blk_kept hb5 hN.out); have k0 := HN5.out.cell 0; have k1 := HN5.out.cell 1; have m0 := HN5.out.free 0; have m1 := HN5.out.free 1; have hy5 := HE5.out.size))
                | (go_at_call 19; ((with_reducible refine (HA1.out (Wa.drew.alloc (.cells #[.int .i64 0, .int .i64 0] 32)) hB3.out).mono ?_); rintro e w5 ⟨rfl, hb5⟩; have hz5 : b < w5.heap.size := hS5 hb5.size (by simp; omega); have hne5 : b ≠ Wa.heap.size := hbne; have HE5 := hide (hE3.out.trans (hb5.mono hE3.out.size)); have HN5 := hide (blk_kept hb5 hN3.out); have k0 := HN5.out.cell 0; have k1 := HN5.out.cell 1; have m0 := HN5.out.free 0; have m1 := HN5.out.free 1; have hy5 := HE5.out.size)))
            all_goals clear hb5
            all_goals go_wp2_with fail
            all_goals go_meet
            all_goals first
              | exact ⟨_, rfl, rfl, hy5, blk_new w5 _ _, HE5.out.alloc hy5 _⟩
              | exact ⟨_, rfl, rfl, Nat.le_refl _, (HN5.out.set 0 _).set 1 _, (HE5.out.setCell (p := ⟨_, 0, none⟩) (Nat.le_refl _) _).setCell (p := ⟨_, 1, none⟩) (Nat.le_refl _) _⟩
          case rest =>
          obtain ⟨pb2, rfl, rfl, hpb2, hpk2, hbel⟩ := hcut
          have HRb : Hid (Below w1.heap.size w1 wc) := HRa.out.trans (hbel.mono HRa.out.size)
          have HBb : Hid (Below w.heap.size w wc) := HBa.out.trans (hbel.mono HBa.out.size)
          have HMb : Hid (Mods (fun j => j = bb) W3 wc) := HMa.out.below hbel
          have HKb := hide (blk_kept hbel HKa.out)
          have HPb := hide (blk_kept hbel HPa.out)
          have hbla := HRb.out.block b hbw
          have x0 := (World.cell?_of_block (a := ⟨b, off + i * 3, none⟩) hbla).trans HC0.out
          have x1 := (World.cell?_of_block (a := ⟨b, off + i * 3 + 1, none⟩) hbla).trans HC1.out
          have x2 := (World.cell?_of_block (a := ⟨b, off + i * 3 + 2, none⟩) hbla).trans HC2.out
          have hba : b < wc.heap.size := by have := HRb.out.size; omega
          clear hbel hpk2 hbla hw3
          generalize wc = Wb at *
          go_wp2_with fail
          refine (HA2.out _ HRb.out).mono ?_
          rintro e w7 ⟨rfl, hb7⟩
          have hk7 := blk_kept hb7 HKb.out
          have hp7 := blk_kept hb7 HPb.out
          have y0 := hk7.cell 0
          have y1 := hk7.cell 1
          have y2 := hp7.cell 0
          have y3 := hp7.cell 1
          have hl1 := hk7.lt
          have hl2 := hp7.lt
          have HK7 := hide hk7
          have HM7 : Hid (Mods (fun j => j = bb) W3 w7) := HMb.out.below hb7
          clear hk7 hp7 hb7 x0 x1 x2
          go_wp2_with fail
          go_roundw
          case rel => exact ⟨i + 1, D1, D2, by go_num, hlt, HNX.out, HK7.out.alloc _, HM7.out.alloc _⟩
          case measure => simp [intOf]; omega
    · obtain rfl : i = n := by omega
      go_wp2_with fail
      refine (hL.out _ HBr.out).mono ?_
      rintro e w9 ⟨rfl, hb9⟩
      have HB9 := hide (HBr.out.trans (hb9.mono HBr.out.size))
      clear hb9
      go_wp2_with fail
      go_ret
      exact ⟨rfl, HB9.out⟩
end Go.Proofs.YtghgakdbfllbeaaDoor
