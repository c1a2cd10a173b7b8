/-
  THE WALK of the law ColumnsWrite (layer 2, columns).
-/
import Derived.Test.YtghgakdbfllbeaaDoorWrtQ
import Derived.Test.YtghgakdbfllbeaaDoorSplC
import Derived.Test.YtghgakdbfllbeaaDoorLvs
import Derived.Test.YtghgakdbfllbeaaDoorLawR
import Derived.Test.YtghgakdbfllbeaaDoorLawE
namespace Go.Proofs.YtghgakdbfllbeaaDoor
open Go.RowKit Go.Shelf

theorem mk_size (l : List UInt8) : (mk l).size = l.length := by
  show l.toArray.size = _
  rw [List.size_toArray]
set_option maxHeartbeats 4000000 in
set_option maxRecDepth 100000 in
/-- a text that is too long for the law -/
theorem WriteLaw_far (s : ByteArray) (left : Bool) (w : World) (hs : s.size ≤ maxLen) (h : 1000 < s.size) (htab : Lib.TabIs Tryd.prog w "internal/strconv.uint64pow10" .u64 Lib.pow10Tab) :
    Calls Tryd.prog 3 #[.string s, .bool left] w fun e w' => e = .returned (.bool true) ∧ Below w.heap.size w w' := by
  unfold maxLen at hs
  have hL := hide (lives_c w htab)
  clear htab
  go_enter Tryd.func3, Tryd.ntmps3
  go_wp2_with fail
  refine hL.out.mono ?_
  rintro e w1 ⟨rfl, hb1⟩
  go_wp2_with fail
  go_ret
  exact ⟨rfl, hb1⟩
set_option maxHeartbeats 4000000 in
set_option maxRecDepth 100000 in
/-- a text that is not right -/
theorem WriteLaw_bad (s : ByteArray) (left : Bool) (w : World) (hs : s.size ≤ 1000) (hr : rightL s.data.toList = false) (htab : Lib.TabIs Tryd.prog w "internal/strconv.uint64pow10" .u64 Lib.pow10Tab) :
    Calls Tryd.prog 3 #[.string s, .bool left] w fun e w' => e = .returned (.bool true) ∧ Below w.heap.size w w' := by
  have hL : Hid (∀ w1, Below w.heap.size w w1 → Calls Tryd.prog 8 #[] w1 fun e w' => e = .returned (.bool true) ∧ Below w1.heap.size w1 w') := fun w1 hb => lives_c w1 (tab_below htab hb)
  have hl := blk_new w #[.bool left, .string s] 27
  have HBa := hide ((Below.refl _ w).alloc (Nat.le_refl _) (.cells #[.bool left, .string s] 27))
  have hW := hide (Write_bad left s w.heap.size 0 1 (w.alloc (.cells #[.bool left, .string s] 27)) (by omega) (hl.cell 0) (hl.cell 1) hl.lt hr)
  have hR : Hid (∀ w1, Calls Tryd.prog 10 #[.string s] w1 fun e w' => e = .returned (.bool false) ∧ Below w1.heap.size w1 w') := fun w1 => by
    have := right_c s w1 (by omega)
    rw [hr] at this; exact this
  clear hl htab hr
  go_enter Tryd.func3, Tryd.ntmps3
  go_wp2_with fail
  refine hW.out.mono ?_
  rintro e w1 ⟨rfl, hb1⟩
  have HB1 := hide (HBa.out.trans (hb1.mono HBa.out.size))
  clear hb1
  go_wp2_with fail
  refine (hR.out _).mono ?_
  rintro e w2 ⟨rfl, hb2⟩
  have HB2 := hide (HB1.out.trans (hb2.mono HB1.out.size))
  clear hb2
  go_wp2_with fail
  refine (hL.out _ HB2.out).mono ?_
  rintro e w3 ⟨rfl, hb3⟩
  have HB3 := hide (HB2.out.trans (hb3.mono HB2.out.size))
  clear hb3
  go_wp2_with fail
  go_ret
  exact ⟨rfl, HB3.out⟩

set_option maxHeartbeats 8000000 in
set_option maxRecDepth 100000 in
/-- a text that is right -/
theorem WriteLaw_ok (s : ByteArray) (left : Bool) (w : World) (hs : s.size ≤ 1000) (hr : rightL s.data.toList = true) (htab : Lib.TabIs Tryd.prog w "internal/strconv.uint64pow10" .u64 Lib.pow10Tab) (hmx : MaxI w) :
    Calls Tryd.prog 3 #[.string s, .bool left] w fun e w' => e = .returned (.bool true) ∧ Below w.heap.size w w' := by
  have hL : Hid (∀ w1, Below w.heap.size w w1 → Calls Tryd.prog 8 #[] w1 fun e w' => e = .returned (.bool true) ∧ Below w1.heap.size w1 w') := fun w1 hb => lives_c w1 (tab_below htab hb)
  have hl := blk_new w #[.bool left, .string s] 27
  have HBa := hide ((Below.refl _ w).alloc (Nat.le_refl _) (.cells #[.bool left, .string s] 27))
  obtain ⟨hsz1, hsz2, hsz3⟩ := write_size s.data.toList left hr
  rw [len_data] at hsz1 hsz2 hsz3
  obtain ⟨pre, c, hread, hsq, jj, hleft⟩ := write_read s.data.toList left hr
  obtain ⟨ls, hsplit, hlines⟩ := write_lines s.data.toList left hr
  have hW := hide (Write_one left s w.heap.size 0 1 (w.alloc (.cells #[.bool left, .string s] 27)) (by omega) (hl.cell 0) (hl.cell 1) hl.lt hr (tab_below htab HBa.out) (by omega))
  obtain ⟨out, hout⟩ : ∃ out, out = outL 0 (piecesL (frontL left) s.data.toList false) := ⟨_, rfl⟩
  rw [← hout] at hW hsz1 hsz2 hsz3 hread hsplit
  clear hout
  have hT : readT false out = .ok (pre ++ [c]) := by unfold readT; rw [if_neg (by omega), hread]
  have htot := readT_tot false out
  rw [hT] at htot
  simp only [resCs] at htot
  obtain ⟨cs, hcs⟩ : ∃ cs, cs = pre ++ [c] := ⟨_, rfl⟩
  obtain ⟨n, hn⟩ : ∃ n, n = cs.length := ⟨_, rfl⟩
  have hn1 : 1 ≤ n := by rw [hn, hcs, List.length_append]; simp
  have hn2 : n ≤ 1001 := by rw [hn, hcs]; omega
  have htl : totL cs ≤ 65 * 1001 := by rw [hcs]; omega
  obtain ⟨O, hO⟩ : ∃ O, O = mk out := ⟨_, rfl⟩
  have hOs : O.size ≤ 73000 := by rw [hO, mk_size]; omega
  have hOd : O.data.toList = out := by rw [hO]; rfl
  rw [← hO] at hW
  have hRD : Hid (∀ w1, Calls Tryd.prog 11 #[.string O, .bool false] w1 fun e w' => ∃ A, e = .returned (.tuple #[.slice A n n, .agg #[.int .i64 0, .int .i64 0, .int .i64 0]]) ∧ CardsAt w' w'.heap.size A cs ∧ Below w1.heap.size w1 w') := fun w1 => by
    have h := Read_all O false w1 (by omega) (fun _ => by
      have := List.length_filter_le (countsL false) ((chunks O.data.toList).map stripL)
      rw [hOd] at this ⊢; omega)
    rw [hOd, hT] at h
    refine h.mono fun e w' hp => ?_
    obtain ⟨A, h1, h2, _, h4⟩ := hp
    simp only [resCs, ← hcs] at h1 h2
    rw [← hn] at h1
    exact ⟨A, h1, h2, h4⟩
  have hR : Hid (∀ w1, Calls Tryd.prog 10 #[.string s] w1 fun e w' => e = .returned (.bool true) ∧ Below w1.heap.size w1 w') := fun w1 => by
    have := right_c s w1 (by omega)
    rw [hr] at this; exact this
  have hSP : Hid (∀ w1, Below w.heap.size w w1 → Calls Tryd.prog 12 #[.string O, .string ⟨#[10]⟩] w1 fun e w' => ∃ xs : List ByteArray, xs.map (·.data.toList) = ls ++ [[]] ∧ e = .returned (.slice (some ⟨w1.heap.size, 0, none⟩) xs.length xs.length) ∧ LinesAt w' w1.heap.size xs ∧ Below w1.heap.size w1 w') := fun w1 hb => by
    have := Split_nl O w1 (by omega) (hmx.below hb)
    rw [hOd, hsplit] at this; exact this
  obtain ⟨Q, hQ⟩ : ∃ Q, Q = mk (squeezeL s.data.toList) := ⟨_, rfl⟩
  have hQ1 : Hid (∀ w1, Calls Tryd.prog 13 #[.string s] w1 fun e w' => e = .returned (.string Q) ∧ w1 = w') := fun w1 => by rw [hQ]; exact Squeeze_c s w1 (by omega)
  have hQ2 : Hid (∀ (J : ByteArray) w1, J.data.toList = jnL cs n → J.size ≤ 2000000 → Calls Tryd.prog 13 #[.string J] w1 fun e w' => e = .returned (.string Q) ∧ w1 = w') := fun J w1 hJ hJs => by
    have h := Squeeze_c J w1 hJs
    have e : n = pre.length + 1 := by rw [hn, hcs, List.length_append]; rfl
    rw [hJ, e, hcs, jnL_all, hsq, ← hQ] at h
    exact h
  have HL0 : Hid (∀ h : 0 < cs.length, (cs[0]'h).left = left) := fun h => by
    have e : (cs.map (·.left))[0]? = some left := by rw [hcs, hleft]; rfl
    rw [List.getElem?_map, List.getElem?_eq_getElem h] at e
    simpa using e
  have HL1 : Hid (∀ k (h : k < cs.length), 0 < k → (cs[k]'h).left = false) := fun k h h0 => by
    have e : (cs.map (·.left))[k]? = (List.replicate jj false)[k - 1]? := by
      rw [hcs, hleft]
      cases k with
      | zero => omega
      | succ k => rfl
    rw [List.getElem?_map, List.getElem?_eq_getElem h, List.getElem?_replicate] at e
    split at e
    · simpa using e
    · simp at e
  have HTL : Hid (∀ k (h : k < cs.length), (mk (cs[k]'h).text).size ≤ 65065) := fun k h => by
    have := totL_mem cs _ (List.getElem_mem h)
    rw [mk_size]; omega
  have HJL : Hid (∀ k, k ≤ cs.length → (jnL cs k).length ≤ 70000) := fun k hk => by
    have h1 := jnL_len cs k hk
    have h2 : totL (cs.take k) ≤ totL cs := by
      have := totL_append (cs.take k) (cs.drop k)
      rw [List.take_append_drop] at this; omega
    omega
  have hlsl : ls.length ≤ 1000 := by
    rw [hsplit, List.length_append] at hsz3
    simp only [List.length_cons, List.length_nil] at hsz3
    omega
  have HN := hide hn
  have HLN := hide hlines
  clear hl htab hr hsz1 hsz2 hsz3 hread hsq hsplit hT htot hcs hn htl hO hOd hQ hmx hleft hlines
  go_enter Tryd.func3, Tryd.ntmps3
  go_wp2_with fail
  refine hW.out.mono ?_
  rintro e w1 ⟨rfl, hb1⟩
  have HB1 := hide (HBa.out.trans (hb1.mono HBa.out.size))
  clear hb1
  go_wp2_with fail
  refine (hR.out _).mono ?_
  rintro e w2 ⟨rfl, hb2⟩
  have HB2 := hide (HB1.out.trans (hb2.mono HB1.out.size))
  clear hb2
  go_wp2_with fail
  refine (hRD.out _).mono ?_
  rintro e w3 ⟨A, rfl, hcards, hb3⟩
  have HB3 := hide (HB2.out.trans (hb3.mono HB2.out.size))
  obtain ⟨b, off, rfl, hbl, -⟩ := hcards.at_ 0 (by rw [← HN.out]; omega)
  have HCC : Hid (∀ k (h : k < cs.length), w3.cell? ⟨b, off + k * 3, none⟩ = some (.bool (cs[k]'h).left) ∧ w3.cell? ⟨b, off + k * 3 + 1, none⟩ = some (.string (mk (cs[k]'h).text))) := fun k h => by
    obtain ⟨b', off', he, _, hc⟩ := hcards.at_ k h
    injection he with he; injection he with e1 e2; subst e1; subst e2
    exact ⟨hc.1, hc.2.1⟩
  clear hcards hb3 hW hR hRD HBa
  obtain ⟨W, hW⟩ : ∃ W, W = w3.alloc (.cells #[.int .i64 0, .int .i64 0, .int .i64 0] 34) := ⟨_, rfl⟩
  have hbW : b < W.heap.size := by rw [hW]; simp; omega
  have HBW : Hid (Below w.heap.size w W) := by rw [hW]; exact HB3.out.alloc HB3.out.size _
  have HFW : Hid (Blk W w3.heap.size #[.int .i64 0, .int .i64 0, .int .i64 0] 34) := by rw [hW]; exact blk_new _ _ _
  have HCW : Hid (∀ k (h : k < cs.length), W.cell? ⟨b, off + k * 3, none⟩ = some (.bool (cs[k]'h).left) ∧ W.cell? ⟨b, off + k * 3 + 1, none⟩ = some (.string (mk (cs[k]'h).text))) := fun k h => by
    have hbo := heap_alloc_old w3 (.cells #[.int .i64 0, .int .i64 0, .int .i64 0] 34) hbl
    rw [hW]
    exact ⟨(World.cell?_of_block hbo).trans (HCC.out k h).1, (World.cell?_of_block hbo).trans (HCC.out k h).2⟩
  have hn0 : 0 < cs.length := by rw [← HN.out]; omega
  obtain ⟨x0, x1⟩ := HCC.out 0 hn0
  rw [Nat.zero_mul, Nat.add_zero] at x0 x1
  rw [HL0.out hn0] at x0
  obtain ⟨T0, hT0⟩ : ∃ T, T = mk (cs[0]'hn0).text := ⟨_, rfl⟩
  rw [← hT0] at x1
  have HJ1 : Hid (T0.data.toList = jnL cs 1 ∧ T0.size ≤ 70000) := by
    have e : jnL cs 1 = (cs[0]'hn0).text := by
      unfold jnL
      rw [if_pos rfl, List.getD_eq_getElem?_getD, List.getElem?_eq_getElem hn0]; rfl
    refine ⟨by rw [hT0, e]; rfl, ?_⟩
    rw [hT0]; have := HTL.out 0 hn0; omega
  have e0 : ((n : Int) == 0) = false := by rw [beq_eq_false_iff_ne]; omega
  have hnn : 0 < n := by omega
  clear hT0 HCC
  go_wp2_with fail
  rw [← hW]
  clear hW
  go_loop [9, 10] (fun v9 v10 => ∃ (k : Nat) (J : ByteArray), v9 = .string J ∧ v10 = .int .i64 (k : Int) ∧ 1 ≤ k ∧ k ≤ n ∧ J.size ≤ 70000 ∧ Hid (J.data.toList = jnL cs k)) (fun _ v10 => n - (intOf v10).toNat)
  case atStart => exact ⟨1, T0, rfl, rfl, Nat.le_refl _, hn1, HJ1.out.2, HJ1.out.1⟩
  case round =>
    obtain ⟨k, J, rfl, rfl, hk1, hk, hJs, hJ⟩ := hrel
    by_cases hlt : k < n
    · have hltc : k < cs.length := by rw [← HN.out]; exact hlt
      obtain ⟨y0, y1⟩ := HCW.out k hltc
      rw [HL1.out k hltc hk1] at y0
      obtain ⟨T, hT⟩ : ∃ T, T = mk (cs[k]'hltc).text := ⟨_, rfl⟩
      rw [← hT] at y1
      have HJ2 : Hid ((J ++ ⟨#[32]⟩ ++ T).data.toList = jnL cs (k + 1)) := by
        unfold Hid jnL
        rw [if_neg (by omega), List.getD_eq_getElem?_getD, List.getElem?_eq_getElem hltc, ByteArray.data_append, ByteArray.data_append, Array.toList_append, Array.toList_append, hJ.out, hT]; rfl
      have hT2 : T.size ≤ 70000 := by rw [hT]; have := HTL.out k hltc; omega
      have HJ3 : Hid ((J ++ ⟨#[32]⟩ ++ T).size ≤ 70000) := by
        unfold Hid; rw [← len_data, HJ2.out]; exact HJL.out (k + 1) (by omega)
      clear hT hJ hltc
      go_wp2_with fail
      go_round
      case rel => exact ⟨k + 1, _, rfl, by go_num, by omega, hlt, HJ3.out, HJ2.out⟩
      case measure => simp [intOf]; omega
    · obtain rfl : k = n := by omega
      go_wp2_with fail
      refine (hSP.out _ HBW.out).mono ?_
      rintro e w5 ⟨xs, hxs, rfl, hla, hb5⟩
      have HB5 := hide (HBW.out.trans (hb5.mono HBW.out.size))
      have hxl : xs.length = ls.length + 1 := by
        have := congrArg List.length hxs
        simpa using this
      have HXN : Hid (∀ i (h : i < xs.length), (xs[i]'h).data.toList = (ls ++ [[]]).getD i []) := fun i h => by
        have e : (xs.map (·.data.toList))[i]? = (ls ++ [[]])[i]? := by rw [hxs]
        rw [List.getElem?_map, List.getElem?_eq_getElem h] at e
        rw [List.getD_eq_getElem?_getD, ← e]; rfl
      have HLA := hide hla
      have hlb := lt_of_block hla.blk
      have hx0 : 0 < xs.length := by omega
      have hxbig : xs.length ≤ 80000 := by omega
      have HQ2 := hide (fun w1 => hQ2.out J w1 hJ.out (by omega))
      have HXL := hide hxl
      clear hla hb5 hxs hJ hxl
      go_wp2_with fail
      go_loop [12] (fun v12 => ∃ (i : Nat), v12 = .int .i64 (i : Int) ∧ i + 1 ≤ xs.length) (fun v12 => xs.length - (intOf v12).toNat)
      case atStart => exact ⟨0, rfl, by omega⟩
      case round =>
        obtain ⟨i, rfl, hi⟩ := hrel
        by_cases hil : i + 1 < xs.length
        · have hi0 : i < xs.length := by omega
          have z0 := HLA.out.cell i hi0
          obtain ⟨X, hX⟩ : ∃ X, X = xs[i]'hi0 := ⟨_, rfl⟩
          have hXs : 8 ≤ X.size ∧ X.size ≤ 72 := by
            have h1 := HXN.out i hi0
            have h2 := HXL.out
            rw [List.getD_eq_getElem?_getD, List.getElem?_append_left (by omega), List.getElem?_eq_getElem (by omega)] at h1
            rw [← len_data, hX, h1]
            exact HLN.out _ (List.getElem_mem _)
          rw [← hX] at z0
          obtain ⟨hX8, hX72⟩ := hXs
          clear hX
          go_wp2_with fail
          go_round
          case rel => exact ⟨i + 1, by go_num, by omega⟩
          case measure => simp [intOf]; omega
        · obtain rfl : i = xs.length - 1 := by omega
          have hi0 : xs.length - 1 < xs.length := by omega
          have z0 := HLA.out.cell (xs.length - 1) hi0
          have hX : xs[xs.length - 1]'hi0 = ⟨#[]⟩ := by
            have h1 := HXN.out (xs.length - 1) hi0
            have h2 := HXL.out
            rw [List.getD_eq_getElem?_getD, List.getElem?_append_right (by omega), show xs.length - 1 - ls.length = 0 by omega] at h1
            have h3 : (xs[xs.length - 1]'hi0).data.toList = [] := by
              rw [h1]; rfl
            have h4 : (xs[xs.length - 1]'hi0).data = #[] := by simpa using h3
            exact ByteArray.ext h4
          rw [hX] at z0
          clear hX
          go_wp2_with fail
          refine (HQ2.out _).mono ?_
          rintro e w6 ⟨rfl, rfl⟩
          go_wp2_with fail
          refine (hQ1.out _).mono ?_
          rintro e w7 ⟨rfl, rfl⟩
          go_wp2_with fail
          refine (hL.out _ HB5.out).mono ?_
          rintro e w8 ⟨rfl, hb8⟩
          have HB8 := hide (HB5.out.trans (hb8.mono HB5.out.size))
          clear hb8
          go_wp2_with fail
          go_ret
          exact ⟨rfl, HB8.out⟩
end Go.Proofs.YtghgakdbfllbeaaDoor
