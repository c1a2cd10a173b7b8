/-
  THE CONTRACT of the reader's add (layer 2, columns).
-/
import Derived.Test.YteceealibfemjaaDoorPart
import Derived.Deep.RegionHeld3
import Derived.Deep.DeepCutAuto
import Derived.IntWalk
namespace Go.Proofs.YteceealibfemjaaDoor
open Go.RowKit

theorem markInfo : (Tryd.prog.info? 115).map (fun i => (i.zero, i.size, i.bytes)) = some (some (.agg #[.int .i64 0, .int .i64 0, .int .i64 0]), 3, 24) := by kernel_rfl
/-- a card with a part that is added -/
def addC (c : CardL) (p : List UInt8) (line col : Int) : CardL := ⟨c.left, c.text ++ p, if p = [] then c.marks else c.marks ++ [((c.text.length : Int), line, col)]⟩

/-- behind 'card.Marks = append(card.Marks, ..)' -/
def AddCut (W wx : World) (B g cap : Nat) (cs : List (CardL × Value)) (c : CardL) (mv : Value) (m : MarkL) : Prop :=
  ∃ v1, OutI wx B (.slice (some ⟨g, 0, none⟩) (cs.length + 1) cap) (cs ++ [(⟨c.left, [], c.marks ++ [m]⟩, v1)]) ∧ wx.ownsRow B 115 3 v1 (c.marks.length + 1) (markCells (c.marks ++ [m])) ∧
    Mods (fun j => j = g ∨ mv.ownBlock = some j) W wx

set_option maxHeartbeats 6000000 in
set_option maxRecDepth 100000 in
theorem add_c (B br : Nat) (w : World) (pre : List CardL) (c : CardL) (ln co line : Int) (s : ByteArray) (k : Nat) (h : RCur B br w pre c ln co) (hk : k + 7 ≤ min s.size 72) (hs : s.size ≤ 2000000) (hB : br < B) (hBw : B ≤ w.heap.size)
    (hl1 : pre.length ≤ 1000000) (hl2 : c.text.length ≤ 5000000) (hl3 : c.marks.length ≤ 1000000) :
    Calls Tryd.prog 83 #[.pointer (some ⟨br, 0, none⟩), .agg #[.int .i64 line, .string s], .int .i64 ((k : Int) + 8)] w fun e w' => e = .returned (.tuple #[]) ∧
      RCur B br w' pre (addC c (tailL ((textOf s.data.toList).drop k) c.text) line ((k : Int) + 8)) line ((k : Int) + 8) ∧ FrR B br w w' := by
  have hE := hide (fun (w1 : World) => end_rc line s w1 hs)
  obtain ⟨m, hm⟩ : ∃ m, m = min s.size 72 := ⟨_, rfl⟩
  rw [← hm] at hE hk
  have hm1 : m ≤ s.size := by omega
  have hm2 : m ≤ 72 := by omega
  have HM := hide hm
  obtain ⟨R, hR⟩ : ∃ R, R = s.extract (k + 7) m := ⟨_, rfl⟩
  have HR := hide hR
  clear hm hR
  have hw0 : IntKind.i64.wrap ((k : Int) + 8 - 1) = (k : Int) + 7 := by rw [IntWalk.i64_in _ (by omega)]; omega
  have hw1 : 0 ≤ (k : Int) + 7 := by omega
  have hw2 : ((k : Int) + 7).toNat = k + 7 := by omega
  have hw3 : (k : Int) + 7 ≤ (m : Int) := by omega
  go_enter Tryd.func83, Tryd.ntmps83
  go_upto_region 1 with fail
  go_cut [6] (fun s6 wx => s6 = .string R ∧ Blk wx w.heap.size #[.int .i64 line, .string s] 93 ∧ Below (w.alloc (.cells #[.int .i64 line, .string s] 93)).heap.size (w.alloc (.cells #[.int .i64 line, .string s] 93)) wx)
  case first =>
    go_region_with (go_at_call 82; refine (hE.out _).mono ?_; rintro e w1 ⟨rfl, hb1⟩; have q0 := blk_kept hb1 (blk_new w #[.int .i64 line, .string s] 93); have q1 : w1.cell? ⟨w.heap.size, 1, none⟩ = some (.string s) := q0.cell 1)
    all_goals
      go_wp2_with fail
      go_meet
      exact ⟨by rw [HR.out], q0, (Below.drew (Below.refl _ _)).trans hb1⟩
  case rest =>
    obtain ⟨rfl, hrow, hbel⟩ := hcut
    obtain ⟨cs, g, cap, mv, p, bv, qb, h⟩ := h
    obtain ⟨q, hq⟩ : ∃ q, q = openL c.text := ⟨_, rfl⟩
    have hbx := h.blk.alloc (.cells #[.int .i64 line, .string s] 93)
    have hmW : Mods (fun _ => False) w wc := ((Mods.refl _ w).alloc (.cells #[.int .i64 line, .string s] 93)).below hbel
    have hb0 := h.blk.mods hmW (fun e => e)
    have hqb := box_kept h.box hmW (fun e => e)
    have hqlt := h.box.lt
    rw [← hq] at hb0 hqb
    have hraw : R.data.toList = (s.data.toList.take m).drop (k + 7) := by rw [HR.out]; exact extract_at s _ _
    have hrs : R.size ≤ 72 := by rw [HR.out]; simp; omega
    have hcnt := hide (count_c R qb q wc hqb (by omega))
    obtain ⟨q', hq'⟩ : ∃ q', q' = (q != openL R.data.toList) := ⟨_, rfl⟩
    rw [← hq'] at hcnt
    have c2 : wc.cell? ⟨br, 3, none⟩ = some (.func (.func 53) #[] #[.pointer (some ⟨qb, 0, none⟩)]) := hb0.cell 3
    have hbrlt := hb0.lt
    have eg : ∀ args w, (callFunc 53 args).run Tryd.prog w = .ok (.enter 53 args) w := enters_of Tryd.func53 (by kernel_rfl) rfl
    have HB0 := hide hb0
    have HROW := hide hrow
    have HQ := hide hq
    have HQ' := hide hq'
    have HRAW := hide hraw
    have HMW := hide hmW
    have habove := h.above
    have H := hide h
    clear hb0 hrow hq hq' hraw hmW h hqb hbel hE hbx
    go_wp2_with fail
    refine hcnt.out.mono ?_
    rintro e w2 ⟨rfl, hbox2, hm2⟩
    have hb2 := HB0.out.mods hm2 (by omega)
    have hrow2 := HROW.out.mods hm2 (by omega)
    have hn2 : w2.cell? ⟨br, 4, none⟩ = some (.bool q) := hb2.cell 4
    have f4 := hb2.free 4
    have hP : Hid (tailL ((textOf s.data.toList).drop k) c.text = if q' = true then R.data.toList ++ List.replicate (72 - m) 32 else endL R.data.toList) := by
      have hk' : k + 7 ≤ min s.data.toList.length 72 := by rw [len_data, ← HM.out]; exact hk
      have := tailL_drop s.data.toList c.text k hk'
      rw [len_data, ← HM.out, ← HRAW.out, ← HQ.out, ← HQ'.out] at this
      exact this
    obtain ⟨P, hPd⟩ : ∃ P, P = tailL ((textOf s.data.toList).drop k) c.text := ⟨_, rfl⟩
    rw [← hPd] at hP
    have HPD := hide hPd
    have HB2 := hide hb2
    have HROW2 := hide hrow2
    have HM2 := hide hm2
    have HBOX2 := hide hbox2
    have hb3 := HB2.out.set 4 (.bool q')
    have hrow3 := HROW2.out.mods ((Mods.refl (· = br) w2).set br 4 (.bool q') (fun _ => rfl)) (by omega)
    have g4 : (w2.setCell ⟨br, 4, none⟩ (.bool q')).cell? ⟨br, 4, none⟩ = some (.bool q') := hb3.cell 4
    have r0 : (w2.setCell ⟨br, 4, none⟩ (.bool q')).cell? ⟨w.heap.size, 0, none⟩ = some (.int .i64 line) := hrow3.cell 0
    have r1 : (w2.setCell ⟨br, 4, none⟩ (.bool q')).cell? ⟨w.heap.size, 1, none⟩ = some (.string s) := hrow3.cell 1
    have HB3 := hide hb3
    have HROW3 := hide hrow3
    clear hb2 hrow2 hm2 hbox2 hPd hb3 hrow3 hcnt
    go_upto_if 27 with fail
    go_cut [6] (fun s6 wx => s6 = .string (mk P) ∧ Below (w2.setCell ⟨br, 4, none⟩ (.bool q')).heap.size (w2.setCell ⟨br, 4, none⟩ (.bool q')) wx)
    case first =>
      cases q'
      · have hP' : Hid (mk P = ⟨(Lib.trimRightB R.data.toList 32).toArray⟩) := by unfold Hid; rw [hP.out]; rfl
        have htr := hide (fun (w1 : World) => Tryd.strings_TrimRight_one R 32 (by decide) w1 (by omega))
        go_wp2_with fail
        refine (htr.out _).mono ?_
        rintro e w' ⟨rfl, rfl⟩
        go_wp2_with fail
        go_meet
        exact ⟨by rw [hP'.out], Below.refl _ _⟩
      · have hP' : Hid (mk P = R ++ ⟨(Lib.repeatL [32] (72 - m)).toArray⟩) := by
          unfold Hid; rw [hP.out, repeat_one, if_pos rfl]
          apply ByteArray.ext
          simp [mk]
        have hE2 := hide (fun (w1 : World) => end_rc line s w1 hs)
        have hmm : min s.size 72 = m := HM.out.symm
        rw [hmm] at hE2
        go_wp2_with fail
        refine (hE2.out _).mono ?_
        rintro e w4 ⟨rfl, hb4⟩
        have hRep : Hid (∀ w1, Calls Tryd.prog 20 #[.string ⟨#[32]⟩, .int .i64 (72 - (m : Int))] w1 fun e w' => e = .returned (.string ⟨(Lib.repeatL [32] (72 - m)).toArray⟩) ∧ Below w1.heap.size w1 w') := fun w1 => by
          have e : (72 : Int) - m = ((72 - m : Nat) : Int) := by omega
          rw [e]
          exact Tryd.strings_Repeat ⟨#[32]⟩ (72 - m) w1 (by omega) (by show 1 * (72 - m) ≤ _; omega)
        go_wp2_with fail
        refine (hRep.out _).mono ?_
        rintro e w5 ⟨rfl, hb5⟩
        have hadd := run_string_add_sum (P := Tryd.prog) w5 R ⟨(Lib.repeatL [32] (72 - m)).toArray⟩ (by
          have : (⟨(Lib.repeatL [32] (72 - m)).toArray⟩ : ByteArray).size = 72 - m := by rw [repeat_one]; simp [ByteArray.size]
          omega)
        go_wp2_with fail
        go_meet
        exact ⟨by rw [hP'.out], hb4.trans (hb5.mono hb4.size)⟩
    case rest =>
      obtain ⟨rfl, hbel6⟩ := hcut
      have hb6 := blk_kept hbel6 HB3.out
      have hrow6 := blk_kept hbel6 HROW3.out
      have n5 : wc.cell? ⟨br, 5, none⟩ = some (.int .i64 ln) := hb6.cell 5
      have n6 : wc.cell? ⟨br, 6, none⟩ = some (.int .i64 co) := hb6.cell 6
      have f5 := hb6.free 5
      have f6 := hb6.free 6
      have r2 : wc.cell? ⟨w.heap.size, 0, none⟩ = some (.int .i64 line) := hrow6.cell 0
      have hb7 := (hb6.set 5 (.int .i64 line)).set 6 (.int .i64 ((k : Int) + 8))
      have hm3 : Mods (fun j => j = br ∨ j = qb) w ((wc.setCell ⟨br, 5, none⟩ (.int .i64 line)).setCell ⟨br, 6, none⟩ (.int .i64 ((k : Int) + 8))) :=
        ((((((HMW.out.weak (fun _ _ e => e.elim)).trans' HM2.out (fun _ _ e => .inr e)).set br 4 _ (fun _ => .inl rfl)).below hbel6).set br 5 _ (fun _ => .inl rfl)).set br 6 _ (fun _ => .inl rfl))
      have hout7 := H.out.out.other hm3 (fun j o hj ho hBj => by
        rcases hj with rfl | rfl
        · omega
        · obtain rfl := Option.some.inj (ho.symm.trans H.out.box)
          exact ⟨by simp [elemT], by simp [elemT]⟩)
      have htx7 := own_kept H.out.text hm3 (fun j hj hMj => by
        obtain ⟨o, ho, he, hBj⟩ := own_elem H.out.text j hj
        rcases hMj with rfl | rfl
        · omega
        · obtain rfl := Option.some.inj (ho.symm.trans H.out.box)
          exact absurd he (by simp [elemT]))
      have hbx7 : Boxed ((wc.setCell ⟨br, 5, none⟩ (.int .i64 line)).setCell ⟨br, 6, none⟩ (.int .i64 ((k : Int) + 8))) qb 4 (.bool q') :=
        box_kept (box_kept (box_kept HBOX2.out ((Mods.refl (· = br) w2).set br 4 _ (fun _ => rfl)) (by omega)) (Mods.of_below hbel6) (fun e => e)) (((Mods.refl (· = br) wc).set br 5 _ (fun _ => rfl)).set br 6 _ (fun _ => rfl)) (by omega)
      have hPl : P.length ≤ 72 := by
        have hRl : R.data.toList.length ≤ m - (k + 7) := by rw [HRAW.out, List.length_drop, List.length_take]; omega
        rw [hP.out]
        split
        · rw [List.length_append, List.length_replicate]; omega
        · obtain ⟨n, hn⟩ := endL_split R.data.toList
          have := congrArg List.length hn
          rw [List.length_append] at this
          omega
      have hFr : Hid (∀ i, i < w.heap.size → ((i = br ∨ i = qb) ∨ bv.ownBlock = some i) → i = br ∨ (B ≤ i ∧ ∃ o, w.heap[i]? = some o ∧ rowy o = true)) := fun i _ hi => by
        rcases hi with (e | e) | e
        · exact .inl e
        · subst e; exact .inr ⟨habove, _, H.out.box, by simp [rowy, elemT]⟩
        · obtain ⟨o', ho', he, hBk⟩ := own_elem H.out.text i e
          exact .inr ⟨hBk, o', ho', by rw [rowy, he]; decide⟩
      have hmo7 := own_kept H.out.mown hm3 (fun j hj hMj => by
        obtain ⟨o, ho, he, hBj⟩ := own_elem H.out.mown j hj
        rcases hMj with rfl | rfl
        · omega
        · obtain rfl := Option.some.inj (ho.symm.trans H.out.box)
          exact absurd he (by simp [elemT]))
      have HMO7 := hide hmo7
      have HB7 := hide hb7
      have HM3 := hide hm3
      have HOUT7 := hide hout7
      have HTX7 := hide htx7
      have HBX7 := hide hbx7
      clear hb6 hrow6 hb7 hm3 hout7 htx7 hbx7 hmo7 hbel6 g4 r0 r1 f4 hn2
      by_cases hPn : P = []
      · have hPe : (mk P).toList.isEmpty = true := by rw [hPn, ByteArray.toList_eq]; rfl
        have HPN := hide hPn
        clear hPn
        go_wp2_with fail
        refine (bWrite_c B br 1 88 _ bv (Lib.byteCells c.text) (mk P) _ (bin_of_reader HB7.out rfl) (H.out.addr.imp (fun e => by rw [e]; rfl) (fun e => by rw [e]; rfl)) rfl (by rw [Lib.byteCells_length]; exact HTX7.out) (by have := HM3.out.size; omega) (by rw [Lib.byteCells_length]; show c.text.length + P.length ≤ _; omega)).mono ?_
        rintro e w8 ⟨rfl, v', hb8, htx8, hm8⟩
        go_wp2_with fail
        go_end0
        have hadd : addC c P line ((k : Int) + 8) = c := by unfold addC; rw [HPN.out]; simp
        have hm9 : Mods (fun j => (j = br ∨ j = qb) ∨ bv.ownBlock = some j) w _ := (HM3.out.weak (fun _ _ e => .inl e)).trans' hm8 (fun j _ e => e.elim (fun e => .inl (.inl e)) .inr)
        have hq9 : q' = openL c.text := by
          have := open_tail s.data.toList c.text k (by rw [len_data, ← HM.out]; exact hk)
          rw [← HPD.out, HPN.out, List.append_nil, len_data, ← HM.out, ← HRAW.out, ← HQ.out] at this
          rw [HQ'.out, ← this, HQ.out]
        rw [HPD.out.symm, hadd]
        have hbt : Lib.byteCells c.text ++ Lib.strCells (mk P) = Lib.byteCells c.text := by rw [HPN.out]; simp [Lib.strCells, mk, Lib.byteCells]
        have hbn : (Lib.byteCells c.text).length + (mk P).size = c.text.length := by rw [HPN.out, Lib.byteCells_length]; rfl
        rw [hbt, hbn] at htx8
        rw [hq9] at hb8
        refine ⟨rfl, ⟨cs, g, cap, mv, .pointer (some ⟨br, 1, none⟩), v', qb, ?_⟩, ?_⟩
        · refine ⟨hb8.heap, H.out.pre, H.out.tight, ?_, ?_, .inr rfl, htx8, ?_, habove⟩
          · exact HOUT7.out.other hm8 (fun j o hj ho hBj => by
              rcases hj with rfl | hj
              · omega
              · obtain ⟨o', ho', he, _⟩ := own_elem HTX7.out j hj
                obtain rfl := Option.some.inj (ho.symm.trans ho')
                rw [he]; exact ⟨by simp, by simp⟩)
          · exact own_kept HMO7.out hm8 (fun j hj hMj => by
              obtain ⟨o, ho, he, hBj⟩ := own_elem HMO7.out j hj
              rcases hMj with rfl | hMj
              · omega
              · obtain ⟨o', ho', he', _⟩ := own_elem HTX7.out j hMj
                obtain rfl := Option.some.inj (ho.symm.trans ho')
                rw [he] at he'; simp at he')
          · rw [← hq9]
            exact box_kept HBX7.out hm8 (fun hj => by
              rcases hj with e | hj
              · omega
              · obtain ⟨o', ho', he, _⟩ := own_elem HTX7.out _ hj
                obtain rfl := Option.some.inj (ho'.symm.trans HBX7.out)
                exact absurd he (by simp [elemT]))
        · exact FrR.of hm9 (hFr.out)
      · have hPe : (mk P).toList.isEmpty = false := by
          rw [ByteArray.toList_eq]
          cases hh : (mk P).data.toList.isEmpty
          · rfl
          · exact absurd (by simpa [mk] using hh) hPn
        obtain ⟨i0, hi, hz0, hz1, hz2⟩ := info_parts markInfo
        obtain ⟨Am, cm, rfl⟩ := own_shape H.out.mown
        obtain ⟨Ab, cb, rfl⟩ := own_shape H.out.text
        have HPN := hide hPn
        obtain ⟨W7, hW7⟩ : ∃ W7, W7 = ((wc.setCell ⟨br, 5, none⟩ (.int .i64 line)).setCell ⟨br, 6, none⟩ (.int .i64 ((k : Int) + 8))) := ⟨_, rfl⟩
        rw [← hW7] at HB7 HM3 HOUT7 HTX7 HBX7 HMO7
        have e0 : W7.cell? ⟨br, 0, none⟩ = some (.slice (some ⟨g, 0, none⟩) (cs.length + 1) cap) := HB7.out.cell 0
        have e2 : W7.cell? ⟨br, 2, none⟩ = some (.slice Ab c.text.length cb) := HB7.out.cell 2
        have e5 : W7.cell? ⟨br, 5, none⟩ = some (.int .i64 line) := HB7.out.cell 5
        have e6 : W7.cell? ⟨br, 6, none⟩ = some (.int .i64 ((k : Int) + 8)) := HB7.out.cell 6
        have eg2 : W7.cell? ⟨g, cs.length * 3 + 2, none⟩ = some (.slice Am c.marks.length cm) := by have := (HOUT7.out.at_ (by simp) cs.length (by simp)).2.2; simpa using this
        have hlen : cs.length ≤ 1000000 := by have := congrArg List.length H.out.pre; simp at this; omega
        have hw4 : IntKind.i64.wrap ((cs.length : Int) + 1 - 1) = (cs.length : Int) := by rw [IntWalk.i64_in _ (by omega)]; omega
        have HW7 := hide hW7
        rw [hW7] at e0 e2 e5 e6 eg2
        clear hPn hW7
        go_wp2_with fail
        rw [← HW7.out] at e0 e2 e5 e6 eg2
        rw [← HW7.out]
        clear f5 f6 n5 n6 r2
        go_quiet (fail)
        go_wp2_with fail
        have egL : ∀ args w, (callFunc 18 args).run Tryd.prog w = .ok (.enter 18 args) w := enters_of Tryd.func18 (by kernel_rfl) rfl
        have hgw : g < W7.heap.size := HOUT7.out.ge.2
        have hgm : (Value.slice Am c.marks.length cm).ownBlock ≠ some g := by
          intro e
          obtain ⟨o, ho, he, _⟩ := own_elem HMO7.out g e
          obtain ⟨o', ho', he', _⟩ := HOUT7.out.elem g rfl
          obtain rfl := Option.some.inj (ho.symm.trans ho')
          rw [he] at he'; simp at he'
        have hBw7 : B ≤ W7.heap.size := by have := HM3.out.size; omega
        have hall : Hid (∀ (W' : World), W'.heap = (W7.alloc (.cells #[.int .i64 (c.text.length : Int), .int .i64 line, .int .i64 ((k : Int) + 8)] 115)).heap → W'.ownsRow B 115 3 (.slice Am c.marks.length cm) c.marks.length (markCells c.marks) ∧ (W'.cell? ⟨g, cs.length * 3 + 2, none⟩ = some (.slice Am c.marks.length cm) ∧ W'.frozen? ⟨g, cs.length * 3 + 2, none⟩ = false) ∧ B ≤ W'.heap.size ∧ W'.heap.size = W7.heap.size + 1 ∧ (∀ w1 : World, W'.grownBy w1 (Value.slice Am c.marks.length cm).ownBlock → w1.cell? ⟨g, cs.length * 3 + 2, none⟩ = some (.slice Am c.marks.length cm) ∧ w1.frozen? ⟨g, cs.length * 3 + 2, none⟩ = false)) := fun W' he => by
          have e : W'.heap[g]? = W7.heap[g]? := by rw [he]; exact heap_alloc_old W7 _ HOUT7.out.ge.2
          have e2 : W'.cell? ⟨g, cs.length * 3 + 2, none⟩ = some (.slice Am c.marks.length cm) ∧ W'.frozen? ⟨g, cs.length * 3 + 2, none⟩ = false :=
            ⟨(World.cell?_of_block (a := ⟨g, cs.length * 3 + 2, none⟩) e).trans eg2, (World.frozen?_of_block (a := ⟨g, cs.length * 3 + 2, none⟩) e).trans (HOUT7.out.free _)⟩
          have e3 : W'.heap.size = W7.heap.size + 1 := by rw [he]; simp
          exact ⟨⟨HMO7.out.1, by rw [he]; exact (HMO7.out.alloc (.cells #[.int .i64 (c.text.length : Int), .int .i64 line, .int .i64 ((k : Int) + 8)] 115)).2⟩, e2, by omega, e3, fun w1 hg => ⟨(hg.cell_far ⟨g, cs.length * 3 + 2, none⟩ (by show g < _; omega) (fun e => hgm e.symm)).trans e2.1, (hg.frozen_far ⟨g, cs.length * 3 + 2, none⟩ (by show g < _; omega) (fun e => hgm e.symm)).trans e2.2⟩⟩
        have hnum : Hid ((c.marks.length + 1 ≤ maxLen) ∧ (c.marks.length + 1) * 24 ≤ 140737488355328) := ⟨by unfold maxLen; omega, by omega⟩
        have hne1 : Hid (∀ u ∈ [Value.int .i64 (c.text.length : Int), .int .i64 line, .int .i64 ((k : Int) + 8)], u.oneCell' = true) := by simp [Hid, Value.oneCell']
        have hnew : Hid (∀ (W' : World), W'.heap = (W7.alloc (.cells #[.int .i64 (c.text.length : Int), .int .i64 line, .int .i64 ((k : Int) + 8)] 115)).heap → ∀ j u, (#[Value.int .i64 (c.text.length : Int), .int .i64 line, .int .i64 ((k : Int) + 8)] : Array Value).toList[j]? = some u → W'.cell? ((⟨W7.heap.size, 0, none⟩ : Addr).add j) = some u) := fun W' he => World.news_of_block (w := W') (B := W7.heap.size) (cs := #[.int .i64 (c.text.length : Int), .int .i64 line, .int .i64 ((k : Int) + 8)]) (t := 115) (fr := (0, 0)) (by rw [he]; exact heap_alloc_new W7 _)
        go_upto_region 9 with fail
        go_cut [] (fun wx => AddCut W7 wx B g cap cs c (.slice Am c.marks.length cm) ((c.text.length : Int), line, (k : Int) + 8))
        case first =>
          have hfin : Hid (∀ (g1 c1 : Nat) (w1 : World), w1.ownsRow B 115 3 (.slice (some ⟨g1, 0, none⟩) (c.marks.length + 1) c1) (c.marks.length + 1) (markCells c.marks ++ [.int .i64 (c.text.length : Int), .int .i64 line, .int .i64 ((k : Int) + 8)]) → ((W7.drewN (nq + 1)).alloc (.cells #[.int .i64 (c.text.length : Int), .int .i64 line, .int .i64 ((k : Int) + 8)] 115)).grownBy w1 (Value.slice Am c.marks.length cm).ownBlock → ((Value.slice Am c.marks.length cm).ownBlock = some g1 ∨ g1 = W7.heap.size + 1) →
              AddCut W7 (w1.setCell ⟨g, cs.length * 3 + 2, none⟩ (.slice (some ⟨g1, 0, none⟩) (c.marks.length + 1) c1)) B g cap cs c (.slice Am c.marks.length cm) ((c.text.length : Int), line, (k : Int) + 8)) := fun g1 c1 w1 hown1 hgrow hat => by
            have hOut := (HOUT7.out.drewN (nq + 1)).alloc (.cells #[.int .i64 (c.text.length : Int), .int .i64 line, .int .i64 ((k : Int) + 8)] 115)
            have hsz := (hall.out ((W7.drewN (nq + 1)).alloc (.cells #[.int .i64 (c.text.length : Int), .int .i64 line, .int .i64 ((k : Int) + 8)] 115)) rfl).2.2.2.1
            refine ⟨_, OutI.mark hOut rfl ((c.text.length : Int), line, (k : Int) + 8) hown1 hgrow (hat.imp id (fun e => by rw [e, hsz])), ?_, ?_⟩
            · rw [markCells_append]
              refine own_kept hown1 ((Mods.refl (· = g) w1).set g _ _ (fun _ => rfl)) (fun j hj e => ?_)
              subst e
              obtain ⟨o, ho, he, _⟩ := own_elem hown1 j hj
              obtain ⟨o', ho', he', _⟩ := hOut.elem j rfl
              have e2 := hgrow.block j (lt_of_block ho') (fun e => hgm e.symm)
              obtain rfl := Option.some.inj ((ho.symm.trans e2).trans ho')
              rw [he] at he'; simp at he'
            · exact ((((Mods.refl _ W7).drewN (nq + 1)).alloc _).trans' (Mods.of_grown hgrow) (fun j _ e => .inr e)).set g _ _ (fun _ => .inl rfl)
          have eg3 := (hall.out ((W7.drewN (nq + 1)).alloc (.cells #[.int .i64 (c.text.length : Int), .int .i64 line, .int .i64 ((k : Int) + 8)] 115)) rfl).2.1.1
          clear H HPN HW7 HB7 HM3 HOUT7 HTX7 HBX7 HMO7 HB3 HROW3 HM2 HBOX2 HB2 HROW2 HPD hP hPl hFr hgm hgw hBw7 hlen hw4 hw0 hw1 hw2 hw3 hl1 hl2 hl3 hk hs hB hBw HM HR HRAW HQ HQ' HMW HB0 HROW hm1 hm2 hrs habove hqlt hbrlt hPe eg
          go_region_law (first
            | (refine step_append_lies _ (by rfl) _ _ _ (by rfl) B 115 i0 _ 3 24 Tryd.underlying69 hi hz0 hz1 hz2 rfl (by decide) (.slice Am c.marks.length cm) c.marks.length (markCells c.marks) (by rfl) (hall.out ((W7.drewN (nq + 1)).alloc (.cells #[.int .i64 (c.text.length : Int), .int .i64 line, .int .i64 ((k : Int) + 8)] 115)) rfl).1 ⟨W7.heap.size, 0, none⟩ 1 1 [.int .i64 (c.text.length : Int), .int .i64 line, .int .i64 ((k : Int) + 8)] (by rfl) (by rfl) (hnew.out ((W7.drewN (nq + 1)).alloc (.cells #[.int .i64 (c.text.length : Int), .int .i64 line, .int .i64 ((k : Int) + 8)] 115)) rfl) hne1.out (by decide) hnum.out.1 hnum.out.2 (hall.out ((W7.drewN (nq + 1)).alloc (.cells #[.int .i64 (c.text.length : Int), .int .i64 line, .int .i64 ((k : Int) + 8)] 115)) rfl).2.2.1 (W7.heap.size + 1) (hall.out ((W7.drewN (nq + 1)).alloc (.cells #[.int .i64 (c.text.length : Int), .int .i64 line, .int .i64 ((k : Int) + 8)] 115)) rfl).2.2.2.1 ?_; intro g1 c1 w1 hown1 hgrow hat hlt; obtain ⟨z1, z2⟩ := (hall.out ((W7.drewN (nq + 1)).alloc (.cells #[.int .i64 (c.text.length : Int), .int .i64 line, .int .i64 ((k : Int) + 8)] 115)) rfl).2.2.2.2 w1 hgrow)
            | (refine step_call_same (by rfl) 18 _ _ (by rfl) egL (.pointer (some ⟨br, 1, none⟩)) (.int .i64 (c.text.length : Int)) (by simp [Act.eval, Act.put]) (bLen_c br 1 (W7.drewN (nq + 1)) Ab c.text.length cb e2) ?_))
          all_goals
            go_wp2_with fail
            go_meet
            exact hfin.out _ _ _ hown1 hgrow hat
        case rest =>
          obtain ⟨v1, ho9, hmo9, hmd9⟩ := hcut
          have hb9 := HB7.out.mods hmd9 (fun hj => by
            rcases hj with e | e
            · have := HOUT7.out.ge; omega
            · obtain ⟨_, _, _, h1⟩ := own_elem HMO7.out _ e; omega)
          have hne9 : ∀ j o, (j = g ∨ (Value.slice Am c.marks.length cm).ownBlock = some j) → W7.heap[j]? = some o → elemT o = some 71 ∨ elemT o = some 115 := fun j o hj ho => by
            rcases hj with rfl | hj
            · obtain ⟨o', ho', he, _⟩ := HOUT7.out.elem j rfl
              obtain rfl := Option.some.inj (ho.symm.trans ho'); exact .inl he
            · obtain ⟨o', ho', he, _⟩ := own_elem HMO7.out j hj
              obtain rfl := Option.some.inj (ho.symm.trans ho'); exact .inr he
          have htx9 := own_kept HTX7.out hmd9 (fun j hj hMj => by
            obtain ⟨o, ho, he, _⟩ := own_elem HTX7.out j hj
            have := hne9 j o hMj ho
            rw [he] at this; simp at this)
          have hbx9 := box_kept HBX7.out hmd9 (fun hMj => by
            have := hne9 qb _ hMj HBX7.out
            simp [elemT] at this)
          have HB9 := hide hb9
          have HTX9 := hide htx9
          have HBX9 := hide hbx9
          have HO9 := hide ho9
          have HMO9 := hide hmo9
          have HMD9 := hide hmd9
          have hsz9 := hmd9.size
          have HNE9 := hide hne9
          clear ho9 hmo9 hmd9 hb9 hne9 htx9 hbx9 e0 e2 e5 e6 eg2 hall hnew hnum hne1 hw4
          go_wp2_with fail
          refine (bWrite_c B br 1 88 _ (.slice Ab c.text.length cb) (Lib.byteCells c.text) (mk P) _ (bin_of_reader HB9.out rfl) (H.out.addr.imp (fun e => by rw [e]; rfl) (fun e => by rw [e]; rfl)) rfl (by rw [Lib.byteCells_length]; exact HTX9.out) (by omega) (by rw [Lib.byteCells_length]; show c.text.length + P.length ≤ _; omega)).mono ?_
          rintro e w10 ⟨rfl, v', hb10, htx10, hm10⟩
          go_wp2_with fail
          go_end0
          have hadd : addC c P line ((k : Int) + 8) = ⟨c.left, c.text ++ P, c.marks ++ [((c.text.length : Int), line, (k : Int) + 8)]⟩ := by unfold addC; rw [if_neg HPN.out]
          have hq9 : q' = openL (c.text ++ P) := by
            have := open_tail s.data.toList c.text k (by rw [len_data, ← HM.out]; exact hk)
            rw [← HPD.out, len_data, ← HM.out, ← HRAW.out, ← HQ.out] at this
            rw [HQ'.out, ← this]
          have hbt : Lib.byteCells c.text ++ Lib.strCells (mk P) = Lib.byteCells (c.text ++ P) := by simp [Lib.strCells, mk, Lib.byteCells]
          have hbn : (Lib.byteCells c.text).length + (mk P).size = (c.text ++ P).length := by rw [Lib.byteCells_length, List.length_append]; rfl
          rw [hbt, hbn] at htx10
          rw [hq9] at hb10
          have hne10 : ∀ j o, (j = br ∨ (Value.slice Ab c.text.length cb).ownBlock = some j) → wc.heap[j]? = some o → B ≤ j → elemT o = some 5 := fun j o hj ho hBj => by
            rcases hj with rfl | hj
            · omega
            · obtain ⟨o', ho', he, _⟩ := own_elem HTX9.out j hj
              obtain rfl := Option.some.inj (ho.symm.trans ho'); exact he
          rw [HPD.out.symm, hadd]
          refine ⟨rfl, ⟨cs, g, cap, v1, .pointer (some ⟨br, 1, none⟩), v', qb, ?_⟩, ?_⟩
          · refine ⟨hb10.heap, H.out.pre, H.out.tight, ?_, ?_, .inr rfl, htx10, ?_, habove⟩
            · exact HO9.out.other hm10 (fun j o hj ho hBj => by rw [hne10 j o hj ho hBj]; exact ⟨by simp, by simp⟩)
            · have : (c.marks ++ [((c.text.length : Int), line, (k : Int) + 8)]).length = c.marks.length + 1 := by simp
              show World.ownsRow _ _ _ _ _ (c.marks ++ [((c.text.length : Int), line, (k : Int) + 8)]).length _
              rw [this]
              exact own_kept HMO9.out hm10 (fun j hj hMj => by
                obtain ⟨o, ho, he, hBj⟩ := own_elem HMO9.out j hj
                have := hne10 j o hMj ho hBj
                rw [he] at this; simp at this)
            · rw [← hq9]
              exact box_kept HBX9.out hm10 (fun hMj => by
                have := hne10 qb _ hMj HBX9.out habove
                simp [elemT] at this)
          · have s1 : FrR B br w W7 := FrR.of HM3.out (fun i hi e => hFr.out i hi (.inl e))
            have s2 : FrR B br W7 wc := FrR.of HMD9.out (fun i hi e => by
              obtain ⟨o, ho⟩ : ∃ o, W7.heap[i]? = some o := ⟨_, Array.getElem?_eq_getElem hi⟩
              have hBi : B ≤ i := by
                rcases e with rfl | e
                · exact HOUT7.out.ge.1
                · exact (own_elem HMO7.out i e).choose_spec.2.2
              exact .inr ⟨hBi, o, ho, by rw [rowy]; rcases HNE9.out i o e ho with h | h <;> rw [h] <;> decide⟩)
            have s3 : FrR B br wc w10 := FrR.of hm10 (fun i hi e => by
              rcases e with rfl | e
              · exact .inl rfl
              · obtain ⟨o', ho', he, hBk⟩ := own_elem HTX9.out i e
                exact .inr ⟨hBk, o', ho', by rw [rowy, he]; decide⟩)
            exact (s1.trans s2).trans s3
end Go.Proofs.YteceealibfemjaaDoor
