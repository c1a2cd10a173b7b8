/-
  THE CONTRACT of strings.Lines (layer 2, columns): the iterator hands over the lines, each with its byte 10.
-/
import Derived.Test.YteceealibfemjaaDoorRng
import Derived.Test.YteceealibfemjaaDoorBeg
import Derived.Shelf.Abstract
import Derived.Shelf.RegionOpen
import Derived.OwnWalkIn
import Derived.TacticsInMore
import Derived.LoopNIn
import Derived.LoopIn
import Derived.Outline
namespace Go.Proofs.YteceealibfemjaaDoor
open Go.RowKit Go.Shelf
attribute [local go_sem] Oper.semAt_some

/-- how many bytes the first line has, with its byte 10 -/
def lineLen (l : List UInt8) : Nat := min (l.findIdx (· == 10) + 1) l.length
theorem lineLen_pos (l : List UInt8) (h : l ≠ []) : 0 < lineLen l := by
  have := List.length_pos_iff.2 h
  unfold lineLen; omega
/-- the lines of a text, each with its byte 10 -/
def chunks (l : List UInt8) : List (List UInt8) := if _h : l = [] then [] else l.take (lineLen l) :: chunks (l.drop (lineLen l))
termination_by l.length
decreasing_by
  have := lineLen_pos l _h
  have := List.length_pos_iff.2 _h
  rw [List.length_drop]; omega
theorem chunks_nil : chunks [] = [] := by rw [chunks]; simp
theorem chunks_cons (l : List UInt8) (h : l ≠ []) : chunks l = l.take (lineLen l) :: chunks (l.drop (lineLen l)) := by rw [chunks]; simp [h]
theorem index_lineLen (l : List UInt8) : (Lib.indexByte l 10 < 0 ∧ lineLen l = l.length) ∨ (∃ i : Nat, Lib.indexByte l 10 = i ∧ i < l.length ∧ lineLen l = i + 1) := by
  induction l with
  | nil => left; simp [Lib.indexByte, lineLen]
  | cons c l ih =>
    by_cases hc : c = 10
    · right
      refine ⟨0, by simp [Lib.indexByte, hc], Nat.zero_lt_succ _, ?_⟩
      unfold lineLen
      rw [List.findIdx_cons]
      simp [hc]
    · have hf : (c :: l).findIdx (· == 10) = l.findIdx (· == 10) + 1 := by
        rw [List.findIdx_cons, show (c == (10 : UInt8)) = false by simpa using hc]; rfl
      rcases ih with ⟨h1, h2⟩ | ⟨i, h1, h2, h3⟩
      · left
        have hg := Lib.indexByte_ge l 10
        have he : Lib.indexByte l 10 = -1 := by omega
        refine ⟨by simp [Lib.indexByte, hc, he], ?_⟩
        unfold lineLen at *
        rw [hf]; simp only [List.length_cons]; omega
      · right
        refine ⟨i + 1, ?_, by simp only [List.length_cons]; omega, ?_⟩
        · simp [Lib.indexByte, hc, h1]
        · unfold lineLen at *
          rw [hf]; simp only [List.length_cons]; omega

set_option maxHeartbeats 400000 in
theorem lines_mk (s : ByteArray) (w : World) :
    Calls Tryd.prog 44 #[.string s] w fun e w' => e = .returned (.func (.func 66) #[] #[.pointer (some ⟨w.heap.size, 0, none⟩)]) ∧ w' = w.alloc (.cells #[.string s] 9) := by
  go_enter Tryd.func44, Tryd.ntmps44
  go_wp2_with fail
  go_ret
  exact ⟨rfl, rfl⟩

/-- what is still to come -/
def restOf (b0 : Nat) (w : World) : Nat := match w.cell? ⟨b0, 0, none⟩ with
  | some (.string r) => r.size
  | _ => 0

theorem mk_take (s : ByteArray) (i : Nat) : mk (s.data.toList.take i) = s.extract 0 i := by
  rw [show s.data.toList.take i = (s.extract 0 i).data.toList by rw [extract_at]; simp, mk_of]

set_option maxHeartbeats 2000000 in
set_option maxRecDepth 100000 in
theorem lines_seq (n b0 : Nat) (s : ByteArray) (w : World) (hs : s.size ≤ 2000000) (hb0 : b0 < w.heap.size) (hbox : Boxed w b0 9 (.string s)) :
    SeqC Fence.wide n Tryd.prog 66 #[.pointer (some ⟨b0, 0, none⟩)] (fun x : ByteArray => #[.string x]) b0 ((chunks s.data.toList).map mk) w := by
  intro l J Jx W hbel hJ hJx hY h0
  have hboxW : Boxed W b0 9 (.string s) := (hbel.block b0 hb0).trans hbox
  refine callsIn_of_wp Tryd.func66 rfl trivial ?_ rfl
  simp only [Tryd.ntmps66, List.size_toArray, List.length_cons, List.length_nil, Nat.reduceAdd, Nat.reduceSub, Array.replicate_succ, Array.replicate_zero, List.push_toArray, List.append_toArray, List.nil_append, List.cons_append]
  gi_wp2
  gi_loopw [3] (fun _ wr => ∃ (pre : List ByteArray) (r : ByteArray), (chunks s.data.toList).map mk = pre ++ (chunks r.data.toList).map mk ∧ r.size ≤ s.size ∧ Boxed wr b0 9 (.string r) ∧ J pre wr)
    (fun _ wr => restOf b0 wr)
  case atStart => exact ⟨[], s, rfl, Nat.le_refl _, hboxW, h0⟩
  case round =>
    obtain ⟨pre, r, hx, hrs, hbx, hJs⟩ := hrel
    have hfb := hbx.frozen
    have hcb := hbx.cell
    by_cases h0r : 0 < r.size
    · have hne : r.data.toList ≠ [] := by
        intro e
        have := congrArg List.length e
        rw [len_data, List.length_nil] at this
        omega
      have hch := chunks_cons r.data.toList hne
      have hXI : Hid (∀ w1, Calls Tryd.prog 67 #[.string r, .int .u8 10] w1 fun e w' => e = .returned (.int .i64 (Lib.indexByte r.data.toList 10)) ∧ w1 = w') := fun w1 =>
        (Tryd.strings_IndexByte r 10 w1).mono fun _ _ h => ⟨h.1, h.2.symm⟩
      have hcs := index_lineLen r.data.toList
      rw [len_data] at hcs
      generalize Lib.indexByte r.data.toList 10 = ix at hcs hXI
      rcases hcs with ⟨hneg, hll⟩ | ⟨i, rfl, hi, hll⟩
      · rw [hll] at hch
        have hde : r.data.toList.drop r.size = [] := List.drop_eq_nil_of_le (by rw [len_data]; exact Nat.le_refl _)
        have hte : r.data.toList.take r.size = r.data.toList := List.take_of_length_le (by rw [len_data]; exact Nat.le_refl _)
        rw [hde, hte, chunks_nil] at hch
        have hpre : (pre ++ [r]) <+: (chunks s.data.toList).map mk := by
          refine ⟨[], ?_⟩
          rw [hx, hch]
          simp [mk_of]
        have hb1 := hbx.set (.string ⟨#[]⟩)
        have hJ1 := hJ _ _ _ hJs (grownBy_setCell' wr b0 (.string ⟨#[]⟩))
        obtain ⟨fn, tmps, assign, body, hy, hR⟩ := hY pre r _ hJ1 hpre
        have HX := hide hx
        have HB1 := hide hb1
        have HCH := hide hch
        have HPRE := hide hpre
        have hb0l := hbx.lt
        clear hx hb1 hch hJ1 hpre hll hne hde hte
        gi_wp2
        refine ⟨trivial, (fun h => by cases h), callsIn_wide.2 ((hXI.out _).mono ?_)⟩
        rintro e w' ⟨rfl, rfl⟩
        gi_wp2
        refine ⟨(fun h => by cases h), hR.mono ?_⟩
        rintro e W3 (⟨rfl, hJ3, hk3⟩ | ⟨rfl, hJx3⟩)
        · have hbx3 : Boxed W3 b0 9 (.string (⟨#[]⟩ : ByteArray)) := hk3.trans HB1.out
          have hm3 : restOf b0 W3 < restOf b0 wr := by unfold restOf; rw [hbx3.cell, hcb]; exact h0r
          have hx3 : Hid ((chunks s.data.toList).map mk = (pre ++ [r]) ++ (chunks ((⟨#[]⟩ : ByteArray) : ByteArray).data.toList).map mk) := by
            unfold Hid; rw [HX.out, HCH.out]; rw [show (⟨#[]⟩ : ByteArray).data.toList = [] from rfl, chunks_nil]; simp [mk_of]
          gi_wp2
          go_roundw
          case rel => exact ⟨_, _, hx3.out, (Nat.zero_le _), hbx3, hJ3⟩
          case measure => exact hm3
        · have hpx := HPRE.out
          gi_wp2
          refine bodyPost_ret (results_none rfl _ _ _) rfl ?_
          exact ⟨⟨_, rfl⟩, .inr ⟨_, hpx, hJx3⟩⟩
      · rw [hll] at hch
        have hpre : (pre ++ [r.extract 0 (i + 1)]) <+: (chunks s.data.toList).map mk := by
          refine ⟨(chunks (r.data.toList.drop (i + 1))).map mk, ?_⟩
          rw [hx, hch]
          simp [mk_take]
        have hb1 := hbx.set (.string (r.extract (i + 1) r.size))
        have hg1 : wr.grownBy (wr.setCell ⟨b0, 0, none⟩ (.string (r.extract (i + 1) r.size))).drew (some b0) := ⟨rfl, rfl, rfl, (grownBy_setCell' wr b0 (.string (r.extract (i + 1) r.size))).size, (grownBy_setCell' wr b0 (.string (r.extract (i + 1) r.size))).block⟩
        have hJ1 := hJ _ _ _ hJs hg1
        obtain ⟨fn, tmps, assign, body, hy, hR⟩ := hY pre (r.extract 0 (i + 1)) _ hJ1 hpre
        have HX := hide hx
        have HB1 := hide hb1
        have HCH := hide hch
        have HPRE := hide hpre
        have hb0l := hbx.lt
        clear hx hb1 hch hJ1 hpre hll hne hg1
        gi_wp2
        refine ⟨trivial, (fun h => by cases h), callsIn_wide.2 ((hXI.out _).mono ?_)⟩
        rintro e w' ⟨rfl, rfl⟩
        gi_wp2
        refine wpIn_wide.2 ?_
        go_region
        gi_wp2
        refine ⟨(fun h => by cases h), hR.mono ?_⟩
        rintro e W3 (⟨rfl, hJ3, hk3⟩ | ⟨rfl, hJx3⟩)
        · have hbx3 : Boxed W3 b0 9 (.string (r.extract (i + 1) r.size)) := hk3.trans HB1.out
          have hm3 : restOf b0 W3 < restOf b0 wr := by unfold restOf; rw [hbx3.cell, hcb]; show (r.extract (i + 1) r.size).size < r.size; (simp; omega)
          have hx3 : Hid ((chunks s.data.toList).map mk = (pre ++ [r.extract 0 (i + 1)]) ++ (chunks (r.extract (i + 1) r.size).data.toList).map mk) := by
            unfold Hid; rw [HX.out, HCH.out]; rw [extract_drop]; simp [mk_take]
          gi_wp2
          go_roundw
          case rel => exact ⟨_, _, hx3.out, (by show (r.extract (i + 1) r.size).size ≤ s.size; (simp; omega)), hbx3, hJ3⟩
          case measure => exact hm3
        · have hpx := HPRE.out
          gi_wp2
          refine bodyPost_ret (results_none rfl _ _ _) rfl ?_
          exact ⟨⟨_, rfl⟩, .inr ⟨_, hpx, hJx3⟩⟩
    · have hd : (chunks s.data.toList).map mk = pre := by
        have : r.data.toList = [] := List.eq_nil_of_length_eq_zero (by rw [len_data]; omega)
        rw [hx, this, chunks_nil]; simp
      have HD := hide hd
      clear hx hd
      gi_wp2
      go_end0
      exact ⟨⟨_, rfl⟩, .inl (by rw [HD.out]; exact hJs)⟩
end Go.Proofs.YteceealibfemjaaDoor
