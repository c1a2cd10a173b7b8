/-
  THE CONTRACT of At (layer 2, columns).
-/
import Derived.Test.YtghnffdjdjlomaaGreatDoorVld
namespace Go.Proofs.YtghnffdjdjlomaaGreatDoor
open Go.RowKit

def atOk (c : CardL) (i : Int) : Bool := validL c && (decide (0 ≤ i) && decide (i ≤ c.text.length))
def atP (c : CardL) (i : Int) : Int × Int := if atOk c i then posL c i else (0, 0)
def atE (c : CardL) (i : Int) : Int := if atOk c i then 0 else 1
theorem atP_no {c : CardL} {i : Int} (h : atOk c i = false) : atP c i = (0, 0) := by unfold atP; rw [h]; rfl
theorem atE_no {c : CardL} {i : Int} (h : atOk c i = false) : atE c i = 1 := by unfold atE; rw [h]; rfl
theorem atP_yes {c : CardL} {i : Int} (h : atOk c i = true) : atP c i = posL c i := by unfold atP; rw [h]; rfl
theorem atE_yes {c : CardL} {i : Int} (h : atOk c i = true) : atE c i = 0 := by unfold atE; rw [h]; rfl
/-- what the marks of a valid card are -/
theorem marks_in (N b : Int) (ms : List MarkL) (h : marksOk N b ms = true) : ∀ m ∈ ms, b < m.1 ∧ m.1 < N ∧ 1 ≤ m.2.1 ∧ 8 ≤ m.2.2 ∧ m.2.2 ≤ 72 := by
  induction ms generalizing b with
  | nil => simp
  | cons m r ih =>
    simp only [marksOk] at h
    split at h
    · cases h
    · split at h
      · cases h
      · split at h
        · rename_i h1 h2 h3
          unfold inTextL at h3
          simp only [Bool.and_eq_true, decide_eq_true_eq] at h3
          intro x hx
          rcases List.mem_cons.1 hx with rfl | hx
          · exact ⟨by omega, by omega, h3.1, h3.2.1, h3.2.2⟩
          · have := ih m.1 h x hx
            exact ⟨by omega, this.2⟩
        · cases h
structure AtRes (c : CardL) (i : Int) (e : Ending) : Prop where
  eq : e = .returned (.tuple #[.agg #[.int .i64 (atP c i).1, .int .i64 (atP c i).2], .int .i64 (atE c i)])
theorem atRes_no {c : CardL} {i : Int} (h : atOk c i = false) : AtRes c i (.returned (.tuple #[.agg #[.int .i64 0, .int .i64 0], .int .i64 1])) := ⟨by rw [atP_no h, atE_no h]⟩
theorem atRes_yes {c : CardL} {i : Int} (h : atOk c i = true) (m1 m2 m3 : Int) (m : MarkL) (h0 : c.marks.getD 0 (0, 0, 0) = m) (hm : lastM i m c.marks = (m1, m2, m3)) : AtRes c i (.returned (.tuple #[.agg #[.int .i64 m2, .int .i64 (m3 + i - m1)], .int .i64 0])) := ⟨by
  rw [atP_yes h, atE_yes h]
  unfold posL
  rw [h0, hm]⟩
theorem lastM_drop (i : Int) (m : MarkL) (ms : List MarkL) (k : Nat) (h : k < ms.length) : lastM i m (ms.drop k) = lastM i (if ms[k].1 ≤ i then ms[k] else m) (ms.drop (k + 1)) := by
  rw [List.drop_eq_getElem_cons h, lastM]
theorem Blk.set3 {w : World} {b : Nat} {x y z : Value} {T : TypeId} (h : Blk w b #[x, y, z] T) (x' y' z' : Value) : Blk (((w.setCell ⟨b, 0, none⟩ x').setCell ⟨b, 1, none⟩ y').setCell ⟨b, 2, none⟩ z') b #[x', y', z'] T := ((h.set 0 x').set 1 y').set 2 z'
theorem Mods.set3' {M : Nat → Prop} {a b : World} (h : Mods M a b) (blk : Nat) (x y z : Value) (hM : M blk) : Mods M a (((b.setCell ⟨blk, 0, none⟩ x).setCell ⟨blk, 1, none⟩ y).setCell ⟨blk, 2, none⟩ z) :=
  ((h.set _ _ _ (fun _ => hM)).set _ _ _ (fun _ => hM)).set _ _ _ (fun _ => hM)
set_option maxHeartbeats 2000000 in
set_option maxRecDepth 100000 in
theorem At_c (left : Bool) (t : List UInt8) (ms : List MarkL) (A : Option Addr) (cap B : Nat) (i : Int) (w : World) (hm : MarksAt w B A ms) (hB : B ≤ w.heap.size) (ht : t.length ≤ 2000000) (hl : ms.length ≤ 2000000) :
    Calls Tryz.prog 23 #[.agg #[.bool left, .string (mk t), .slice A ms.length cap], .int .i64 i] w fun e w' => AtRes ⟨left, t, ms⟩ i e ∧ Below w.heap.size w w' := by
  obtain ⟨S, hS⟩ : ∃ S, S = mk t := ⟨_, rfl⟩
  have hSs : S.size = t.length := by rw [hS]; show t.toArray.size = _; rw [List.size_toArray]
  have hV : Hid (∀ w1, Below w.heap.size w w1 → Calls Tryz.prog 59 #[.agg #[.bool left, .string S, .slice A ms.length cap]] w1 fun e w' => e = .returned (.bool (validL ⟨left, t, ms⟩)) ∧ Below w1.heap.size w1 w') := fun w1 hb1 => by
    rw [hS]
    refine valid_c left t ms A cap B w1 ?_ (Nat.le_trans hB hb1.size) ht hl
    rcases hm with hm | ⟨b, off, hA, hb, hc⟩
    · exact .inl hm
    · exact .inr ⟨b, off, hA, hb, fun j hj => by
        have hbl := hb1.block b (by omega)
        obtain ⟨h1, h2, h3⟩ := hc j hj
        exact ⟨(World.cell?_of_block hbl).trans h1, (World.cell?_of_block hbl).trans h2, (World.cell?_of_block hbl).trans h3⟩⟩
  rw [← hS]
  clear hS
  have HSS := hide hSs
  have HB2 := hide (below2 w (.cells #[.bool left, .string S, .slice A ms.length cap] 34) (.cells #[.int .i64 0, .int .i64 0] 26))
  have hsl : S.size ≤ 2000000 := by omega
  have HC := hide ((blk_new w #[.bool left, .string S, .slice A ms.length cap] 34).alloc (.cells #[.int .i64 0, .int .i64 0] 26))
  have HP := hide (blk_new (w.alloc (.cells #[.bool left, .string S, .slice A ms.length cap] 34)) #[.int .i64 0, .int .i64 0] 26)
  clear hSs
  go_enter Tryz.func23, Tryz.ntmps23
  go_wp2_with fail
  refine (hV.out _ HB2.out).mono ?_
  rintro e w1 ⟨rfl, hb1⟩
  have HB1 : Hid (Below w.heap.size w w1) := HB2.out.trans (hb1.mono HB2.out.size)
  have hC1 := blk_kept hb1 HC.out
  have hP1 := blk_kept hb1 HP.out
  rw [World.size_alloc] at hP1
  have k1 := hC1.cell 1
  have k2 := hC1.cell 2
  have p0 := hP1.cell 0
  have p1 := hP1.cell 1
  have q0 := hP1.free 0
  have q1 := hP1.free 1
  have HP1 := hide hP1
  have hz1 := hb1.size
  rw [World.size_alloc, World.size_alloc] at hz1
  clear hC1 hP1 hb1 HC HP HB2 hV
  cases hval : validL ⟨left, t, ms⟩
  · have hno : Hid (atOk ⟨left, t, ms⟩ i = false) := by unfold Hid atOk; rw [hval]; rfl
    clear hval
    go_wp2_with fail
    refine bodyPost_ret (v := .tuple #[.agg #[.int .i64 0, .int .i64 0], .int .i64 1]) (by simp [results, Tryz.results23, go_sem, p0, p1]) rfl ?_
    exact ⟨atRes_no hno.out, ((HB1.out.setCell (p := ⟨_, 0, none⟩) (by simp) _).setCell (p := ⟨_, 1, none⟩) (by simp) _)⟩
  · by_cases h0 : 0 ≤ i
    · by_cases h1 : i ≤ S.size
      · have hyes : Hid (atOk ⟨left, t, ms⟩ i = true) := by unfold Hid atOk; rw [hval, decide_eq_true h0, decide_eq_true (by show i ≤ (t.length : Int); rw [← HSS.out]; exact h1)]; rfl
        have hvv := hval
        unfold validL at hvv
        simp only [Bool.and_eq_true, decide_eq_true_eq, Bool.not_eq_true'] at hvv
        obtain ⟨_, hne, h00, hmo⟩ := hvv
        have hpos : 0 < ms.length := by
          rcases Nat.eq_zero_or_pos ms.length with e | e
          · rw [List.eq_nil_of_length_eq_zero e] at hne; simp at hne
          · exact e
        obtain ⟨b, off, rfl, hb, x0, x1, x2⟩ := hm.at_ 0 hpos
        rw [Nat.zero_mul, Nat.add_zero] at x0 x1 x2
        have hbw : b < w.heap.size := by omega
        have hbl1 := HB1.out.block b hbw
        have hmk : Hid (∀ k (h : k < ms.length), w1.cell? ⟨b, off + k * 3, none⟩ = some (.int .i64 ms[k].1) ∧ w1.cell? ⟨b, off + k * 3 + 1, none⟩ = some (.int .i64 ms[k].2.1) ∧ w1.cell? ⟨b, off + k * 3 + 2, none⟩ = some (.int .i64 ms[k].2.2)) := fun k hk => by
          obtain ⟨b', off', he, _, h⟩ := hm.at_ k hk
          injection he with he; injection he with e1 e2; subst e1; subst e2
          exact ⟨(World.cell?_of_block hbl1).trans h.1, (World.cell?_of_block hbl1).trans h.2.1, (World.cell?_of_block hbl1).trans h.2.2⟩
        replace x0 := (World.cell?_of_block (a := ⟨b, off, none⟩) hbl1).trans x0
        replace x1 := (World.cell?_of_block (a := ⟨b, off + 1, none⟩) hbl1).trans x1
        replace x2 := (World.cell?_of_block (a := ⟨b, off + 2, none⟩) hbl1).trans x2
        have hin : Hid (∀ m ∈ ms, -1 < m.1 ∧ m.1 < (t.length : Int) ∧ 1 ≤ m.2.1 ∧ 8 ≤ m.2.2 ∧ m.2.2 ≤ 72) := marks_in _ _ _ hmo
        obtain ⟨⟨a1, a2, a3⟩, ha⟩ : ∃ m, m = ms[0] := ⟨_, rfl⟩
        have hg0 : Hid (ms.getD 0 (0, 0, 0) = (a1, a2, a3)) := by unfold Hid; rw [ha, List.getD_eq_getElem?_getD, List.getElem?_eq_getElem hpos]; rfl
        have hb0 := hin.out _ (List.getElem_mem hpos)
        rw [← ha] at x0 x1 x2 hb0
        simp only at x0 x1 x2 hb0
        have hA : 0 ≤ a1 ∧ a1 ≤ 2000000 ∧ 8 ≤ a3 ∧ a3 ≤ 72 := by omega
        have hbw1 : b < w1.heap.size := by omega
        have hpw1 : w.heap.size + 1 < w1.heap.size := by omega
        obtain ⟨W0, hW0⟩ : ∃ W, W = w1.alloc (.cells #[.int .i64 a1, .int .i64 a2, .int .i64 a3] 57) := ⟨_, rfl⟩
        have HM0 : Hid (Blk W0 w1.heap.size #[.int .i64 a1, .int .i64 a2, .int .i64 a3] 57) := by rw [hW0]; exact blk_new w1 _ _
        have HP0 : Hid (Blk W0 (w.heap.size + 1) #[.int .i64 0, .int .i64 0] 26) := by rw [hW0]; exact HP1.out.alloc _
        have HB0 : Hid (Below w.heap.size w W0) := by rw [hW0]; exact HB1.out.alloc HB1.out.size _
        have hmk0 : Hid (∀ k (h : k < ms.length), W0.cell? ⟨b, off + k * 3, none⟩ = some (.int .i64 ms[k].1) ∧ W0.cell? ⟨b, off + k * 3 + 1, none⟩ = some (.int .i64 ms[k].2.1) ∧ W0.cell? ⟨b, off + k * 3 + 2, none⟩ = some (.int .i64 ms[k].2.2)) := fun k hk => by
          rw [hW0]
          have hbo := heap_alloc_old w1 (.cells #[.int .i64 a1, .int .i64 a2, .int .i64 a3] 57) hbw1
          obtain ⟨y0, y1, y2⟩ := hmk.out k hk
          exact ⟨(World.cell?_of_block hbo).trans y0, (World.cell?_of_block hbo).trans y1, (World.cell?_of_block hbo).trans y2⟩
        have hz0 : w1.heap.size < W0.heap.size := by rw [hW0]; simp
        have HA := hide ha
        clear ha hval h00 hne hmo hb0 hm hbl1 hmk
        have hcw : w.heap.size < w1.heap.size := by omega
        go_wp2_with fail
        rw [← hW0]
        have HW0 := hide hW0
        clear hW0
        go_loopw [31] (fun v31 wr => ∃ (k : Nat) (m1 m2 m3 : Int), v31 = .int .i64 (k : Int) ∧ k ≤ ms.length ∧ (0 ≤ m1 ∧ m1 ≤ 2000000 ∧ 8 ≤ m3 ∧ m3 ≤ 72) ∧ Hid (lastM i (m1, m2, m3) (ms.drop k) = lastM i (a1, a2, a3) ms) ∧ Blk wr w1.heap.size #[.int .i64 m1, .int .i64 m2, .int .i64 m3] 57 ∧ Mods (fun j => j = w1.heap.size) W0 wr) (fun v31 _ => ms.length - (intOf v31).toNat)
        case atStart => exact ⟨0, a1, a2, a3, rfl, Nat.zero_le _, hA, rfl, HM0.out, Mods.refl _ _⟩
        case round =>
          obtain ⟨k, m1, m2, m3, rfl, hk, hbd, hI, hblk, hmods⟩ := hrel
          have hsz := hmods.size
          have hMB := hide hblk
          have hmw : w1.heap.size < wr.heap.size := by omega
          by_cases hlt : k < ms.length
          · have hst := lastM_drop i (m1, m2, m3) ms k hlt
            obtain ⟨y0, y1, y2⟩ := hmk0.out k hlt
            have hbs : b < W0.heap.size := by omega
            have hbn : ¬ b = w1.heap.size := by omega
            replace y0 := (hmods.cell b (off + k * 3) hbs hbn).trans y0
            replace y1 := (hmods.cell b (off + k * 3 + 1) hbs hbn).trans y1
            replace y2 := (hmods.cell b (off + k * 3 + 2) hbs hbn).trans y2
            have hin1 := hin.out _ (List.getElem_mem hlt)
            obtain ⟨⟨q1, q2, q3⟩, hq⟩ : ∃ m, m = ms[k] := ⟨_, rfl⟩
            rw [← hq] at y0 y1 y2 hst hin1
            simp only at y0 y1 y2 hst hin1
            have hqb : 0 ≤ q1 ∧ q1 ≤ 2000000 ∧ 8 ≤ q3 ∧ q3 ≤ 72 := by omega
            have f0 := hblk.free 0
            have f1 := hblk.free 1
            have f2 := hblk.free 2
            have e0 := hblk.cell 0
            have e1 := hblk.cell 1
            have e2 := hblk.cell 2
            have hbwr : b < wr.heap.size := by omega
            have HST := hide hst
            have HMO := hide hmods
            clear hst hin1 hq hmods hblk
            by_cases hle : q1 ≤ i
            · have hI2 : Hid (lastM i (q1, q2, q3) (ms.drop (k + 1)) = lastM i (a1, a2, a3) ms) := by unfold Hid; rw [← hI.out, HST.out, if_pos hle]
              clear hI HST
              go_wp2_with fail
              go_roundw
              case rel => exact ⟨k + 1, q1, q2, q3, by go_num, hlt, hqb, hI2, (hMB.out.set3 _ _ _).alloc _, (HMO.out.set3' _ _ _ _ rfl).alloc _⟩
              case measure => simp [intOf]; omega
            · have hI2 : Hid (lastM i (m1, m2, m3) (ms.drop (k + 1)) = lastM i (a1, a2, a3) ms) := by unfold Hid; rw [← hI.out, HST.out, if_neg hle]
              clear hI HST
              go_wp2_with fail
              go_roundw
              case rel => exact ⟨k + 1, m1, m2, m3, by go_num, hlt, hbd, hI2, hMB.out.alloc _, HMO.out.alloc _⟩
              case measure => simp [intOf]; omega
          · obtain rfl : k = ms.length := by omega
            have hI2 : Hid (lastM i (a1, a2, a3) ms = (m1, m2, m3)) := by unfold Hid; rw [← hI.out, List.drop_eq_nil_of_le (Nat.le_refl _)]; rfl
            have hpw : w.heap.size + 1 < W0.heap.size := by omega
            have hPr := HP0.out.mods hmods (by omega)
            have e0 := hblk.cell 0
            have e1 := hblk.cell 1
            have e2 := hblk.cell 2
            have p0' := hPr.cell 0
            have p1' := hPr.cell 1
            have q0' := hPr.free 0
            have q1' := hPr.free 1
            have hfin : Hid (Below w.heap.size w wr) := HB0.out.trans (hmods.toBelow (by omega) (fun j hj e => by omega))
            have hpr : w.heap.size + 1 < wr.heap.size := by omega
            clear hI hblk hmods hPr
            go_wp2_with fail
            refine bodyPost_ret (v := .tuple #[.agg #[.int .i64 m2, .int .i64 (m3 + i - m1)], .int .i64 0]) (by simp [results, Tryz.results23, go_sem, p0', p1']) rfl ?_
            exact ⟨atRes_yes hyes.out m1 m2 m3 _ hg0.out hI2.out, ((hfin.out.setCell (p := ⟨_, 0, none⟩) (by simp) _).setCell (p := ⟨_, 1, none⟩) (by simp) _)⟩
      · have hno : Hid (atOk ⟨left, t, ms⟩ i = false) := by unfold Hid atOk; rw [hval, decide_eq_true h0, decide_eq_false (by show ¬ i ≤ (t.length : Int); rw [← HSS.out]; exact h1)]; rfl
        clear hval
        go_wp2_with fail
        refine bodyPost_ret (v := .tuple #[.agg #[.int .i64 0, .int .i64 0], .int .i64 1]) (by simp [results, Tryz.results23, go_sem, p0, p1]) rfl ?_
        exact ⟨atRes_no hno.out, ((HB1.out.setCell (p := ⟨_, 0, none⟩) (by simp) _).setCell (p := ⟨_, 1, none⟩) (by simp) _)⟩
    · have hno : Hid (atOk ⟨left, t, ms⟩ i = false) := by unfold Hid atOk; rw [hval, decide_eq_false h0]; rfl
      clear hval
      go_wp2_with fail
      refine bodyPost_ret (v := .tuple #[.agg #[.int .i64 0, .int .i64 0], .int .i64 1]) (by simp [results, Tryz.results23, go_sem, p0, p1]) rfl ?_
      exact ⟨atRes_no hno.out, ((HB1.out.setCell (p := ⟨_, 0, none⟩) (by simp) _).setCell (p := ⟨_, 1, none⟩) (by simp) _)⟩
end Go.Proofs.YtghnffdjdjlomaaGreatDoor
