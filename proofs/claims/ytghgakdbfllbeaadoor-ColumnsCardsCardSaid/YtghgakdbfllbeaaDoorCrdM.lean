/-
  THE WALK of the law ColumnsCards at a card with marks (layer 2, columns).
-/
import Derived.Test.YtghgakdbfllbeaaDoorCrdL
import Derived.Outline
import Derived.Deep.DeepCutAuto
import Derived.Deep.CutBlock
namespace Go.Proofs.YtghgakdbfllbeaaDoor
open Go.RowKit Go.Shelf

theorem Blk.set2 {w : World} {b : Nat} {x y : Value} {T : TypeId} (h : Blk w b #[x, y] T) (x' y' : Value) : Blk ((w.setCell ⟨b, 0, none⟩ x').setCell ⟨b, 1, none⟩ y') b #[x', y'] T := (h.set 0 x').set 1 y'
theorem Mods.set2' {M : Nat → Prop} {a b : World} (h : Mods M a b) (blk : Nat) (x y : Value) (hM : M blk) : Mods M a ((b.setCell ⟨blk, 0, none⟩ x).setCell ⟨blk, 1, none⟩ y) :=
  (h.set _ _ _ (fun _ => hM)).set _ _ _ (fun _ => hM)
/-- what stands behind the law's loop -/
structure CrdX (c : CardL) (i : Int) (pb : Nat) (w0 w : World) (okv : Bool) (p q : Int) : Prop where
  ok : okv = atOk c i
  pos : okv = true → (p, q) = posL c i
  blk : Blk w pb #[.int .i64 p, .int .i64 q] 32
  mods : Mods (fun j => j = pb) w0 w
theorem validL_head {c : CardL} (h : c.text ≠ []) (hm : c.marks ≠ []) : validL c = (decide ((c.marks.getD 0 (0, 0, 0)).1 = 0) && marksOk (c.text.length : Int) (-1) c.marks) := by
  unfold validL
  have h1 : c.text.isEmpty = false := by simpa using h
  have h2 : c.marks.isEmpty = false := by simpa using hm
  rw [h1, h2]; rfl

/-- a place by a mark, as the law reckons it -/
def posM (i : Int) (m : MarkL) : Int × Int := (m.2.1, m.2.2 + (i - m.1))
theorem posM_posL (c : CardL) (i : Int) (m : MarkL) (h : c.marks.getD 0 (0, 0, 0) = m) : posM i (lastM i m c.marks) = posL c i := by
  unfold posM posL
  rw [h]
  simp only [Prod.mk.injEq, true_and]
  omega
theorem brkV (N bf q1 q2 q3 : Int) (X : Bool) (h : q1 ≤ bf ∨ N ≤ q1 ∨ q2 < 1 ∨ q3 < 8 ∨ 72 < q3) : (if q1 ≤ bf then false else if N ≤ q1 then false else if inTextL q2 q3 then X else false) = false := by
  by_cases a : q1 ≤ bf
  · rw [if_pos a]
  · by_cases b : N ≤ q1
    · rw [if_neg a, if_pos b]
    · have : inTextL q2 q3 = false := by
        unfold inTextL
        rcases h with h | h | h | h | h
        · exact absurd h a
        · exact absurd h b
        · rw [decide_eq_false (by omega)]; rfl
        · rw [decide_eq_false (show ¬ 8 ≤ q3 by omega)]; simp
        · rw [decide_eq_false (show ¬ q3 ≤ 72 by omega)]; simp
      rw [if_neg a, if_neg b, this]; rfl
theorem pasV (N bf q1 q2 q3 : Int) (X : Bool) (h : bf < q1 ∧ q1 < N ∧ 1 ≤ q2 ∧ 8 ≤ q3 ∧ q3 ≤ 72) : (if q1 ≤ bf then false else if N ≤ q1 then false else if inTextL q2 q3 then X else false) = X := by
  have : inTextL q2 q3 = true := by
    unfold inTextL
    simp only [Bool.and_eq_true, decide_eq_true_eq]
    exact h.2.2
  rw [if_neg (by omega), if_neg (by omega), this]; rfl
theorem lastM_take (i : Int) (m : MarkL) (ms : List MarkL) (k : Nat) (h : k < ms.length) : lastM i m (ms.take (k + 1)) = if ms[k].1 ≤ i then ms[k] else lastM i m (ms.take k) := by
  rw [List.take_succ_eq_append_getElem h, lastM_snoc]
/-- what holds at the head of the law's loop, for an index that is in range -/
structure CrdI (c : CardL) (i a1 a2 a3 : Int) (pb : Nat) (w0 w : World) (k : Nat) (bf p q : Int) : Prop where
  val : validL c = ((if k = 0 then decide (a1 = 0) else true) && marksOk (c.text.length : Int) bf (c.marks.drop k))
  pos : 0 < k → (p, q) = posM i (lastM i (a1, a2, a3) (c.marks.take k))
  blk : Blk w pb #[.int .i64 p, .int .i64 q] 32
  mods : Mods (fun j => j = pb) w0 w
set_option maxHeartbeats 8000000 in
set_option maxRecDepth 100000 in
theorem Cards_some (left : Bool) (t : List UInt8) (ms : List MarkL) (A : Option Addr) (cap B : Nat) (i : Int) (w : World) (hm : MarksAt w B A ms) (hB : B ≤ w.heap.size) (ht : t.length ≤ 100) (hl : ms.length ≤ 20) (hpos : 0 < ms.length)
    (hi1 : -9223372036854775808 ≤ i) (hi2 : i ≤ 9223372036854775807) (htab : Lib.TabIs Tryd.prog w "internal/strconv.uint64pow10" .u64 Lib.pow10Tab) :
    Calls Tryd.prog 7 #[.agg #[.bool left, .string (mk t), .slice A ms.length cap], .int .i64 i] w fun e w' => e = .returned (.bool true) ∧ Below w.heap.size w w' := by
  have hL : Hid (∀ w1, Below w.heap.size w w1 → Calls Tryd.prog 8 #[] w1 fun e w' => e = .returned (.bool true) ∧ Below w1.heap.size w1 w') := fun w1 hb => lives_c w1 (tab_below htab hb)
  obtain ⟨b, off, rfl, hb, -⟩ := hm.at_ 0 hpos
  obtain ⟨S, hS⟩ : ∃ S, S = mk t := ⟨_, rfl⟩
  have hSs : S.size = t.length := by rw [hS]; show t.toArray.size = _; rw [List.size_toArray]
  obtain ⟨P1, hP1⟩ : ∃ p, p = (atP ⟨left, t, ms⟩ i).1 := ⟨_, rfl⟩
  obtain ⟨P2, hP2⟩ : ∃ p, p = (atP ⟨left, t, ms⟩ i).2 := ⟨_, rfl⟩
  obtain ⟨E, hE⟩ : ∃ p, p = atE ⟨left, t, ms⟩ i := ⟨_, rfl⟩
  have hmk : Hid (∀ w1, Below w.heap.size w w1 → MarksAt w1 B (some ⟨b, off, none⟩) ms) := fun w1 hb1 => by
    refine .inr ⟨b, off, rfl, hb, fun j hj => ?_⟩
    obtain ⟨b', off', he, _, h⟩ := hm.at_ j hj
    injection he with he; injection he with e1 e2; subst e1; subst e2
    have hbl := hb1.block b (by omega)
    exact ⟨(World.cell?_of_block hbl).trans h.1, (World.cell?_of_block hbl).trans h.2.1, (World.cell?_of_block hbl).trans h.2.2⟩
  have hAt : Hid (∀ w1, Below w.heap.size w w1 → Calls Tryd.prog 19 #[.agg #[.bool left, .string S, .slice (some ⟨b, off, none⟩) ms.length cap], .int .i64 i] w1 fun e w' => e = .returned (.tuple #[.agg #[.int .i64 P1, .int .i64 P2], .int .i64 E]) ∧ Below w1.heap.size w1 w') := fun w1 hb1 => by
    rw [hS, hP1, hP2, hE]
    exact (At_c left t ms _ cap B i w1 (hmk.out w1 hb1) (Nat.le_trans hB hb1.size) (by omega) (by omega)).mono fun e w' h => ⟨atRes_eq h.1, h.2⟩
  have HPE : Hid (P1 = (atP ⟨left, t, ms⟩ i).1 ∧ P2 = (atP ⟨left, t, ms⟩ i).2 ∧ E = atE ⟨left, t, ms⟩ i) := ⟨hP1, hP2, hE⟩
  rw [← hS]
  have hsl : ¬ 100 < S.size := by omega
  have hbw : b < w.heap.size := by omega
  obtain ⟨o0, ho0⟩ : ∃ o, o = (decide (0 ≤ i) && decide (i ≤ (S.size : Int))) := ⟨_, rfl⟩
  have HO := hide ho0
  have HSS := hide hSs
  have HC0 := hide (blk_new w #[.bool left, .string S, .slice (some ⟨b, off, none⟩) ms.length cap] 39)
  have HB0 := hide ((Below.refl _ w).alloc (Nat.le_refl _) (.cells #[.bool left, .string S, .slice (some ⟨b, off, none⟩) ms.length cap] 39))
  obtain ⟨W0, hW0⟩ : ∃ W, W = w.alloc (.cells #[.bool left, .string S, .slice (some ⟨b, off, none⟩) ms.length cap] 39) := ⟨_, rfl⟩
  have HW0s : Hid (W0.heap.size = w.heap.size + 1) := by rw [hW0]; exact World.size_alloc _ _
  clear hSs hS htab hP1 hP2 hE hm ho0
  go_enter Tryd.func7, Tryd.ntmps7
  go_upto_region 3 with fail
  rw [← hW0]
  rw [← hW0] at HC0 HB0
  have hcw : w.heap.size < W0.heap.size := by rw [HW0s.out]; omega
  have c1 := HC0.out.cell 1
  have c2 := HC0.out.cell 2
  clear hW0
  go_cut [5] (fun s5 wx => s5 = .bool o0 ∧ wx = W0)
  case first =>
    have hms : (0 : Int) < (ms.length : Int) := by omega
    by_cases h0 : 0 ≤ i
    · by_cases h1 : i ≤ (S.size : Int)
      · have HT : Hid (o0 = true) := by unfold Hid; rw [HO.out, decide_eq_true h0, decide_eq_true h1]; rfl
        go_wp2_with fail
        go_meet
        exact ⟨by rw [HT.out], rfl⟩
      · have HT : Hid (o0 = false) := by unfold Hid; rw [HO.out, decide_eq_true h0, decide_eq_false h1]; rfl
        go_wp2_with fail
        go_meet
        exact ⟨by rw [HT.out], rfl⟩
    · have HT : Hid (o0 = false) := by unfold Hid; rw [HO.out, decide_eq_false h0]; rfl
      go_wp2_with fail
      go_meet
      exact ⟨by rw [HT.out], rfl⟩
  case rest =>
    obtain ⟨rfl, rfl⟩ := hcut
    obtain ⟨W1, hW1⟩ : ∃ W, W = wc.alloc (.cells #[.int .i64 0, .int .i64 0] 32) := ⟨_, rfl⟩
    have HB1 : Hid (Below w.heap.size w W1) := by rw [hW1]; exact HB0.out.alloc HB0.out.size _
    have HC1 : Hid (Blk W1 w.heap.size #[.bool left, .string S, .slice (some ⟨b, off, none⟩) ms.length cap] 39) := by rw [hW1]; exact HC0.out.alloc _
    have HQ1 : Hid (Blk W1 wc.heap.size #[.int .i64 0, .int .i64 0] 32) := by rw [hW1]; exact blk_new wc _ _
    have hz1 : wc.heap.size < W1.heap.size := by rw [hW1]; simp
    obtain ⟨pb, hpb⟩ : ∃ n, n = wc.heap.size := ⟨_, rfl⟩
    have hpw : w.heap.size < pb := by rw [hpb, HW0s.out]; omega
    rw [← hpb] at HQ1 hz1
    have HM1 := hide (hmk.out W1 HB1.out)
    go_upto_block 0 with fail
    rw [← hW1, ← hpb]
    clear hW1 hpb
    go_cut [5, 6, 8, 9] from 43 to 111 (fun s5 s6 s8 s9 wc => ∃ okv p q, s5 = .bool okv ∧ CrdX ⟨left, t, ms⟩ i pb W1 wc okv p q)
    case first =>
      obtain ⟨⟨a1, a2, a3⟩, ha⟩ : ∃ m, m = ms[0] := ⟨_, rfl⟩
      have HA := hide ha
      clear ha
      rcases Bool.eq_false_or_eq_true o0 with ho | ho
      · have HT := hide ho
        have HOI : Hid (0 ≤ i ∧ i ≤ (S.size : Int)) := by
          have h := HO.out
          rw [ho] at h
          have h2 := h.symm
          simp only [Bool.and_eq_true, decide_eq_true_eq] at h2
          exact h2
        have HOK : Hid (atOk ⟨left, t, ms⟩ i = validL ⟨left, t, ms⟩) := by
          unfold Hid atOk
          rw [decide_eq_true HOI.out.1, decide_eq_true (by show i ≤ (t.length : Int); rw [← HSS.out]; exact HOI.out.2)]; simp
        have hi0 := HOI.out.1
        have hi9 : i ≤ 100 := by have := HOI.out.2; omega
        have HV0 : Hid (t ≠ [] → validL ⟨left, t, ms⟩ = (decide (a1 = 0) && marksOk (t.length : Int) (-1) ms)) := fun h => by
          have := validL_head (c := ⟨left, t, ms⟩) h (List.length_pos_iff.1 hpos)
          rw [this]
          simp only
          rw [List.getD_eq_getElem?_getD, List.getElem?_eq_getElem hpos, ← HA.out]; rfl
        have HG : Hid ((⟨left, t, ms⟩ : CardL).marks.getD 0 (0, 0, 0) = (a1, a2, a3)) := by
          unfold Hid; simp only; rw [List.getD_eq_getElem?_getD, List.getElem?_eq_getElem hpos, ← HA.out]; rfl
        have HV1 : Hid (t = [] → validL ⟨left, t, ms⟩ = false) := fun h => by subst h; rfl
        subst ho
        go_wp2_with fail
        go_loopw [5, 6, 8] (fun v5 v6 v8 wr => ∃ (k : Nat) (bf p q : Int), v5 = .bool true ∧ v6 = .int .i64 bf ∧ v8 = .int .i64 (k : Int) ∧ k ≤ ms.length ∧ -1 ≤ bf ∧ CrdI ⟨left, t, ms⟩ i a1 a2 a3 pb W1 wr k bf p q) (fun _ _ v8 _ => ms.length - (intOf v8).toNat)
        case atStart =>
          refine ⟨0, -1, 0, 0, rfl, rfl, rfl, Nat.zero_le _, Int.le_refl _, ⟨?_, fun h => absurd h (by omega), HQ1.out, Mods.refl _ _⟩⟩
          by_cases h : t = []
          · rw [HV1.out h]
            simp only [if_pos, List.drop_zero, h, List.length_nil]
            cases ms with
            | nil => simp at hpos
            | cons m r =>
              simp only [marksOk]
              by_cases a : m.1 ≤ -1
              · rw [if_pos a]; simp
              · rw [if_neg a, if_pos (by omega)]; simp
          · rw [HV0.out h]; simp only [if_pos, List.drop_zero]
        case round =>
          obtain ⟨k, bf, p, q, rfl, rfl, rfl, hk, hbf, hx⟩ := hrel
          have hblk := hx.blk
          have hmods := hx.mods
          have hsz := hmods.size
          have hcr := HC1.out.mods hmods (by omega)
          have d1 := hcr.cell 1
          have d2 := hcr.cell 2
          have f0 := hblk.free 0
          have f1 := hblk.free 1
          have g0 := hblk.cell 0
          have g1 := hblk.cell 1
          have hbr : pb < wr.heap.size := by omega
          have hcr2 : w.heap.size < wr.heap.size := by omega
          have hbwr : b < wr.heap.size := by omega
          have HBL := hide hblk
          have HMO := hide hmods
          by_cases hlt : k < ms.length
          · obtain ⟨b', off', he, _, y0, y1, y2⟩ := HM1.out.at_ k hlt
            injection he with he; injection he with e1 e2; subst e1; subst e2
            have hbs : b < W1.heap.size := by omega
            have hbn : ¬ b = pb := by omega
            replace y0 := (hmods.cell b (off + k * 3) hbs hbn).trans y0
            replace y1 := (hmods.cell b (off + k * 3 + 1) hbs hbn).trans y1
            replace y2 := (hmods.cell b (off + k * 3 + 2) hbs hbn).trans y2
            have hst := marksOk_at (t.length : Int) bf ms k hlt
            have hlm := lastM_take i (a1, a2, a3) ms k hlt
            obtain ⟨⟨q1, q2, q3⟩, hq⟩ : ∃ m, m = ms[k] := ⟨_, rfl⟩
            rw [← hq] at y0 y1 y2 hst hlm
            simp only at y0 y1 y2 hst hlm
            have HK0 : Hid (k = 0 → a1 = q1 ∧ lastM i (a1, a2, a3) (ms.take k) = (q1, q2, q3)) := fun h => by
              subst h
              have := HA.out
              rw [← hq] at this
              injection this with e1 e2
              subst e1
              exact ⟨rfl, by rw [List.take_zero]; unfold lastM; exact Prod.ext rfl e2⟩
            have HVL : Hid (validL ⟨left, t, ms⟩ = ((if k = 0 then decide (a1 = 0) else true) && (if q1 ≤ bf then false else if (t.length : Int) ≤ q1 then false else if inTextL q2 q3 then marksOk (t.length : Int) q1 (ms.drop (k + 1)) else false))) := by
              unfold Hid; rw [hx.val, ← hst]
            have HPO := hide hx.pos
            have HLM := hide hlm
            have HSN : Hid ((t.length : Int) = (S.size : Int)) := by unfold Hid; rw [HSS.out]
            have HBR : Hid (((k = 0 ∧ q1 ≠ 0) ∨ q1 ≤ bf ∨ (S.size : Int) ≤ q1 ∨ q2 < 1 ∨ q3 < 8 ∨ 72 < q3) → atOk ⟨left, t, ms⟩ i = false) := fun h => by
              rw [HOK.out, HVL.out, HSN.out]
              rcases h with ⟨h1, h2⟩ | h
              · rw [if_pos h1, decide_eq_false (by rw [(HK0.out h1).1]; exact h2)]; rfl
              · rw [brkV _ _ _ _ _ _ h]; simp
            have HPS : Hid ((k = 0 → q1 = 0) → bf < q1 → q1 < (S.size : Int) → 1 ≤ q2 → 8 ≤ q3 → q3 ≤ 72 → validL ⟨left, t, ms⟩ = ((if k + 1 = 0 then decide (a1 = 0) else true) && marksOk (t.length : Int) q1 (ms.drop (k + 1)))) := fun h1 h2 h3 h4 h5 h6 => by
              rw [HVL.out, pasV _ _ _ _ _ _ ⟨h2, by rw [HSN.out]; exact h3, h4, h5, h6⟩, if_neg (Nat.succ_ne_zero k)]
              by_cases h : k = 0
              · rw [if_pos h, decide_eq_true (by rw [(HK0.out h).1]; exact h1 h)]
              · rw [if_neg h]
            have HP1 : Hid (q1 ≤ i → posM i (q1, q2, q3) = posM i (lastM i (a1, a2, a3) (ms.take (k + 1)))) := fun h => by rw [HLM.out, if_pos h]
            have HP2 : Hid (i < q1 → (k = 0 → q1 = 0) → (p, q) = posM i (lastM i (a1, a2, a3) (ms.take (k + 1)))) := fun h h1 => by
              have h0 : 0 < k := by
                rcases Nat.eq_zero_or_pos k with e | e
                · have := h1 e; omega
                · exact e
              rw [HLM.out, if_neg (by omega)]; exact HPO.out h0
            clear hq hmods hblk hcr hst hlm hx
            have tri : (((k : Int) == 0) = true ∧ (q1 != 0) = true ∧ Hid ((k = 0 ∧ q1 ≠ 0) ∨ False)) ∨ (((k : Int) == 0) = true ∧ (q1 != 0) = false ∧ Hid (k = 0 → q1 = 0)) ∨ (((k : Int) == 0) = false ∧ Hid (k = 0 → q1 = 0)) := by
              by_cases h : k = 0
              · by_cases h2 : q1 = 0
                · exact .inr (.inl ⟨by rw [h]; rfl, by rw [h2]; rfl, fun _ => h2⟩)
                · exact .inl ⟨by rw [h]; rfl, by rw [bne_iff_ne]; exact h2, .inl ⟨h, h2⟩⟩
              · exact .inr (.inr ⟨by rw [beq_eq_false_iff_ne]; omega, fun e => absurd e h⟩)
            rcases tri with ⟨ek, eq, HK⟩ | ⟨ek, eq, HK⟩ | ⟨ek, HK⟩
            · have HB9 : Hid (atOk ⟨left, t, ms⟩ i = false) := HBR.out (.inl (HK.out.elim id False.elim))
              go_wp2_with fail
              go_meet
              exact ⟨false, p, q, rfl, ⟨HB9.out.symm, (fun h => by cases h), HBL.out.alloc _, HMO.out.alloc _⟩⟩
            · go_wp2_with fail
              all_goals first
                | (go_meet
                   exact ⟨false, p, q, rfl, ⟨(HBR.out (.inr (by omega))).symm, (fun h => by cases h), HBL.out.alloc _, HMO.out.alloc _⟩⟩)
                | (go_roundw
                   case rel => first
                     | exact ⟨k + 1, q1, p, q, rfl, rfl, by go_num, hlt, by omega, ⟨HPS.out HK.out (by omega) (by omega) (by omega) (by omega) (by omega), fun _ => HP2.out (by omega) HK.out, HBL.out.alloc _, HMO.out.alloc _⟩⟩
                     | exact ⟨k + 1, q1, q2, q3 + (i - q1), rfl, rfl, by go_num, hlt, by omega, ⟨HPS.out HK.out (by omega) (by omega) (by omega) (by omega) (by omega), fun _ => HP1.out (by omega), (HBL.out.set2 _ _).alloc _, (HMO.out.set2' _ _ _ rfl).alloc _⟩⟩
                   case measure => simp [intOf]; omega)
            · go_wp2_with fail
              all_goals first
                | (go_meet
                   exact ⟨false, p, q, rfl, ⟨(HBR.out (.inr (by omega))).symm, (fun h => by cases h), HBL.out.alloc _, HMO.out.alloc _⟩⟩)
                | (go_roundw
                   case rel => first
                     | exact ⟨k + 1, q1, p, q, rfl, rfl, by go_num, hlt, by omega, ⟨HPS.out HK.out (by omega) (by omega) (by omega) (by omega) (by omega), fun _ => HP2.out (by omega) HK.out, HBL.out.alloc _, HMO.out.alloc _⟩⟩
                     | exact ⟨k + 1, q1, q2, q3 + (i - q1), rfl, rfl, by go_num, hlt, by omega, ⟨HPS.out HK.out (by omega) (by omega) (by omega) (by omega) (by omega), fun _ => HP1.out (by omega), (HBL.out.set2 _ _).alloc _, (HMO.out.set2' _ _ _ rfl).alloc _⟩⟩
                   case measure => simp [intOf]; omega)
          · obtain rfl : k = ms.length := by omega
            have hval := hx.val
            have hps := hx.pos
            have HXX : Hid (true = atOk ⟨left, t, ms⟩ i ∧ (p, q) = posL ⟨left, t, ms⟩ i) := by
              refine ⟨?_, ?_⟩
              · rw [HOK.out, hval, if_neg (by omega), List.drop_eq_nil_of_le (Nat.le_refl _)]; rfl
              · rw [hps hpos, List.take_of_length_le (Nat.le_refl _)]
                exact posM_posL ⟨left, t, ms⟩ _ _ HG.out
            clear hmods hblk hcr hval hps hx
            go_wp2_with fail
            go_meet
            exact ⟨true, p, q, rfl, ⟨HXX.out.1, (fun _ => HXX.out.2), HBL.out, HMO.out⟩⟩
      · have HT := hide ho
        have HN : Hid (atOk ⟨left, t, ms⟩ i = false) := by
          unfold Hid atOk
          have e : (decide (0 ≤ i) && decide (i ≤ ((⟨left, t, ms⟩ : CardL).text.length : Int))) = false := by rw [← HT.out, HO.out, HSS.out]
          rw [e]; simp
        subst ho
        go_wp2_with fail
        go_loopw [5, 6, 8] (fun v5 v6 v8 wr => ∃ (k : Nat) (bf p q : Int), v5 = .bool false ∧ v6 = .int .i64 bf ∧ v8 = .int .i64 (k : Int) ∧ k ≤ ms.length ∧ Blk wr pb #[.int .i64 p, .int .i64 q] 32 ∧ Mods (fun j => j = pb) W1 wr) (fun _ _ v8 _ => ms.length - (intOf v8).toNat)
        case atStart => exact ⟨0, -1, 0, 0, rfl, rfl, rfl, Nat.zero_le _, HQ1.out, Mods.refl _ _⟩
        case round =>
          obtain ⟨k, bf, p, q, rfl, rfl, rfl, hk, hblk, hmods⟩ := hrel
          have hsz := hmods.size
          have hcr := HC1.out.mods hmods (by omega)
          have d1 := hcr.cell 1
          have d2 := hcr.cell 2
          have f0 := hblk.free 0
          have f1 := hblk.free 1
          have g0 := hblk.cell 0
          have g1 := hblk.cell 1
          have hbr : pb < wr.heap.size := by omega
          have hcr2 : w.heap.size < wr.heap.size := by omega
          have hbwr : b < wr.heap.size := by omega
          have HBL := hide hblk
          have HMO := hide hmods
          by_cases hlt : k < ms.length
          · obtain ⟨b', off', he, _, y0, y1, y2⟩ := HM1.out.at_ k hlt
            injection he with he; injection he with e1 e2; subst e1; subst e2
            have hbs : b < W1.heap.size := by omega
            have hbn : ¬ b = pb := by omega
            replace y0 := (hmods.cell b (off + k * 3) hbs hbn).trans y0
            replace y1 := (hmods.cell b (off + k * 3 + 1) hbs hbn).trans y1
            replace y2 := (hmods.cell b (off + k * 3 + 2) hbs hbn).trans y2
            obtain ⟨⟨q1, q2, q3⟩, hq⟩ : ∃ m, m = ms[k] := ⟨_, rfl⟩
            rw [← hq] at y0 y1 y2
            simp only at y0 y1 y2
            clear hq hmods hblk hcr
            have tri : (((k : Int) == 0) = true ∧ (q1 != 0) = true) ∨ (((k : Int) == 0) = true ∧ (q1 != 0) = false) ∨ ((k : Int) == 0) = false := by
              by_cases h : k = 0
              · by_cases h2 : q1 = 0
                · exact .inr (.inl ⟨by rw [h]; rfl, by rw [h2]; rfl⟩)
                · exact .inl ⟨by rw [h]; rfl, by rw [bne_iff_ne]; exact h2⟩
              · exact .inr (.inr (by rw [beq_eq_false_iff_ne]; omega))
            rcases tri with ⟨ek, eq⟩ | ⟨ek, eq⟩ | ek
            · go_wp2_with fail
              all_goals first
                | (go_meet
                   exact ⟨false, p, q, rfl, ⟨HN.out.symm, (fun h => by cases h), HBL.out.alloc _, HMO.out.alloc _⟩⟩)
                | (go_roundw
                   case rel => first
                     | exact ⟨k + 1, q1, p, q, rfl, rfl, by go_num, hlt, HBL.out.alloc _, HMO.out.alloc _⟩
                     | exact ⟨k + 1, q1, _, _, rfl, rfl, by go_num, hlt, (HBL.out.set2 _ _).alloc _, (HMO.out.set2' _ _ _ rfl).alloc _⟩
                   case measure => simp [intOf]; omega)
            · go_wp2_with fail
              all_goals first
                | (go_meet
                   exact ⟨false, p, q, rfl, ⟨HN.out.symm, (fun h => by cases h), HBL.out.alloc _, HMO.out.alloc _⟩⟩)
                | (go_roundw
                   case rel => first
                     | exact ⟨k + 1, q1, p, q, rfl, rfl, by go_num, hlt, HBL.out.alloc _, HMO.out.alloc _⟩
                     | exact ⟨k + 1, q1, _, _, rfl, rfl, by go_num, hlt, (HBL.out.set2 _ _).alloc _, (HMO.out.set2' _ _ _ rfl).alloc _⟩
                   case measure => simp [intOf]; omega)
            · go_wp2_with fail
              all_goals first
                | (go_meet
                   exact ⟨false, p, q, rfl, ⟨HN.out.symm, (fun h => by cases h), HBL.out.alloc _, HMO.out.alloc _⟩⟩)
                | (go_roundw
                   case rel => first
                     | exact ⟨k + 1, q1, p, q, rfl, rfl, by go_num, hlt, HBL.out.alloc _, HMO.out.alloc _⟩
                     | exact ⟨k + 1, q1, _, _, rfl, rfl, by go_num, hlt, (HBL.out.set2 _ _).alloc _, (HMO.out.set2' _ _ _ rfl).alloc _⟩
                   case measure => simp [intOf]; omega)
          · obtain rfl : k = ms.length := by omega
            clear hmods hblk hcr
            go_wp2_with fail
            go_meet
            exact ⟨false, p, q, rfl, ⟨HN.out.symm, (fun h => by cases h), HBL.out, HMO.out⟩⟩
    case rest =>
      obtain ⟨okv, p, q, rfl, hx⟩ := hcut
      have hblk := hx.blk
      have hmods := hx.mods
      have hsz := hmods.size
      have hcr := HC1.out.mods hmods (by omega)
      have HB2 : Hid (Below w.heap.size w wc) := HB1.out.trans (hmods.toBelow (by omega) (fun j hj e => by omega))
      have d0 := hcr.cell 0
      have d1 := hcr.cell 1
      have d2 := hcr.cell 2
      have HCR := hide hcr
      have HBL := hide hblk
      have hcr2 : w.heap.size < wc.heap.size := by omega
      have hbr : pb < wc.heap.size := by omega
      have HOKV := hide hx.ok
      have HPOS := hide hx.pos
      clear hx hblk hmods hcr
      go_wp2_with fail
      refine (hAt.out _ HB2.out).mono ?_
      rintro e w3 ⟨rfl, hb3⟩
      have HB3 : Hid (Below w.heap.size w w3) := HB2.out.trans (hb3.mono HB2.out.size)
      have hC3 := blk_kept hb3 HCR.out
      have hP3 := blk_kept hb3 HBL.out
      have k2 := hC3.cell 2
      have p0 := hP3.cell 0
      have p1 := hP3.cell 1
      have hcw3 := hC3.lt
      have hpw3 := hP3.lt
      have HB3a := hide (HB3.out.alloc HB3.out.size (.cells #[.int .i64 P1, .int .i64 P2] 32))
      clear hC3 hP3 hb3 d0 d1 d2 HCR HBL hAt hmk
      have hms : (0 : Int) < (ms.length : Int) := by omega
      cases okv
      · have hok := HOKV.out.symm
        obtain ⟨h1, h2, h3⟩ := HPE.out
        rw [atP_no hok] at h1 h2
        rw [atE_no hok] at h3
        clear HPE HOKV HPOS
        obtain rfl : P1 = 0 := h1
        obtain rfl : P2 = 0 := h2
        obtain rfl : E = 1 := h3
        clear hok
        go_wp2_with fail
        refine (hL.out _ HB3a.out).mono ?_
        rintro e w4 ⟨rfl, hb4⟩
        have HB4 := hide (HB3a.out.trans (hb4.mono HB3a.out.size))
        clear hb4
        go_wp2_with fail
        go_ret
        exact ⟨rfl, HB4.out⟩
      · have hok := HOKV.out.symm
        obtain ⟨h1, h2, h3⟩ := HPE.out
        have h4 := HPOS.out rfl
        rw [atP_yes hok, ← h4] at h1 h2
        rw [atE_yes hok] at h3
        clear HPE HOKV HPOS
        obtain rfl : P1 = p := h1
        obtain rfl : P2 = q := h2
        obtain rfl : E = 0 := h3
        clear h4 hok
        go_wp2_with fail
        refine (hL.out _ HB3a.out).mono ?_
        rintro e w4 ⟨rfl, hb4⟩
        have HB4 := hide (HB3a.out.trans (hb4.mono HB3a.out.size))
        clear hb4
        go_wp2_with fail
        go_ret
        exact ⟨rfl, HB4.out⟩
end Go.Proofs.YtghgakdbfllbeaaDoor
