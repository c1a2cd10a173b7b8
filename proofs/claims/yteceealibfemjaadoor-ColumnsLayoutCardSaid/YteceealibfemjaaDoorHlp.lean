/-
  READ, ONE CONTRACT FOR ALL TEXTS; THE CONTRACT of the law's helper read (layer 2, columns).
-/
import Derived.Test.YteceealibfemjaaDoorBig
import Derived.Test.YteceealibfemjaaDoorShelf
namespace Go.Proofs.YteceealibfemjaaDoor
open Go.RowKit Go.Shelf

/-- Read, also of a text that is too long -/
def readT (debug : Bool) (l : List UInt8) : Except FaultL (List CardL) := if 1048576 < l.length then .error (3, 0, 0) else readL debug l
def resCs : Except FaultL (List CardL) → List CardL
  | .error _ => []
  | .ok cs => cs
def resF : Except FaultL (List CardL) → FaultL
  | .error f => f
  | .ok _ => (0, 0, 0)
theorem Read_all (s : ByteArray) (debug : Bool) (w : World) (hs : s.size ≤ 100000000) (hcnt : s.size ≤ 1048576 → (((chunks s.data.toList).map stripL).filter (countsL debug)).length ≤ 70000) :
    Calls Tryd.prog 28 #[.string s, .bool debug] w fun e w' => ∃ A, e = .returned (.tuple #[.slice A (resCs (readT debug s.data.toList)).length (resCs (readT debug s.data.toList)).length, fault (resF (readT debug s.data.toList))]) ∧
      CardsAt w' w'.heap.size A (resCs (readT debug s.data.toList)) ∧ TightAt w' A (resCs (readT debug s.data.toList)) ∧ Below w.heap.size w w' := by
  rcases Nat.lt_or_ge 1048576 s.size with h | h
  · have e : readT debug s.data.toList = .error (3, 0, 0) := by unfold readT; rw [if_pos (by rw [len_data]; exact h)]
    rw [e]
    exact (Read_big s debug w h hs).mono fun _ _ h => ⟨none, h.1, .inl rfl, (fun _ _ _ j hj => by simp [resCs] at hj), h.2⟩
  · have e : readT debug s.data.toList = readL debug s.data.toList := by unfold readT; rw [if_neg (by rw [len_data]; omega)]
    rw [e]
    refine (Read_c s debug w h (hcnt h)).mono fun e' w' hp => ?_
    cases hr : readL debug s.data.toList with
    | error f =>
      rw [hr] at hp
      exact ⟨none, hp.1, .inl rfl, (fun _ _ _ j hj => by simp [resCs] at hj), hp.2⟩
    | ok cs =>
      rw [hr] at hp
      obtain ⟨A, h1, h2, h3, h4⟩ := hp
      exact ⟨A, h1, h2, h3, h4⟩

theorem below_drew {B : Nat} {a w : World} (h : Below B a w) : Below B a w.drew := ⟨h.os, h.tape, h.output, h.size, h.block⟩

/-- how the helper shows a card -/
def cardText (c : CardL) : List UInt8 := if c.left then c.text ++ [60] else c.text
def shown (cs : List CardL) : List UInt8 := Lib.join (cs.map cardText) [124]

set_option maxHeartbeats 2000000 in
set_option maxRecDepth 100000 in
theorem help_c (s : ByteArray) (w : World) (hs : s.size ≤ 100000000) (hcnt : s.size ≤ 1048576 → (((chunks s.data.toList).map stripL).filter (countsL false)).length ≤ 70000)
    (hl : (resCs (readT false s.data.toList)).length ≤ 1000000) (hts : ∀ c ∈ resCs (readT false s.data.toList), c.text.length ≤ 1000000000) (hsh : (shown (resCs (readT false s.data.toList))).length ≤ 140737488355328) :
    Calls Tryd.prog 13 #[.string s] w fun e w' => e = .returned (.tuple #[.string (mk (shown (resCs (readT false s.data.toList)))), fault (resF (readT false s.data.toList))]) ∧ Below w.heap.size w w' := by
  have hRD := hide (fun (w1 : World) => Read_all s false w1 hs hcnt)
  obtain ⟨cs, hcs⟩ : ∃ cs, cs = resCs (readT false s.data.toList) := ⟨_, rfl⟩
  obtain ⟨f, hf⟩ : ∃ f, f = resF (readT false s.data.toList) := ⟨_, rfl⟩
  rw [← hcs] at hl hts hsh
  rw [← hcs, ← hf] at hRD
  rw [← hcs, ← hf]
  obtain ⟨f1, f2, f3⟩ := f
  have HRD : Hid (∀ w1, Calls Tryd.prog 28 #[.string s, .bool false] w1 fun e w' => ∃ A, e = .returned (.tuple #[.slice A cs.length cs.length, .agg #[.int .i64 f1, .int .i64 f2, .int .i64 f3]]) ∧ CardsAt w' w'.heap.size A cs ∧ TightAt w' A cs ∧ Below w1.heap.size w1 w') := hRD
  clear hRD hcs hf hcnt
  go_enter Tryd.func13, Tryd.ntmps13
  go_wp2_with fail
  refine (HRD.out _).mono ?_
  rintro e w1 ⟨A, rfl, hcards, -, hb1⟩
  have HC := hide hcards
  have hz1 := hb1.size
  rw [World.size_alloc] at hz1
  have hr0 := blk_kept hb1 (blk_new w #[.int .i64 0, .int .i64 0, .int .i64 0] 40)
  have HR := hide hr0
  have HB := hide hb1
  clear hcards hb1 hr0
  go_wp2_with fail
  obtain ⟨W, hW⟩ : ∃ W, W = w1.alloc (.cells #[.int .i64 f1, .int .i64 f2, .int .i64 f3] 40) := ⟨_, rfl⟩
  have hWs : W.heap.size = w1.heap.size + 1 := by rw [hW]; simp
  have HBW : Hid (Below w.heap.size w W) := by rw [hW]; exact (((Below.refl _ w).alloc (Nat.le_refl _) (.cells #[.int .i64 0, .int .i64 0, .int .i64 0] 40)).trans (HB.out.mono (by simp))).alloc (by omega) _
  have HRW : Hid (Blk W w.heap.size #[.int .i64 0, .int .i64 0, .int .i64 0] 40) := by rw [hW]; exact HR.out.alloc _
  have HFW : Hid (Blk W w1.heap.size #[.int .i64 f1, .int .i64 f2, .int .i64 f3] 40) := by rw [hW]; exact blk_new w1 _ _
  have HCW : Hid (∀ j (h : j < cs.length), ∃ b off, A = some ⟨b, off, none⟩ ∧ b < W.heap.size ∧ W.cell? ⟨b, off + j * 3, none⟩ = some (.bool (cs[j]).left) ∧ W.cell? ⟨b, off + j * 3 + 1, none⟩ = some (.string (mk (cs[j]).text))) := fun j hj => by
    obtain ⟨b, off, hA, hlt, h1, h2, _⟩ := HC.out.at_ j hj
    refine ⟨b, off, hA, by omega, ?_, ?_⟩
    · rw [hW]; exact (World.cell?_of_block (heap_alloc_old w1 _ hlt)).trans h1
    · rw [hW]; exact (World.cell?_of_block (heap_alloc_old w1 _ hlt)).trans h2
  rw [← hW]
  clear hW HB HR HC
  go_loopw [6, 7] (fun v6 v7 wr => ∃ (A' : Option Addr) (i c : Nat), v6 = .slice A' i c ∧ v7 = .int .i64 (i : Int) ∧ i ≤ cs.length ∧ wr.ownsRow W.heap.size 9 1 (.slice A' i c) i (((cs.map cardText).take i).map encS) ∧ Below W.heap.size W wr) (fun _ v7 _ => cs.length - (intOf v7).toNat)
  case atStart => exact ⟨none, 0, 0, rfl, rfl, Nat.zero_le _, World.ownsRow_nil _ _ _ _, Below.refl _ _⟩
  case round =>
    obtain ⟨A', i, c, rfl, rfl, hi, hown, hb⟩ := hrel
    have hsz := hb.size
    by_cases hlt : i < cs.length
    · obtain ⟨b, off, rfl, hbl, h1, h2⟩ := HCW.out i hlt
      have k0 : wr.cell? ⟨b, off + i * 3, none⟩ = some (.bool (cs[i]).left) := (World.cell?_of_block (hb.block b hbl)).trans h1
      have k1 : wr.cell? ⟨b, off + i * 3 + 1, none⟩ = some (.string (mk (cs[i]).text)) := (World.cell?_of_block (hb.block b hbl)).trans h2
      have hmap : (cs.map cardText).take (i + 1) = (cs.map cardText).take i ++ [cardText cs[i]] := by
        rw [List.take_succ_eq_append_getElem (by rw [List.length_map]; exact hlt), List.getElem_map]
      obtain ⟨g, c', w2, hrun, hown', hb'⟩ := append_str W.heap.size W wr A' _ (mk (cardText cs[i])) i c hown hb hsz (by omega)
      have HO : Hid (w2.ownsRow W.heap.size 9 1 (.slice (some ⟨g, 0, none⟩) (i + 1) c') (i + 1) (((cs.map cardText).take (i + 1)).map encS)) := by
        unfold Hid; rw [hmap, List.map_append]; exact hown'
      have HB2 := hide hb'
      have hsl : ¬ 9223372036854775807 < (mk (cs[i]).text).size + 1 := by
        have := hts _ (List.getElem_mem hlt)
        have e : (mk (cs[i]).text).size = (cs[i]).text.length := by simp [mk, ByteArray.size]
        omega
      clear hown hb hown' hb' h1 h2 hmap
      cases hleft : (cs[i]).left
      · rw [hleft] at k0
        have hct : cardText cs[i] = (cs[i]).text := by unfold cardText; rw [hleft]; rfl
        rw [hct] at hrun
        clear hct hleft
        go_wp2_with (at_builtin; refine wpList_append_run rfl (.tmp 32) (.tmp 34) 30 rfl _ _ rfl rfl _ _ 30 rfl hrun ?_)
        go_roundw
        case rel => exact ⟨_, i + 1, c', rfl, by go_num, hlt, HO.out, HB2.out⟩
        case measure => simp [intOf]; omega
      · rw [hleft] at k0
        have hct : mk (cardText cs[i]) = (mk (cs[i]).text) ++ ⟨#[60]⟩ := by unfold cardText; rw [hleft]; rfl
        rw [hct] at hrun
        clear hct hleft
        go_wp2_with (at_builtin; refine wpList_append_run rfl (.tmp 32) (.tmp 34) 30 rfl _ _ rfl rfl _ _ 30 rfl hrun ?_)
        go_roundw
        case rel => exact ⟨_, i + 1, c', rfl, by go_num, hlt, HO.out, HB2.out⟩
        case measure => simp [intOf]; omega
    · obtain rfl : i = cs.length := by omega
      have hF : Blk wr w1.heap.size #[.int .i64 f1, .int .i64 f2, .int .i64 f3] 40 := HFW.out.mods (Mods.of_below hb) id
      have hR : Blk wr w.heap.size #[.int .i64 0, .int .i64 0, .int .i64 0] 40 := HRW.out.mods (Mods.of_below hb) id
      have k0 := hF.cell 0
      have k1 := hF.cell 1
      have k2 := hF.cell 2
      have r0 := hR.cell 0
      have r1 := hR.cell 1
      have r2 := hR.cell 2
      have q0 := hR.free 0
      have q1 := hR.free 1
      have q2 := hR.free 2
      rw [List.take_of_length_le (by rw [List.length_map]; exact Nat.le_refl _)] at hown
      have HBr := hide (HBW.out.trans (hb.mono HBW.out.size))
      have HF := hide hF
      have HR := hide hR
      by_cases h0 : cs.length = 0
      · obtain rfl : cs = [] := List.eq_nil_of_length_eq_zero h0
        clear hown hb hF hR hsh
        go_wp2_with fail
        go_region_with (go_at_call 29; refine (Tryd.strings_Join_none A' c _ _).mono ?_; rintro e w3 ⟨rfl, rfl⟩)
        all_goals go_wp2_with fail
        all_goals refine bodyPost_ret (v := .tuple #[.string ⟨#[]⟩, .agg #[.int .i64 f1, .int .i64 f2, .int .i64 f3]]) (by simp [results, Tryd.results13, go_sem, r0, r1, r2]) rfl ?_
        all_goals exact ⟨rfl, below_drew (below_set3 HBr.out (Nat.le_refl _) _ _ _)⟩
      · have hJ : Hid (∀ W' : World, W'.heap = wr.heap → Calls Tryd.prog 29 #[.slice A' cs.length c, .string ⟨#[124]⟩] W' fun e w' => e = .returned (.string (mk (shown cs))) ∧ Below W'.heap.size W' w') := by
          intro W' he
          obtain ⟨g, rfl⟩ : ∃ g, A' = some ⟨g, 0, none⟩ := by
            rcases hown.2 with ⟨hv, _⟩ | ⟨g, cap, cur, hv, _⟩
            · injection hv with _ h _; exact absurd h h0
            · injection hv with h _ _; exact ⟨g, h⟩
          have hlen : (cs.map fun c => mk (cardText c)).length = cs.length := List.length_map _
          have hJ := Tryd.strings_Join g 0 c (cs.map fun c => mk (cardText c)) ⟨#[124]⟩ W' (fun j x hx => by
            have hu : ((cs.map cardText).map encS)[j]? = some (.string x) := by
              rw [List.map_map, List.getElem?_map]
              rw [List.getElem?_map] at hx
              cases hc : cs[j]? with
              | none => rw [hc] at hx; cases hx
              | some d => rw [hc] at hx; injection hx with hx; subst hx; rfl
            have hjl : j < cs.length * 1 := by
              have := (List.getElem?_eq_some_iff.1 hu).1
              simpa using this
            rw [Nat.zero_add]
            have e : W'.cell? ⟨g, j, none⟩ = wr.cell? ⟨g, j, none⟩ := World.cell?_of_block (by rw [he])
            rw [e]
            exact (hown.cellAt j hjl).trans hu) (by have := (hown.lt g rfl).2; rw [he]; exact this) (by rw [hlen]; omega) (by rw [hlen]; exact (own_cap hown).2) (by rw [List.map_map]; exact hsh)
          rw [hlen] at hJ
          refine hJ.mono fun _ _ h => ⟨?_, h.2⟩
          rw [h.1, List.map_map]; rfl
        clear hown hb hF hR hsh
        go_wp2_with fail
        go_region_with (go_at_call 29; refine (hJ.out wr.drew rfl).mono ?_; rintro e w3 ⟨rfl, hb3⟩; have hF3 := blk_kept hb3 (Blk.drew HF.out); have hR3 := blk_kept hb3 (Blk.drew HR.out); have k0 := hF3.cell 0; have k1 := hF3.cell 1; have k2 := hF3.cell 2; have r0 := hR3.cell 0; have r1 := hR3.cell 1; have r2 := hR3.cell 2; have q0 := hR3.free 0; have q1 := hR3.free 1; have q2 := hR3.free 2; have HB3 := hide ((below_drew HBr.out).trans (hb3.mono (below_drew HBr.out).size)))
        all_goals go_wp2_with fail
        all_goals refine bodyPost_ret (v := .tuple #[.string (mk (shown cs)), .agg #[.int .i64 f1, .int .i64 f2, .int .i64 f3]]) (by simp [results, Tryd.results13, go_sem, r0, r1, r2]) rfl ?_
        all_goals exact ⟨rfl, (below_set3 HB3.out (Nat.le_refl _) _ _ _)⟩
end Go.Proofs.YteceealibfemjaaDoor
