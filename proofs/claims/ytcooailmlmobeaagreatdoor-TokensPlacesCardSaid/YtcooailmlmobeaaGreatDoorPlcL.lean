/-
  THE LAW TokensPlaces, walked (layer 3, tokens).
-/
import Derived.Test.YtcooailmlmobeaaGreatDoorPlcP
import Derived.Test.YtcooailmlmobeaaGreatDoorTkE
import Derived.Test.YtcooailmlmobeaaGreatDoorSplC
namespace Go.Proofs.YtcooailmlmobeaaGreatDoor
open Go.RowKit Go.Shelf

set_option maxRecDepth 100000 in
theorem PlacesLaw_far (s : ByteArray) (w : World) (hs : s.size ≤ maxLen) (h : 2000 < s.size) (hm : MaxI w) :
    Calls Tryz.prog 7 #[.string s] w fun e w' => e = .returned (.bool true) ∧ Below w.heap.size w w' := by
  unfold maxLen at hs
  have HL := hide (livesT_c w hm)
  clear hm
  go_enter Tryz.func7, Tryz.ntmps7
  go_wp2_with fail
  refine HL.out.mono ?_
  rintro e w1 ⟨rfl, hb⟩
  go_wp2_with fail
  go_ret
  exact ⟨rfl, hb⟩

theorem splitNL_le (l x : List UInt8) (h : x ∈ splitNL l) : x.length ≤ l.length := by
  induction l generalizing x with
  | nil => simp [splitNL] at h; simp [h]
  | cons c r ih =>
    by_cases hc : c = 10
    · subst hc
      rw [splitNL_nl] at h
      rcases List.mem_cons.1 h with rfl | h
      · simp
      · have := ih x h; simp; omega
    · rw [splitNL_cons c r hc] at h
      rcases List.mem_cons.1 h with rfl | h
      · have hne := splitNL_ne r
        have : (splitNL r).headD [] ∈ splitNL r := by
          cases hs : splitNL r with
          | nil => exact absurd hs hne
          | cons a t => simp
        have := ih _ this
        rw [List.length_cons, List.length_cons]; omega
      · have := ih x (List.mem_of_mem_tail h); simp; omega
/-- the position before token k -/
def prevP (ts : List TokL) (k : Nat) : Int × Int := if k = 0 then (0, 0) else ((ts.getD (k - 1) ⟨0, [], 0, 0, false⟩).line, (ts.getD (k - 1) ⟨0, [], 0, 0, false⟩).col)
theorem prevP_next (ts : List TokL) (k : Nat) (h : k < ts.length) : prevP ts (k + 1) = (ts[k].line, ts[k].col) := by
  unfold prevP
  rw [if_neg (by omega), Nat.add_sub_cancel, List.getD_eq_getElem?_getD, List.getElem?_eq_getElem h]; rfl
theorem prevP_lt {ls : List (List UInt8)} {ts : List TokL} (h1 : ∀ t ∈ ts, TokOk ls t) (h2 : ∀ j (hj : j + 1 < ts.length), ltP (ts[j].line, ts[j].col) (ts[j + 1].line, ts[j + 1].col)) (k : Nat) (hk : k < ts.length) : ltP (prevP ts k) (ts[k].line, ts[k].col) := by
  cases k with
  | zero => have := (h1 ts[0] (List.getElem_mem hk)).l1; exact .inl (by show (0 : Int) < _; omega)
  | succ k => rw [prevP_next ts k (by omega)]; exact h2 k hk

set_option maxHeartbeats 4000000 in
set_option maxRecDepth 100000 in
theorem PlacesLaw_near (s : ByteArray) (w : World) (hs : s.size ≤ 2000) (hm : MaxI w) :
    Calls Tryz.prog 7 #[.string s] w fun e w' => e = .returned (.bool true) ∧ Below w.heap.size w w' := by
  have HSO := hide (Source_c s false w (by omega) hm)
  have HL : Hid (∀ w1, Below w.heap.size w w1 → Calls Tryz.prog 15 #[] w1 fun e w' => e = .returned (.bool true) ∧ Below w1.heap.size w1 w') := fun w1 hb => livesT_c w1 (hm.below hb)
  have HSP : Hid (∀ w1, Below w.heap.size w w1 → Calls Tryz.prog 24 #[.string s, .string ⟨#[10]⟩] w1 fun e w' => ∃ xs : List ByteArray, xs.map (·.data.toList) = splitNL s.data.toList ∧ e = .returned (.slice (some ⟨w1.heap.size, 0, none⟩) xs.length xs.length) ∧ LinesAt w' w1.heap.size xs ∧ Below w1.heap.size w1 w') := fun w1 hb => Split_nl s w1 (by omega) (hm.below hb)
  clear hm
  cases hr : sourceT false s.data.toList with
  | error f =>
    obtain ⟨f1, f2, f3⟩ := f
    have hf : (f1 == 0) = false := by
      have : f1 ≠ 0 := by
        unfold sourceT at hr
        split at hr
        · rename_i g hg; injection hr with hr; have := srcT_err hg; rw [hr] at this; exact this
        · rename_i cs hg
          have : ∀ (cs : List CardL) (ts : List TokL), scanT cs ts = .error (f1, f2, f3) → f1 ≠ 0 := fun cs => by
            induction cs with
            | nil => intro ts h; cases h
            | cons c r ih =>
              intro ts h
              rw [scanT] at h
              split at h
              · rename_i g hg; injection h with h; have := cardT_err hg; rw [h] at this; exact this
              · exact ih _ h
          exact this cs [] hr
      simpa using this
    have HSO2 : Hid (Calls Tryz.prog 16 #[.string s, .bool false] w fun e w' => e = .returned (.tuple #[.slice none 0 0, .agg #[.int .i64 f1, .int .i64 f2, .int .i64 f3]]) ∧ Below w.heap.size w w') := by rw [hr] at HSO; exact HSO.out
    clear HSO hr
    go_enter Tryz.func7, Tryz.ntmps7
    go_wp2_with fail
    refine HSO2.out.mono ?_
    rintro e w1 ⟨rfl, hb1⟩
    have HB1 := hide (hb1.alloc hb1.size (.cells #[.int .i64 f1, .int .i64 f2, .int .i64 f3] 28))
    clear hb1
    go_wp2_with fail
    refine (HL.out _ HB1.out).mono ?_
    rintro e w2 ⟨rfl, hb2⟩
    have HB2 := hide (HB1.out.trans (hb2.mono HB1.out.size))
    clear hb2
    go_wp2_with fail
    go_ret
    exact ⟨rfl, HB2.out⟩
  | ok ts =>
    obtain ⟨hok, hasc⟩ := places_ok false s.data.toList ts hr
    have HOK := hide hok
    have HLT : Hid (∀ k (hk : k < ts.length), ltP (prevP ts k) (ts[k].line, ts[k].col)) := prevP_lt hok hasc
    rw [hr] at HSO
    have HSO2 : Hid (Calls Tryz.prog 16 #[.string s, .bool false] w fun e w' => ts.length ≤ 65536 ∧ (∃ A, e = .returned (.tuple #[.slice A ts.length ts.length, .agg #[.int .i64 0, .int .i64 0, .int .i64 0]]) ∧ TokAt w' w'.heap.size A ts ∧ ∀ a, A = some a → w.heap.size < a.block) ∧ Below w.heap.size w w') := HSO.out
    clear HSO hr hok hasc
    go_enter Tryz.func7, Tryz.ntmps7
    go_wp2_with fail
    refine HSO2.out.mono ?_
    rintro e w1 ⟨hfew, ⟨A, rfl, htk, -⟩, hb1⟩
    have HB1 := hide (hb1.alloc hb1.size (.cells #[.int .i64 0, .int .i64 0, .int .i64 0] 28))
    have HTK := hide htk
    clear hb1 htk
    go_wp2_with fail
    refine (HSP.out _ HB1.out).mono ?_
    rintro e w2 ⟨xs, hxs, rfl, hli, hb2⟩
    have HTK2 : Hid (TokAt w2 w2.heap.size A ts) := (HTK.out.below (below1 w1 _) _ (by simp)).below hb2 _ hb2.size
    have HB2 := hide (HB1.out.trans (hb2.mono HB1.out.size))
    have HLI := hide hli
    have HXS := hide hxs
    have hxl : xs.length = (splitNL s.data.toList).length := by rw [← hxs, List.length_map]
    have hxb : xs.length ≤ 2001 := by have := splitNL_len s.data.toList; rw [len_data] at this; omega
    have hlb : (w1.alloc (.cells #[.int .i64 0, .int .i64 0, .int .i64 0] 28)).heap.size < w2.heap.size := lt_of_block hli.blk
    obtain ⟨lb, hlbd⟩ : ∃ lb, lb = (w1.alloc (.cells #[.int .i64 0, .int .i64 0, .int .i64 0] 28)).heap.size := ⟨_, rfl⟩
    rw [← hlbd] at HLI hlb ⊢
    have HXL := hide hxl
    clear hli hxs hb2 hlbd HTK hxl
    obtain ⟨W6, hW6⟩ : ∃ W6, W6 = w2.alloc (.cells #[.int .i64 0, .int .i64 0] 26) := ⟨_, rfl⟩
    have HB6 : Hid (Below w.heap.size w W6) := by rw [hW6]; exact HB2.out.alloc HB2.out.size _
    have HP6 : Hid (Blk W6 w2.heap.size #[.int .i64 (prevP ts 0).1, .int .i64 (prevP ts 0).2] 26) := by rw [hW6]; exact blk_new w2 _ _
    have HBB : Hid (Below w2.heap.size w2 W6) := by rw [hW6]; exact below1 w2 _
    go_upto_region 9 with fail
    rw [← hW6]
    clear hW6
    go_loopw [7] (fun v wr => ∃ k : Nat, k ≤ ts.length ∧ v = .int .i64 (k : Int) ∧ Blk wr w2.heap.size #[.int .i64 (prevP ts k).1, .int .i64 (prevP ts k).2] 26 ∧ Below w2.heap.size w2 wr) (fun v _ => ts.length - (intOf v).toNat)
    case atStart => exact ⟨0, Nat.zero_le _, rfl, HP6.out, HBB.out⟩
    case round =>
      obtain ⟨k, hk, rfl, hpb, hbel⟩ := hrel
      by_cases hlt : k < ts.length
      · obtain ⟨tb, rfl, htb, q0, q1, q2, q3, q4⟩ := HTK2.out.at_ k hlt
        have hT := HOK.out ts[k] (List.getElem_mem hlt)
        have hL := HLT.out k hlt
        have k0 : wr.cell? ⟨tb, k * 5, none⟩ = some (.int .u8 ts[k].kind) := (World.cell?_of_block (hbel.block tb htb)).trans q0
        have k1 : wr.cell? ⟨tb, k * 5 + 1, none⟩ = some (.string (mk ts[k].text)) := (World.cell?_of_block (hbel.block tb htb)).trans q1
        have k2 : wr.cell? ⟨tb, k * 5 + 2, none⟩ = some (.int .i64 ts[k].line) := (World.cell?_of_block (hbel.block tb htb)).trans q2
        have k3 : wr.cell? ⟨tb, k * 5 + 3, none⟩ = some (.int .i64 ts[k].col) := (World.cell?_of_block (hbel.block tb htb)).trans q3
        have k4 : wr.cell? ⟨tb, k * 5 + 4, none⟩ = some (.bool ts[k].left) := (World.cell?_of_block (hbel.block tb htb)).trans q4
        obtain ⟨ln, hln⟩ : ∃ ln : Nat, ts[k].line = (ln : Int) + 1 := ⟨(ts[k].line - 1).toNat, by have := hT.l1; omega⟩
        obtain ⟨cc, hcc⟩ : ∃ cc : Nat, ts[k].col = (cc : Int) + 1 := ⟨(ts[k].col - 1).toNat, by have := hT.c1; omega⟩
        have hlnx : ln < xs.length := by have := hT.l2; rw [HXL.out]; omega
        have hxe : (splitNL s.data.toList).getD ln [] = xs[ln].data.toList := by
          rw [← HXS.out, List.getD_eq_getElem?_getD, List.getElem?_map, List.getElem?_eq_getElem hlnx]; rfl
        have hc2 := hT.c2
        have hq := hT.q
        have hff := hT.f
        rw [show (ts[k].line - 1).toNat = ln by omega, hxe] at hc2 hq hff
        rw [show (ts[k].col - 1).toNat = cc by omega] at hq hff
        rw [len_data] at hc2
        obtain ⟨Y, hY⟩ : ∃ Y, Y = xs[ln] := ⟨_, rfl⟩
        rw [← hY] at hc2 hq hff
        have hccs : cc < Y.size := by omega
        have hYs : Y.size ≤ 2000 := by
          have := splitNL_le s.data.toList Y.data.toList (by rw [← HXS.out, hY]; exact List.mem_map.2 ⟨_, List.getElem_mem hlnx, rfl⟩)
          rw [len_data, len_data] at this; omega
        have hYb : Y.data.toList.getD cc 32 = Y[cc] := by rw [List.getD_eq_getElem?_getD, List.getElem?_eq_getElem (by rw [len_data]; exact hccs)]; rfl
        rw [hYb] at hq hff
        have hli2 := HLI.out.cell ln hlnx
        have kl : wr.cell? ⟨lb, ln, none⟩ = some (.string Y) := by rw [hY]; exact (World.cell?_of_block (hbel.block lb hlb)).trans hli2
        rw [hln] at k2
        rw [hcc] at k3
        have hleft := hT.left
        rw [hcc] at hleft
        obtain ⟨X, hX⟩ : ∃ X, X = mk ts[k].text := ⟨_, rfl⟩
        have hX0 : 0 < X.size := by rw [hX, mk_size]; exact List.length_pos_iff.2 hT.ne
        have hXf : ts[k].text.getD 0 0 = X[0] := by
          have := getD_at X 0 hX0
          rw [← this, hX, mk_data]
        rw [hXf] at hff
        rw [← hX] at k1
        obtain ⟨B1, hB1⟩ : ∃ B1, B1 = (prevP ts k).1 := ⟨_, rfl⟩
        obtain ⟨B2, hB2⟩ : ∃ B2, B2 = (prevP ts k).2 := ⟨_, rfl⟩
        have hLL : B1 < (ln : Int) + 1 ∨ (B1 = (ln : Int) + 1 ∧ B2 < (cc : Int) + 1) := by rw [hB1, hB2, ← hln, ← hcc]; exact hL
        rw [← hB1, ← hB2] at hpb
        have hc7 : 7 ≤ cc := by have := hT.c1; omega
        obtain ⟨K, hK⟩ : ∃ K, K = ts[k].kind := ⟨_, rfl⟩
        rw [← hK] at k0 hq hff
        have hXd : X.data.toList ≠ [] := fun e => by rw [← len_data, e] at hX0; simp at hX0
        have hX1 : ¬ X.toList = [] := by rw [ByteArray.toList_eq]; exact hXd
        have hX2 : X.toList.isEmpty = false := by rw [ByteArray.toList_eq]; simpa using hXd
        clear hXd
        obtain ⟨LF, hLF⟩ : ∃ LF, LF = ts[k].left := ⟨_, rfl⟩
        rw [← hLF] at k4 hleft
        have HQ := hide hq
        have HFF := hide hff
        have HLF := hide hleft
        have HPN : Hid (prevP ts (k + 1) = ((ln : Int) + 1, (cc : Int) + 1)) := by unfold Hid; rw [prevP_next ts k hlt, hln, hcc]
        have HBL := hide hbel
        have HPB := hide hpb
        have hwb : w2.heap.size < wr.heap.size := hpb.lt
        have HKL : Hid (∀ W, Below w2.heap.size w2 W → W.cell? ⟨lb, ln, none⟩ = some (.string Y)) := fun W hW => by rw [hY]; exact (World.cell?_of_block (hW.block lb hlb)).trans hli2
        have HK0 : Hid (∀ W, Below w2.heap.size w2 W → W.cell? ⟨tb, k * 5, none⟩ = some (.int .u8 K)) := fun W hW => by rw [hK]; exact (World.cell?_of_block (hW.block tb htb)).trans q0
        have HK1 : Hid (∀ W, Below w2.heap.size w2 W → W.cell? ⟨tb, k * 5 + 1, none⟩ = some (.string X)) := fun W hW => by rw [hX]; exact (World.cell?_of_block (hW.block tb htb)).trans q1
        clear q0 q1 q2 q3 q4 hT hL hln hcc hxe hc2 hq hff hY hYb hli2 hleft hX hXf hB1 hB2 hpb hbel hK hLF
        obtain ⟨W7, hW7⟩ : ∃ W7, W7 = wr.alloc (.cells #[.int .i64 ((ln : Int) + 1), .int .i64 ((cc : Int) + 1)] 26) := ⟨_, rfl⟩
        have HP7 : Hid (Blk W7 wr.heap.size #[.int .i64 ((ln : Int) + 1), .int .i64 ((cc : Int) + 1)] 26) := by rw [hW7]; exact blk_new wr _ _
        have HBW7 : Hid (Below wr.heap.size wr W7) := by rw [hW7]; exact below1 wr _
        have HBL7 : Hid (Below w2.heap.size w2 W7) := HBL.out.trans (HBW7.out.mono HBL.out.size)
        have HK4' : Hid (W7.cell? ⟨tb, k * 5 + 4, none⟩ = some (.bool LF)) := (World.cell?_of_block (HBW7.out.block tb (by have := HBL.out.size; omega))).trans k4
        go_upto_region 12 with fail
        rw [← hW7]
        clear hW7 k0 k1 k2 k3 k4 kl
        have HPB7 := hide (blk_kept HBW7.out HPB.out)
        have b0 : W7.cell? ⟨w2.heap.size, 0, none⟩ = some (.int .i64 B1) := HPB7.out.cell 0
        have b1 : W7.cell? ⟨w2.heap.size, 1, none⟩ = some (.int .i64 B2) := HPB7.out.cell 1
        have j0 : W7.cell? ⟨wr.heap.size, 0, none⟩ = some (.int .i64 ((ln : Int) + 1)) := HP7.out.cell 0
        have j1 : W7.cell? ⟨wr.heap.size, 1, none⟩ = some (.int .i64 ((cc : Int) + 1)) := HP7.out.cell 1
        have kl7 : W7.cell? ⟨lb, ln, none⟩ = some (.string Y) := HKL.out W7 HBL7.out
        have k07 : W7.cell? ⟨tb, k * 5, none⟩ = some (.int .u8 K) := HK0.out W7 HBL7.out
        have k17 : W7.cell? ⟨tb, k * 5 + 1, none⟩ = some (.string X) := HK1.out W7 HBL7.out
        have k47 : W7.cell? ⟨tb, k * 5 + 4, none⟩ = some (.bool LF) := HK4'.out
        have hw7 := HP7.out.lt
        have hlb7 : lb < W7.heap.size := by have := HBL7.out.size; omega
        have htb7 : tb < W7.heap.size := by have := HBL7.out.size; omega
        have hw1 : IntKind.i64.wrap (ln : Int) = (ln : Int) := IntWalk.i64_in _ (by omega)
        have d1 : decide ((ln : Int) + 1 < 1) = false := decide_eq_false (by omega)
        have d2 : decide ((xs.length : Int) < (ln : Int) + 1) = false := decide_eq_false (by omega)
        have d3 : decide ((cc : Int) + 1 < 8) = false := decide_eq_false (by omega)
        have d4 : decide ((Y.size : Int) < (cc : Int) + 1) = false := decide_eq_false (by omega)
        have d9 : (X.toList == []) = false := by simpa using hX1
        go_cut [103] (fun s103 wx => s103 = .bool false ∧ Below W7.heap.size W7 wx)
        case first =>
          have d8 : decide ((cc : Int) + 1 ≤ 11) = LF := HLF.out.symm
          clear HLF HQ HFF HL HSP HSO2 HOK HLT HTK2 HXS HLI HXL HB2 HB6 HP6 HBB HPN HBL HPB HP7 HBW7 HBL7 HK4' HPB7 HKL HK0 HK1
          rcases hLL with hLL | ⟨hLL, hLC⟩
          · have hbe : ((ln : Int) + 1 == B1) = false := by
              have : (ln : Int) + 1 ≠ B1 := by omega
              simpa using this
            have d5 : decide ((ln : Int) + 1 < B1) = false := decide_eq_false (by omega)
            go_wp2_with fail
            go_quiet (fail)
            go_wp2_with fail
            go_meet
            exact ⟨rfl, below_drewN (Below.refl _ _) _⟩
          · subst hLL
            have d5 : decide ((ln : Int) + 1 < (ln : Int) + 1) = false := decide_eq_false (by omega)
            have d7 : decide ((cc : Int) + 1 ≤ B2) = false := decide_eq_false (by omega)
            go_wp2_with fail
            go_quiet (fail)
            go_wp2_with fail
            go_meet
            exact ⟨rfl, below_drewN (Below.refl _ _) _⟩
        case rest =>
          obtain ⟨rfl, hbc⟩ := hcut
          have HPc := hide (blk_kept hbc HP7.out)
          have HPBc := hide (blk_kept hbc HPB7.out)
          have HBLc : Hid (Below w2.heap.size w2 wc) := HBL7.out.trans (hbc.mono HBL7.out.size)
          have hwc : wr.heap.size < wc.heap.size := HPc.out.lt
          clear d1 d2 d3 d4 d9 hLL hX1 hX2 kl7 k07 k17 k47 b0 b1 j0 j1 hlb7 htb7 hw7 hbc
          obtain ⟨Wc, rfl⟩ : ∃ W, W = wc := ⟨_, rfl⟩
          have b0 : Wc.cell? ⟨w2.heap.size, 0, none⟩ = some (.int .i64 B1) := HPBc.out.cell 0
          have b1 : Wc.cell? ⟨w2.heap.size, 1, none⟩ = some (.int .i64 B2) := HPBc.out.cell 1
          have j0 : Wc.cell? ⟨wr.heap.size, 0, none⟩ = some (.int .i64 ((ln : Int) + 1)) := HPc.out.cell 0
          have j1 : Wc.cell? ⟨wr.heap.size, 1, none⟩ = some (.int .i64 ((cc : Int) + 1)) := HPc.out.cell 1
          have c0 := HPBc.out.free 0
          have c1 := HPBc.out.free 1
          go_upto_region 15 with fail
          obtain ⟨W8, hW8⟩ : ∃ W8, W8 = (Wc.setCell ⟨w2.heap.size, 0, none⟩ (.int .i64 ((ln : Int) + 1))).setCell ⟨w2.heap.size, 1, none⟩ (.int .i64 ((cc : Int) + 1)) := ⟨_, rfl⟩
          have hm8 : Mods (· = w2.heap.size) Wc W8 := by rw [hW8]; exact ((Mods.refl (· = w2.heap.size) Wc).set _ 0 _ (fun _ => rfl)).set _ 1 _ (fun _ => rfl)
          have HPB8 : Hid (Blk W8 w2.heap.size #[.int .i64 ((ln : Int) + 1), .int .i64 ((cc : Int) + 1)] 26) := by rw [hW8]; exact (HPBc.out.set 0 _).set 1 _
          have HP8 : Hid (Blk W8 wr.heap.size #[.int .i64 ((ln : Int) + 1), .int .i64 ((cc : Int) + 1)] 26) := HPc.out.mods hm8 (by omega)
          have HBL8 : Hid (Below w2.heap.size w2 W8) := by
            exact HBLc.out.trans (hm8.toBelow HBLc.out.size (fun i hi e => by omega))
          rw [← hW8]
          clear hW8 hm8 j0 j1 b0 b1 c0 c1
          have j0 : W8.cell? ⟨wr.heap.size, 0, none⟩ = some (.int .i64 ((ln : Int) + 1)) := HP8.out.cell 0
          have j1 : W8.cell? ⟨wr.heap.size, 1, none⟩ = some (.int .i64 ((cc : Int) + 1)) := HP8.out.cell 1
          have kl8 : W8.cell? ⟨lb, ln, none⟩ = some (.string Y) := HKL.out W8 HBL8.out
          have k08 : W8.cell? ⟨tb, k * 5, none⟩ = some (.int .u8 K) := HK0.out W8 HBL8.out
          have k18 : W8.cell? ⟨tb, k * 5 + 1, none⟩ = some (.string X) := HK1.out W8 HBL8.out
          have hw8 := HP8.out.lt
          have hlb8 : lb < W8.heap.size := by have := HBL8.out.size; omega
          have htb8 : tb < W8.heap.size := by have := HBL8.out.size; omega
          have hw2 : IntKind.i64.wrap (cc : Int) = (cc : Int) := IntWalk.i64_in _ (by omega)
          have hcb := Y[cc].toNat_lt
          obtain ⟨bn, hbn⟩ : ∃ bn, bn = Y[cc].toNat := ⟨_, rfl⟩
          obtain ⟨un, hun⟩ : ∃ un, un = (up Y[cc]).toNat := ⟨_, rfl⟩
          have HUN : Hid (un = if 97 ≤ bn ∧ bn ≤ 122 then bn - 32 else bn) := by
            unfold Hid; rw [hun, hbn]; unfold up
            split
            · rw [UInt8.toNat_ofNat']; omega
            · rfl
          have HQ2 : Hid (K = 3 → un = 34) := fun h => by rw [hun, HQ.out h]; rfl
          have HF2 : Hid (K ≠ 3 → X[0].toNat = un) := fun h => by rw [hun, HFF.out h]
          have HBN := hide hbn
          have hb256 : bn < 256 := by omega
          clear hun hbn hcb HQ HFF
          go_quiet (fail)
          have HPB9 : Hid (Blk (W8.drewN nq) w2.heap.size #[.int .i64 ((ln : Int) + 1), .int .i64 ((cc : Int) + 1)] 26) := HPB8.out
          have HBL9 : Hid (Below w2.heap.size w2 (W8.drewN nq)) := below_drewN HBL8.out nq
          go_upto_region 16 with fail
          rw [← HBN.out]
          obtain ⟨W9, hW9⟩ : ∃ W9, W9 = W8.drewN nq := ⟨_, rfl⟩
          rw [← hW9] at HPB9 HBL9 ⊢
          clear hW9 HPB8 HBL8 HP8 j0 j1 kl8 k08 k18 hw8 hlb8 htb8 hw1 hw2
          obtain ⟨T, hT⟩ : ∃ T, T = (decide (97 ≤ bn) && decide (bn ≤ 122)) := ⟨_, rfl⟩
          go_cut [120] (fun s120 wx => s120 = .bool T ∧ W9 = wx)
          case first =>
            by_cases h97 : 97 ≤ bn
            · by_cases h122 : bn ≤ 122
              · have HT : Hid (T = true) := by unfold Hid; rw [hT, decide_eq_true h97, decide_eq_true h122]; rfl
                clear hT
                go_wp2_with fail
                go_meet
                exact ⟨by rw [HT.out, decide_eq_true (by omega)], rfl⟩
              · have HT : Hid (T = false) := by unfold Hid; rw [hT, decide_eq_false h122, Bool.and_false]
                clear hT
                go_wp2_with fail
                go_meet
                exact ⟨by rw [HT.out, decide_eq_false (by omega)], rfl⟩
            · have HT : Hid (T = false) := by unfold Hid; rw [hT, decide_eq_false h97]; rfl
              clear hT
              go_wp2_with fail
              go_meet
              exact ⟨by rw [HT.out], rfl⟩
          case rest =>
            obtain ⟨rfl, rfl⟩ := hcut
            have HUT : Hid (un = if T then bn - 32 else bn) := by
              unfold Hid; rw [HUN.out, hT]; simp only [Bool.and_eq_true, decide_eq_true_eq]
            have hT97 : T = true → 97 ≤ bn := fun h => by rw [h] at hT; simp at hT; exact hT.1
            have HT97 := hide hT97
            clear hT hT97 HUN
            go_upto_if 120 with fail
            go_cut [9] (fun s9 wx => s9 = .int .u8 (un : Int) ∧ W9 = wx)
            case first =>
              cases T
              · have HU : Hid (un = bn) := HUT.out
                go_wp2_with fail
                go_meet
                exact ⟨by rw [HU.out], rfl⟩
              · have HU : Hid (un = bn - 32) := HUT.out
                have h97 := HT97.out rfl
                go_wp2_with fail
                go_meet
                exact ⟨by rw [HU.out]; congr 1; omega, rfl⟩
            case rest =>
              obtain ⟨rfl, rfl⟩ := hcut
              clear HUT HT97
              have k09 : W9.cell? ⟨tb, k * 5, none⟩ = some (.int .u8 K) := HK0.out W9 HBL9.out
              have k19 : W9.cell? ⟨tb, k * 5 + 1, none⟩ = some (.string X) := HK1.out W9 HBL9.out
              have htb9 : tb < W9.heap.size := by have := HBL9.out.size; omega
              by_cases hK3 : K = 3
              · have hu : ((un : Int) != 34) = false := by rw [HQ2.out hK3]; rfl
                subst hK3
                go_wp2_with fail
                go_roundw
                case rel => exact ⟨k + 1, hlt, by go_num, by rw [HPN.out]; exact HPB9.out, HBL9.out⟩
                case measure => simp [intOf]; omega
              · have hk1 : (K == 3) = false := by simpa using hK3
                have hk2 : (K != 3) = true := by simpa using hK3
                have hx : ((un : Int) != (X[0].toNat : Int)) = false := by rw [HF2.out hK3]; simp
                clear hK3
                go_wp2_with fail
                go_roundw
                case rel => exact ⟨k + 1, hlt, by go_num, by rw [HPN.out]; exact HPB9.out, HBL9.out⟩
                case measure => simp [intOf]; omega
      · obtain rfl : k = ts.length := by omega
        have HBL := hide (HB2.out.trans (hbel.mono HB2.out.size))
        clear hpb hbel
        go_wp2_with fail
        refine (HL.out _ HBL.out).mono ?_
        rintro e w9 ⟨rfl, hb9⟩
        have HB9 := hide (HBL.out.trans (hb9.mono HBL.out.size))
        clear hb9
        go_wp2_with fail
        go_ret
        exact ⟨rfl, HB9.out⟩
end Go.Proofs.YtcooailmlmobeaaGreatDoor
