/-
  CONTRACTS of written and Text (layer 3, tokens).
-/
import Derived.Test.YtghnffdjdjlomaaGreatDoorTkE
import Derived.Lib.JoinLaws
namespace Go.Proofs.YtghnffdjdjlomaaGreatDoor
open Go.RowKit Go.Shelf

/-- a token as it stands in a text -/
def wrtL (k : Int) (x : List UInt8) : List UInt8 := if k = 3 then 34 :: (Lib.replaceAll x [34] [34, 34] ++ [34]) else if k = 6 then [46] else if k = 7 then [61, 61] else x
/-- Text -/
def textL (ts : List TokL) : List UInt8 := Lib.join (ts.map fun t => wrtL t.kind t.text) [32]
theorem replaceK_len (k : Nat) (s : List UInt8) : (Lib.replaceK [34] [34, 34] k s).length ≤ s.length + 2 * k := by
  induction k generalizing s with
  | zero => simp [Lib.replaceK]
  | succ k ih =>
    unfold Lib.replaceK
    split
    · omega
    · have := ih (s.drop ((Lib.index s [34]).toNat + [(34 : UInt8)].length))
      rw [List.length_append, List.length_append, List.length_take]
      rw [List.length_drop] at this
      simp only [List.length_cons, List.length_nil] at this ⊢
      omega
theorem count_le34 (s : List UInt8) : Lib.count s [34] ≤ s.length := by
  have := countB_le (mk s) (mk [34]) (by decide)
  rw [mk_size] at this
  exact this
theorem wrt_len (k : Int) (x : List UInt8) : (wrtL k x).length ≤ 3 * x.length + 2 := by
  unfold wrtL
  split
  · have h : (Lib.replaceAll x [34] [34, 34]).length ≤ 3 * x.length := by
      unfold Lib.replaceAll Lib.replace
      rw [if_neg (by decide)]
      have h1 : Lib.replaceNum x [34] (-1) = Lib.count x [34] := by unfold Lib.replaceNum; rw [if_pos (.inl (by decide))]
      rw [h1]
      have := replaceK_len (Lib.count x [34]) x
      have := count_le34 x
      omega
    simp only [List.length_cons, List.length_append, List.length_nil]
    omega
  · split
    · simp
    · split
      · simp
      · omega
theorem join_len (xs : List (List UInt8)) (m : Nat) (h : ∀ x ∈ xs, x.length ≤ m) : (Lib.join xs [32]).length ≤ xs.length * (m + 1) := by
  cases xs with
  | nil => simp [Lib.join_nil]
  | cons x r =>
    rw [Lib.join_cons]
    have ht : ∀ r : List (List UInt8), (∀ x ∈ r, x.length ≤ m) → (Lib.joinTail [32] r).length ≤ r.length * (m + 1) := fun r => by
      induction r with
      | nil => intro _; simp [Lib.joinTail]
      | cons y r ih =>
        intro h
        have h1 := ih (fun x hx => h x (List.mem_cons_of_mem _ hx))
        have h2 := h y List.mem_cons_self
        unfold Lib.joinTail at h1 ⊢
        show _ ≤ (r.length + 1) * (m + 1)
        rw [List.map_cons, List.flatten_cons, List.length_append, List.length_append, Nat.succ_mul]
        simp only [List.length_cons, List.length_nil]
        omega
    have h1 := ht r (fun x hx => h x (List.mem_cons_of_mem _ hx))
    have h2 := h x List.mem_cons_self
    show _ ≤ (r.length + 1) * (m + 1)
    rw [List.length_append, Nat.succ_mul]
    omega

set_option maxHeartbeats 1000000 in
theorem written_c (k : Int) (x : ByteArray) (l c : Int) (left : Bool) (w : World) (hx : x.size ≤ 2000000) (hm : MaxI w) :
    Calls Tryz.prog 86 #[.agg #[.int .u8 k, .string x, .int .i64 l, .int .i64 c, .bool left]] w fun e w' => e = .returned (.string (mk (wrtL k x.data.toList))) ∧ Below w.heap.size w w' := by
  obtain ⟨R, hR⟩ : ∃ R, R = mk (wrtL k x.data.toList) := ⟨_, rfl⟩
  rw [← hR]
  have HW := hide (below1 w (.cells #[.int .u8 k, .string x, .int .i64 l, .int .i64 c, .bool left] 49))
  by_cases h3 : k = 3
  · obtain ⟨Y, hY⟩ : ∃ Y, Y = mk (Lib.replaceAll x.data.toList [34] [34, 34]) := ⟨_, rfl⟩
    have HRA : Hid (∀ w1, Below w.heap.size w w1 → Calls Tryz.prog 117 #[.string x, .string ⟨#[34]⟩, .string ⟨#[34, 34]⟩] w1 fun e w' => e = .returned (.string Y) ∧ Below w1.heap.size w1 w') := fun w1 hb => by
      obtain ⟨m, hm'⟩ := hm.below hb
      rw [hY]
      exact Tryz.strings_ReplaceAll x ⟨#[34]⟩ ⟨#[34, 34]⟩ m w1 (by omega) hm' (by decide) (by
        have := countB_le x ⟨#[34]⟩ (by decide)
        show x.size + _ * 2 ≤ _; omega)
    have hYs : Y.size ≤ 6000002 := by
      have := wrt_len k x.data.toList
      unfold wrtL at this
      rw [if_pos h3, len_data] at this
      rw [hY, mk_size]
      simp only [List.length_cons, List.length_append] at this
      omega
    have HRe : Hid (R = ⟨#[34]⟩ ++ Y ++ ⟨#[34]⟩) := by
      unfold Hid; rw [hR]; unfold wrtL; rw [if_pos h3]
      apply ByteArray.ext
      apply Array.toList_inj.1
      rw [mk_data, append_data, append_data, hY, mk_data]; rfl
    subst h3
    clear hR hY hm
    go_enter Tryz.func86, Tryz.ntmps86
    go_wp2_with fail
    refine (HRA.out _ HW.out).mono ?_
    rintro e w1 ⟨rfl, hb⟩
    have HB := hide (HW.out.trans (hb.mono HW.out.size))
    clear hb
    go_wp2_with fail
    go_ret
    exact ⟨by rw [HRe.out]; rfl, HB.out⟩
  · have hk3 : (k == 3) = false := by simpa using h3
    by_cases h6 : k = 6
    · have HRe : Hid (R = ⟨#[46]⟩) := by unfold Hid; rw [hR]; unfold wrtL; rw [if_neg h3, if_pos h6]; rfl
      subst h6
      clear hR hm h3
      go_enter Tryz.func86, Tryz.ntmps86
      go_wp2_with fail
      go_ret
      exact ⟨by rw [HRe.out]; rfl, HW.out⟩
    · have hk6 : (k == 6) = false := by simpa using h6
      by_cases h7 : k = 7
      · have HRe : Hid (R = ⟨#[61, 61]⟩) := by unfold Hid; rw [hR]; unfold wrtL; rw [if_neg h3, if_neg h6, if_pos h7]; rfl
        subst h7
        clear hR hm h3 h6
        go_enter Tryz.func86, Tryz.ntmps86
        go_wp2_with fail
        go_ret
        exact ⟨by rw [HRe.out]; rfl, HW.out⟩
      · have hk7 : (k == 7) = false := by simpa using h7
        have HRe : Hid (R = x) := by unfold Hid; rw [hR]; unfold wrtL; rw [if_neg h3, if_neg h6, if_neg h7]; rfl
        clear hR hm h3 h6 h7
        go_enter Tryz.func86, Tryz.ntmps86
        go_wp2_with fail
        go_ret
        exact ⟨by rw [HRe.out]; rfl, HW.out⟩
theorem strInfo : (Tryz.prog.info? 9).map (fun i => (i.zero, i.size, i.bytes)) = some (some (.string ⟨#[]⟩), 1, 16) := by kernel_rfl
/-- 'make([]string, m)' -/
theorem makeS (w : World) (m : Nat) (hm : m ≤ 2000000) : ∃ C : Array Value, C.size = m ∧ (∀ j, j < m → C[j]? = some (.string ⟨#[]⟩)) ∧ (Instr.makeSlice 68 (.int .i64 (m : Int)) (.int .i64 (m : Int))).run Tryz.prog w = .ok (.slice (some ⟨w.heap.size, 0, none⟩) m m) (w.alloc (.cells C 9)) := by
  obtain ⟨i0, hi, hz0, hz1, hz2⟩ := info_parts strInfo
  have h := run_make (P := Tryz.prog) w 68 9 i0 (.string ⟨#[]⟩) Tryz.underlying68 hi hz0 .i64 .i64 (m : Int) (m : Int) (by omega) (Int.le_refl _) (by rw [hz2]; omega) (by omega)
  rw [Int.toNat_natCast, hz1] at h
  refine ⟨_, ?_, ?_, h⟩
  · rw [size_madeCells, Nat.mul_one]
  · intro j hj
    unfold madeCells Value.cells
    rw [Nat.mul_one, Array.getElem?_map, Array.getElem?_range, if_pos hj]
    simp [Nat.mod_one]
/-- tokens in memory below a block, from some place on -/
def TokIn (w : World) (B : Nat) (A : Option Addr) (ts : List TokL) : Prop :=
  ts = [] ∨ ∃ b off, A = some ⟨b, off, none⟩ ∧ b < B ∧ ∀ j (h : j < ts.length), w.cell? ⟨b, off + j * 5, none⟩ = some (.int .u8 ts[j].kind) ∧ w.cell? ⟨b, off + j * 5 + 1, none⟩ = some (.string (mk ts[j].text)) ∧ w.cell? ⟨b, off + j * 5 + 2, none⟩ = some (.int .i64 ts[j].line) ∧ w.cell? ⟨b, off + j * 5 + 3, none⟩ = some (.int .i64 ts[j].col) ∧ w.cell? ⟨b, off + j * 5 + 4, none⟩ = some (.bool ts[j].left)
theorem TokIn.at_ {w : World} {B : Nat} {A : Option Addr} {ts : List TokL} (h : TokIn w B A ts) (j : Nat) (hj : j < ts.length) : ∃ b off, A = some ⟨b, off, none⟩ ∧ b < B ∧ w.cell? ⟨b, off + j * 5, none⟩ = some (.int .u8 ts[j].kind) ∧ w.cell? ⟨b, off + j * 5 + 1, none⟩ = some (.string (mk ts[j].text)) ∧ w.cell? ⟨b, off + j * 5 + 2, none⟩ = some (.int .i64 ts[j].line) ∧ w.cell? ⟨b, off + j * 5 + 3, none⟩ = some (.int .i64 ts[j].col) ∧ w.cell? ⟨b, off + j * 5 + 4, none⟩ = some (.bool ts[j].left) := by
  rcases h with rfl | ⟨b, off, rfl, hb, hc⟩
  · simp at hj
  · exact ⟨b, off, rfl, hb, hc j hj⟩
theorem TokAt.in_ {w : World} {B : Nat} {A : Option Addr} {ts : List TokL} (h : TokAt w B A ts) : TokIn w B A ts := by
  rcases h with h | ⟨b, hA, hb, hc⟩
  · exact .inl h
  · exact .inr ⟨b, 0, hA, hb, fun j hj => by simpa using hc j hj⟩
theorem TokIn.below {w w' : World} {B : Nat} {A : Option Addr} {ts : List TokL} (h : TokIn w B A ts) (hb : Below B w w') (B' : Nat) (hB : B ≤ B') : TokIn w' B' A ts := by
  rcases h with h | ⟨b, off, hA, hlt, hc⟩
  · exact .inl h
  · refine .inr ⟨b, off, hA, by omega, fun j hj => ?_⟩
    have hbl := hb.block b hlt
    obtain ⟨h1, h2, h3, h4, h5⟩ := hc j hj
    exact ⟨(World.cell?_of_block hbl).trans h1, (World.cell?_of_block hbl).trans h2, (World.cell?_of_block hbl).trans h3, (World.cell?_of_block hbl).trans h4, (World.cell?_of_block hbl).trans h5⟩

set_option maxHeartbeats 2000000 in
set_option maxRecDepth 100000 in
theorem Text_c (ts : List TokL) (A : Option Addr) (cap B : Nat) (w : World) (hts : TokIn w B A ts) (hB : B ≤ w.heap.size) (hn : ts.length ≤ 65536) (hx : ∀ t ∈ ts, t.text.length ≤ 2000000) (hm : MaxI w) :
    Calls Tryz.prog 46 #[.slice A ts.length cap] w fun e w' => e = .returned (.string (mk (textL ts))) ∧ Below w.heap.size w w' := by
  obtain ⟨R, hR⟩ : ∃ R, R = mk (textL ts) := ⟨_, rfl⟩
  obtain ⟨C, hCs, hC0, hmk⟩ := makeS w ts.length (by omega)
  obtain ⟨W0, hW0⟩ : ∃ W0, W0 = w.alloc (.cells C 9) := ⟨_, rfl⟩
  have hb0 : Below w.heap.size w W0 := by rw [hW0]; exact below1 w _
  have hc0 : Blk W0 w.heap.size C 9 := by rw [hW0]; exact blk_new w _ _
  rw [← hW0] at hmk
  have HM : Hid (∀ w1, Below w.heap.size w w1 → MaxI w1) := fun w1 hb => hm.below hb
  have HI : Hid (∃ C, C.size = ts.length ∧ Blk W0 w.heap.size C 9 ∧ (∀ j (h : j < ts.length), j < 0 → C[j]? = some (.string (mk (wrtL ts[j].kind ts[j].text))))) := ⟨C, hCs, hc0, fun j _ h => by omega⟩
  have HTS := hide hts
  have HX := hide hx
  have HB0 := hide hb0
  have HR := hide hR
  rw [← hR]
  clear hR hCs hC0 hc0 hm hts hx hb0 hW0
  go_enter Tryz.func46, Tryz.ntmps46
  go_wp2_with fail
  clear hmk
  go_loopw [11] (fun v wr => ∃ k : Nat, k ≤ ts.length ∧ v = .int .i64 (k : Int) ∧ (∃ C, C.size = ts.length ∧ Blk wr w.heap.size C 9 ∧ (∀ j (h : j < ts.length), j < k → C[j]? = some (.string (mk (wrtL ts[j].kind ts[j].text))))) ∧ Below w.heap.size w wr) (fun v _ => ts.length - (intOf v).toNat)
  case atStart => exact ⟨0, Nat.zero_le _, rfl, HI.out, HB0.out⟩
  case round =>
    obtain ⟨k, hk, rfl, ⟨C, hCs, hcb, hC⟩, hb⟩ := hrel
    clear HI
    by_cases hlt : k < ts.length
    · obtain ⟨b, off, rfl, hbl, q0, q1, q2, q3, q4⟩ := HTS.out.at_ k hlt
      have hbw : b < w.heap.size := by omega
      have k0 : wr.cell? ⟨b, off + k * 5, none⟩ = some (.int .u8 ts[k].kind) := (World.cell?_of_block (hb.block b hbw)).trans q0
      have k1 : wr.cell? ⟨b, off + k * 5 + 1, none⟩ = some (.string (mk ts[k].text)) := (World.cell?_of_block (hb.block b hbw)).trans q1
      have k2 : wr.cell? ⟨b, off + k * 5 + 2, none⟩ = some (.int .i64 ts[k].line) := (World.cell?_of_block (hb.block b hbw)).trans q2
      have k3 : wr.cell? ⟨b, off + k * 5 + 3, none⟩ = some (.int .i64 ts[k].col) := (World.cell?_of_block (hb.block b hbw)).trans q3
      have k4 : wr.cell? ⟨b, off + k * 5 + 4, none⟩ = some (.bool ts[k].left) := (World.cell?_of_block (hb.block b hbw)).trans q4
      have hxk := HX.out ts[k] (List.getElem_mem hlt)
      obtain ⟨t, ht⟩ : ∃ t, t = ts[k] := ⟨_, rfl⟩
      rw [← ht] at k0 k1 k2 k3 k4 hxk
      obtain ⟨X, hX⟩ : ∃ X, X = mk t.text := ⟨_, rfl⟩
      have hXs : X.size ≤ 2000000 := by rw [hX, mk_size]; exact hxk
      rw [← hX] at k1
      obtain ⟨Y, hY⟩ : ∃ Y, Y = mk (wrtL t.kind t.text) := ⟨_, rfl⟩
      obtain ⟨W1, hW1⟩ : ∃ W1, W1 = wr.alloc (.cells #[.int .u8 t.kind, .string X, .int .i64 t.line, .int .i64 t.col, .bool t.left] 49) := ⟨_, rfl⟩
      have hb1 : Below wr.heap.size wr W1 := by rw [hW1]; exact below1 wr _
      have HWR := hide (written_c t.kind X t.line t.col t.left W1 hXs (HM.out W1 (hb.trans (hb1.mono hb.size))))
      rw [show mk (wrtL t.kind X.data.toList) = Y by rw [hX, hY]; rfl] at HWR
      have HW1 := hide hW1
      have HB1 := hide hb1
      have HBR := hide hb
      have HCB := hide hcb
      have HC := hide hC
      have HCS := hide hCs
      have HY := hide hY
      have HT := hide ht
      clear q0 q1 q2 q3 q4 hxk hX hY hb1 hb hcb hC hCs hW1 ht
      go_wp2_with fail
      rw [← HW1.out]
      refine HWR.out.mono ?_
      rintro e w2 ⟨rfl, hb2⟩
      have hbw2 : Below wr.heap.size wr w2 := HB1.out.trans (hb2.mono HB1.out.size)
      have hcb2 := blk_kept hbw2 HCB.out
      have hCk : C[k]? = some (C[k]'(by rw [HCS.out]; exact hlt)) := Array.getElem?_eq_getElem _
      have z0 : w2.cell? ⟨w.heap.size, k, none⟩ = some (C[k]'(by rw [HCS.out]; exact hlt)) := (hcb2.cell k).trans hCk
      have z1 := hcb2.free k
      have HB2 : Hid (Below w.heap.size w w2) := HBR.out.trans (hbw2.mono HBR.out.size)
      have HCB3 : Hid (Blk (w2.setCell ⟨w.heap.size, k, none⟩ (.string Y)) w.heap.size (C.setIfInBounds k (.string Y)) 9) := hcb2.set k _
      have HC3 : Hid (∀ j (h : j < ts.length), j < k + 1 → (C.setIfInBounds k (.string Y))[j]? = some (.string (mk (wrtL ts[j].kind ts[j].text)))) := fun j hj hjk => by
        by_cases e : j = k
        · subst e
          rw [Array.getElem?_setIfInBounds_self_of_lt (by rw [HCS.out]; exact hlt), HY.out, HT.out]
        · rw [Array.getElem?_setIfInBounds_ne (fun h => e h.symm)]
          exact HC.out j hj (by omega)
      clear hb2 hbw2 hcb2 hCk
      go_wp2_with fail
      go_roundw
      case rel => exact ⟨k + 1, hlt, by go_num, ⟨_, by rw [Array.size_setIfInBounds]; exact HCS.out, HCB3.out, HC3.out⟩, HB2.out.setCell (Nat.le_refl _) _⟩
      case measure => simp [intOf]; omega
    · obtain rfl : k = ts.length := by omega
      have HJ : Hid (Calls Tryz.prog 63 #[.slice (some ⟨w.heap.size, 0, none⟩) ts.length ts.length, .string ⟨#[32]⟩] wr fun e w' => e = .returned (.string R) ∧ Below wr.heap.size wr w') := by
        have e1 : (ts.map fun t => mk (wrtL t.kind t.text)).map (·.data.toList) = ts.map fun t => wrtL t.kind t.text := by
          rw [List.map_map]; exact List.map_congr_left fun t _ => mk_data _
        have hJ := Tryz.strings_Join w.heap.size 0 ts.length (ts.map fun t => mk (wrtL t.kind t.text)) ⟨#[32]⟩ wr (fun j x hx => by
            rw [List.getElem?_map] at hx
            by_cases hj : j < ts.length
            · rw [List.getElem?_eq_getElem hj] at hx
              injection hx with hx
              rw [← hx, Nat.zero_add]
              exact (hcb.cell j).trans (hC j hj hj)
            · rw [List.getElem?_eq_none (by omega)] at hx
              cases hx) hcb.lt (by rw [List.length_map]; omega) (by rw [List.length_map]; exact Nat.le_refl _) (by
            rw [e1]
            have := join_len (ts.map fun t => wrtL t.kind t.text) 6000002 (fun x hx => by
              obtain ⟨t, ht, rfl⟩ := List.mem_map.1 hx
              have h1 := HX.out t ht
              have h2 := wrt_len t.kind t.text
              omega)
            rw [List.length_map] at this
            show (Lib.join _ [32]).length ≤ _
            omega)
        rw [List.length_map, e1] at hJ
        unfold Hid
        rw [HR.out]
        exact hJ
      have HBR := hide hb
      clear hb hcb hC hCs
      go_wp2_with fail
      refine HJ.out.mono ?_
      rintro e w2 ⟨rfl, hb2⟩
      have HB2 := hide (HBR.out.trans (hb2.mono HBR.out.size))
      clear hb2
      go_wp2_with fail
      go_ret
      exact ⟨rfl, HB2.out⟩
end Go.Proofs.YtghnffdjdjlomaaGreatDoor
