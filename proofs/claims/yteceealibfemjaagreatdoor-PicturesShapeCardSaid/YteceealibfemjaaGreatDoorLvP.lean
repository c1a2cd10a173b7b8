/-
  CONTRACT of lives of law 06 (layer 6, pictures).
-/
import Derived.Test.YteceealibfemjaaGreatDoorShoP
import Derived.Test.YteceealibfemjaaGreatDoorSizP
import Derived.Great.Walk
import Derived.Deep.MidRow
namespace Go.Proofs.YteceealibfemjaaGreatDoor
open Go.RowKit Go.Shelf

abbrev RowP := List UInt8 × (Int × Pic.ShR × List UInt8)
def rwV (p : RowP) : List Value := Value.string (mk p.1) :: ((shpV p.2.2.1 (mk p.2.2.2)).toList ++ [.int .i64 p.2.1])
def livL : List RowP := [([65, 40, 51, 41], (0, ⟨1, 0, 0, false, 3⟩, [65, 65, 65])), ([88, 65, 57], (0, ⟨2, 0, 0, false, 3⟩, [88, 65, 57])), ([88, 40, 50, 41, 66, 88, 40, 50, 41], (0, ⟨3, 0, 0, false, 5⟩, [88, 88, 66, 88, 88])), ([83, 57, 40, 51, 41, 86, 57, 57], (0, ⟨4, 5, 2, true, 5⟩, [83, 57, 57, 57, 86, 57, 57])), ([80, 80, 57], (0, ⟨4, 1, 3, false, 1⟩, [80, 80, 57])), ([57, 40, 50, 41, 80, 40, 51, 41], (0, ⟨4, 2, -3, false, 2⟩, [57, 57, 80, 80, 80])), ([90, 44, 90, 90, 57, 46, 57, 57, 45], (0, ⟨5, 6, 2, true, 9⟩, [90, 44, 90, 90, 57, 46, 57, 57, 45])), ([36, 42, 42, 57], (0, ⟨5, 3, 0, false, 4⟩, [36, 42, 42, 57])), ([36, 36, 36, 57], (0, ⟨5, 3, 0, false, 4⟩, [36, 36, 36, 57])), ([45, 45, 57], (0, ⟨5, 2, 0, true, 3⟩, [45, 45, 57])), ([57, 57, 47, 57, 57], (0, ⟨5, 4, 0, false, 5⟩, [57, 57, 47, 57, 57])), ([43, 90, 57, 86, 57, 67, 82], (4, ⟨0, 0, 0, false, 0⟩, [])), ([88, 40, 48, 41], (4, ⟨0, 0, 0, false, 0⟩, [])), ([65, 40], (4, ⟨0, 0, 0, false, 0⟩, [])), ([57, 90], (4, ⟨0, 0, 0, false, 0⟩, [])), ([83], (4, ⟨0, 0, 0, false, 0⟩, [])), ([44, 57], (4, ⟨0, 0, 0, false, 0⟩, [])), ([57, 40, 49, 57, 41], (3, ⟨0, 0, 0, false, 0⟩, []))]
def livC : Array Value := (livL.flatMap rwV).toArray
theorem livAll : livL.all (fun p => decide (Pic.parL p.1 = p.2) && decide (p.1.length ≤ 20)) = true := by decide +kernel
theorem rwV_len (p : RowP) : (rwV p).length = 13 := rfl
theorem flat_at {α β : Type} (f : α → List β) (k : Nat) (hf : ∀ a, (f a).length = k) : ∀ (l : List α) (i : Nat) (a : α), l[i]? = some a → ((l.flatMap f).drop (k * i)).take k = f a
  | [], i, a, h => by simp at h
  | b :: r, 0, a, h => by
    simp at h; subst h
    rw [List.flatMap_cons, Nat.mul_zero, List.drop_zero, List.take_append_of_le_length (by rw [hf]; exact Nat.le_refl _), List.take_of_length_le (by rw [hf]; exact Nat.le_refl _)]
  | b :: r, i + 1, a, h => by
    rw [List.getElem?_cons_succ] at h
    rw [List.flatMap_cons, show k * (i + 1) = (f b).length + k * i by rw [hf, Nat.mul_succ]; omega, List.drop_append, List.drop_of_length_le (by omega), List.nil_append, show (f b).length + k * i - (f b).length = k * i by omega]
    exact flat_at f k hf r i a h
/-- the block of the examples -/
def LivAt (w : World) (g : Nat) : Prop := ∃ fr, w.heap[g]? = some (.cells livC 49 fr)
theorem LivAt.row {w : World} {g : Nat} (h : LivAt w g) (i : Nat) (p : RowP) (hp : livL[i]? = some p) : w.rangeAt g (i * 13) (rwV p) := by
  obtain ⟨fr, hg⟩ := h
  rw [Nat.mul_comm i 13]
  have := World.rangeAt_of_block hg (13 * i) 13
  rw [Array.toList_extract] at this
  have h2 := flat_at rwV 13 rwV_len livL i p hp
  have h3 : livC.toList.extract (13 * i) (13 * i + 13) = rwV p := by
    rw [← h2, List.extract_eq_take_drop]
    show ((livL.flatMap rwV).drop (13 * i)).take (13 * i + 13 - 13 * i) = _
    rw [show 13 * i + 13 - 13 * i = 13 by omega]
  rw [h3] at this
  exact this
theorem LivAt.below {w w' : World} {g : Nat} (h : LivAt w g) (hb : Below w.heap.size w w') : LivAt w' g := by
  obtain ⟨fr, hg⟩ := h
  exact ⟨fr, (hb.block g (Array.getElem?_eq_some_iff.1 hg).1).trans hg⟩
/-- what one round needs: the row's value, opaque -/
structure RwF (w : World) (g i : Nat) (s : ByteArray) (V : Array Value) (er : Int) : Prop where
  str : w.cell? ⟨g, i * 13, none⟩ = some (.string s)
  shp : w.rangeAt g (i * 13 + 1) V.toList
  err : w.cell? ⟨g, i * 13 + 12, none⟩ = some (.int .i64 er)
theorem RwF.below {w w' : World} {g i : Nat} {s : ByteArray} {V : Array Value} {er : Int} (h : RwF w g i s V er) (hb : Below w.heap.size w w') : RwF w' g i s V er :=
  ⟨(hb.cell (p := ⟨_, _, none⟩) (World.block_lt_of_cell? _ _ h.str)).trans h.str, fun j v hv => (hb.cell (p := ⟨_, _, none⟩) (World.block_lt_of_cell? _ _ (h.shp j v hv))).trans (h.shp j v hv), (hb.cell (p := ⟨_, _, none⟩) (World.block_lt_of_cell? _ _ h.err)).trans h.err⟩
theorem rwF_of {w : World} {g : Nat} (h : LivAt w g) (i : Nat) (hi : i < 18) : ∃ s c pic d sc sg n er, RwF w g i s (shpC c pic d sc sg n) er ∧ (∀ W, EnvP W → Calls Tryz.prog 5 #[.string s] W fun e w' => e = .returned (.tuple #[.agg (shpC c pic d sc sg n), .int .i64 er]) ∧ Below W.heap.size W w') := by
  obtain ⟨p, hp⟩ : ∃ p, livL[i]? = some p := ⟨livL[i]'hi, List.getElem?_eq_getElem _⟩
  have hm : p ∈ livL := List.mem_of_getElem? hp
  have ha := List.all_eq_true.1 livAll p hm
  simp only [Bool.and_eq_true, decide_eq_true_eq] at ha
  have hr := h.row i p hp
  obtain ⟨s, er, x, pic⟩ := p
  refine ⟨mk s, x.c, mk pic, x.d, x.sc, x.sg, x.n, er, ⟨hr 0 _ rfl, fun j v hv => ?_, hr 12 _ rfl⟩, fun W hw => ?_⟩
  · have hj : j < 11 := by
      have := (List.getElem?_eq_some_iff.1 hv).1
      exact this
    have := hr (j + 1) v (by
      show ((shpV x (mk pic)).toList ++ [_])[j]? = some v
      rw [List.getElem?_append_left (by exact hj)]
      exact hv)
    rw [show i * 13 + 1 + j = i * 13 + (j + 1) by omega]
    exact this
  · have := Parse_c (mk s) W (by rw [mk_sz]; have := ha.2; simp only [] at this; omega) hw
    unfold ParPost at this
    rw [show (mk s).data.toList = s from rfl, ha.1] at this
    exact this
theorem wp_buildTo {P : Program} {o : Oper} {a : Act} {w : World} {K : Act → World → Prop} {Q : Exit → Act → World → Prop} (t e : TypeId) (len : Nat) (parts : Array (Nat × Operand)) (ho : o.op = .buildSlice t len parts)
    (hu : P.underlying t = some (.slice e)) (cells : Array Value)
    (hf : P.builtSlice e len (parts.map fun (i, x) => (i, a.eval x)).toList = some cells)
    (h : K (a.put o.dst (.slice (some ⟨w.heap.size, 0, none⟩) len len)) (w.alloc (.cells cells e))) : o.wp P a w K Q := by
  unfold Program.builtSlice at hf
  cases hie : P.info? e with
  | none => simp [hie] at hf
  | some ie =>
    simp only [hie] at hf
    cases hz : ie.zero with
    | none => simp [hz] at hf
    | some z =>
      simp only [hz] at hf
      by_cases hc : len * ie.size > 2 ^ 24 ∨ len * ie.size = 0
      · simp [hc] at hf
      · rw [if_neg hc] at hf
        exact wp_buildSlice t e len parts ho cells ie z hu hie hz (fun h' => hc (Or.inl h')) (fun h' => hc (Or.inr h')) hf h
theorem SizeT (us : Int) (sep : Bool) (r : Int) (w : World) (h0 : 0 ≤ us) (h1 : us ≤ 255) (hr : sizQ 4 us [] 5 sep 0 = (r, 0)) : Calls Tryz.prog 22 #[.agg #[.int .u8 4, .int .u8 us, .string ⟨#[]⟩, .int .i64 5, .int .i64 0, .bool false, .bool false, .bool sep, .bool false, .bool false, .int .i64 0]] w fun e w' => e = .returned (.tuple #[.int .i64 r, .int .i64 0]) ∧ Below w.heap.size w w' := by
  have := Size_c 4 us ⟨#[]⟩ 5 0 false false sep false false 0 w (by decide) (by decide) h0 h1 (by decide)
  rw [show (⟨#[]⟩ : ByteArray).data.toList = [] from rfl, hr] at this
  exact this
theorem SizeS (w : World) : Calls Tryz.prog 22 #[.agg #[.int .u8 4, .int .u8 0, .string ⟨#[]⟩, .int .i64 5, .int .i64 0, .bool true, .bool false, .bool true, .bool false, .bool false, .int .i64 0]] w fun e w' => e = .returned (.tuple #[.int .i64 6, .int .i64 0]) ∧ Below w.heap.size w w' := by
  have := Size_c 4 0 ⟨#[]⟩ 5 0 true false true false false 0 w (by decide) (by decide) (by decide) (by decide) (by decide)
  rw [show (⟨#[]⟩ : ByteArray).data.toList = [] from rfl, show sizQ 4 0 [] 5 true 0 = (6, 0) by rfl] at this
  exact this
theorem ShortT (w : World) (he : EnvP w) : Calls Tryz.prog 6 #[.string ⟨#[88, 88, 88, 88, 88, 57, 57, 57, 57]⟩] w fun e w' => e = .returned (.tuple #[.string ⟨#[88, 40, 53, 41, 57, 57, 57, 57]⟩, .int .i64 0]) ∧ Below w.heap.size w w' := by
  have := Short_c ⟨#[88, 88, 88, 88, 88, 57, 57, 57, 57]⟩ w (by decide) he
  rw [show (⟨#[88, 88, 88, 88, 88, 57, 57, 57, 57]⟩ : ByteArray).data.toList = [88, 88, 88, 88, 88, 57, 57, 57, 57] from rfl, show Pic.expL [88, 88, 88, 88, 88, 57, 57, 57, 57] = ([88, 88, 88, 88, 88, 57, 57, 57, 57], 0) by decide +kernel] at this
  simp only [] at this
  rw [show Pic.shoL [88, 88, 88, 88, 88, 57, 57, 57, 57] = [88, 40, 53, 41, 57, 57, 57, 57] by decide +kernel] at this
  exact this
set_option maxRecDepth 100000 in
set_option maxHeartbeats 4000000 in
theorem livesP_c (w : World) (he : EnvP w) :
    Calls Tryz.prog 8 #[] w fun e w' => e = .returned (.bool true) ∧ Below w.heap.size w w' := by
  have HE : Hid (∀ W, Below w.heap.size w W → EnvP W) := fun W hb => he.below hb
  obtain ⟨W1, hW1⟩ : ∃ W1, W1 = w.alloc (.cells livC 49) := ⟨_, rfl⟩
  have HB1 : Hid (Below w.heap.size w W1) := by unfold Hid; rw [hW1]; exact below1 w _
  have HL1 : Hid (LivAt W1 w.heap.size) := by unfold Hid; rw [hW1]; exact ⟨_, heap_alloc_new w _⟩
  have HW1 := hide hW1
  clear he hW1
  go_enter Tryz.func8, Tryz.ntmps8
  go_wp2_with fail
  refine wp_buildTo 50 49 18 _ rfl (by kernel_rfl) livC (by kernel_rfl) ?_
  with_reducible rw [← HW1.out]
  clear HW1
  obtain ⟨g, hg⟩ : ∃ g, g = w.heap.size := ⟨_, rfl⟩
  rw [← hg] at HL1
  go_wp2_with fail
  rw [← hg]
  have HG := hide hg
  clear hg
  go_loopw [2] (fun iv wr => ∃ i : Nat, iv = .int .i64 (i : Int) ∧ i ≤ 18 ∧ Hid (Below W1.heap.size W1 wr)) (fun iv _ => match iv with | .int _ n => 18 - n.toNat | _ => 0)
  case atStart => exact ⟨0, rfl, by omega, Below.refl _ _⟩
  case round =>
    obtain ⟨i, rfl, hi, hb⟩ := hrel
    obtain ⟨W, rfl⟩ : ∃ W, W = wr := ⟨_, rfl⟩
    have HBW : Hid (Below w.heap.size w W) := HB1.out.trans (hb.out.mono HB1.out.size)
    have HLW : Hid (LivAt W g) := HL1.out.below hb.out
    by_cases hi2 : i < 18
    · obtain ⟨s, c, pic, d, sc, sg, n, er, hrw, hcall⟩ := rwF_of HLW.out i hi2
      have HC := hide hcall
      have HRW := hide hrw
      have hcs := hrw.str
      clear hrw hcall
      go_wp2_with fail
      refine (HC.out W (HE.out W HBW.out)).mono ?_
      rintro e w2 ⟨rfl, hb2⟩
      obtain ⟨B1, hB1⟩ : ∃ B1, B1 = w2.heap.size := ⟨_, rfl⟩
      have HZ3 : Hid (ShpB (w2.alloc (.cells #[.int .u8 0, .int .u8 0, .string ⟨#[]⟩, .int .i64 0, .int .i64 0, .bool false, .bool false, .bool false, .bool false, .bool false, .int .i64 0] 28)) w2.heap.size (shpC 0 ⟨#[]⟩ 0 0 false 0)) := heap_alloc_new w2 _
      obtain ⟨W3, hW3⟩ : ∃ W3, W3 = (w2.alloc (.cells #[.int .u8 0, .int .u8 0, .string ⟨#[]⟩, .int .i64 0, .int .i64 0, .bool false, .bool false, .bool false, .bool false, .bool false, .int .i64 0] 28)).setRow w2.heap.size (shpC c pic d sc sg n) := ⟨_, rfl⟩
      have hb3 : Below w2.heap.size w2 W3 := by rw [hW3]; exact below_setRow (below1 w2 _) (Nat.le_refl _) _
      have hb23 : Below W.heap.size W W3 := hb2.trans (hb3.mono hb2.size)
      have HB3 : Hid (Below W1.heap.size W1 W3) := hb.out.trans (hb23.mono hb.out.size)
      have HS3 : Hid (ShpB W3 B1 (shpC c pic d sc sg n)) := by unfold Hid; rw [hW3, hB1]; exact HZ3.out.set _
      have HR3 : Hid (RwF W3 g i s (shpC c pic d sc sg n) er) := HRW.out.below hb23
      clear hb2 hb3 hb23 HRW HC hcs HLW HBW hb
      go_upto_region 6 with (refine wpList_store_row rfl 28 _ _ rfl w2.heap.size (shpC c pic d sc sg n) rfl rfl 28 _ HZ3.out (shp_info _ _ _ _ _ _) rfl (shp_one _ _ _ _ _ _) ?_)
      with_reducible rw [← hW3]
      rw [← hB1]
      clear hW3 hB1 HZ3
      have hce := HR3.out.err
      obtain ⟨c0, c1, c2, c3, c4, c5, c6, c7, c8, c9, c10⟩ := HS3.out.cells
      have r0 : W3.cell? ⟨g, i * 13 + 1, none⟩ = some (.int .u8 c) := HR3.out.shp 0 _ rfl
      have r1 : W3.cell? ⟨g, i * 13 + 2, none⟩ = some (.int .u8 0) := HR3.out.shp 1 _ rfl
      have r2 : W3.cell? ⟨g, i * 13 + 3, none⟩ = some (.string pic) := HR3.out.shp 2 _ rfl
      have r3 : W3.cell? ⟨g, i * 13 + 4, none⟩ = some (.int .i64 d) := HR3.out.shp 3 _ rfl
      have r4 : W3.cell? ⟨g, i * 13 + 5, none⟩ = some (.int .i64 sc) := HR3.out.shp 4 _ rfl
      have r5 : W3.cell? ⟨g, i * 13 + 6, none⟩ = some (.bool sg) := HR3.out.shp 5 _ rfl
      have r6 : W3.cell? ⟨g, i * 13 + 7, none⟩ = some (.bool false) := HR3.out.shp 6 _ rfl
      have r7 : W3.cell? ⟨g, i * 13 + 8, none⟩ = some (.bool false) := HR3.out.shp 7 _ rfl
      have r8 : W3.cell? ⟨g, i * 13 + 9, none⟩ = some (.bool false) := HR3.out.shp 8 _ rfl
      have r9 : W3.cell? ⟨g, i * 13 + 10, none⟩ = some (.bool false) := HR3.out.shp 9 _ rfl
      have r10 : W3.cell? ⟨g, i * 13 + 11, none⟩ = some (.int .i64 n) := HR3.out.shp 10 _ rfl
      go_quiet (fail)
      have HB4 : Hid (Below W1.heap.size W1 (W3.drewN nq)) := below_drewN' HB3.out _
      clear hce c0 c1 c2 c3 c4 c5 c6 c7 c8 c9 c10 r0 r1 r2 r3 r4 r5 r6 r7 r8 r9 r10
      go_wp2_with fail
      exact ⟨⟨i + 1, rfl, by omega, HB4.out⟩, by show 18 - ((i : Int) + 1).toNat < 18 - ((i : Int)).toNat; omega⟩
    · have HBW2 := HBW
      clear HLW hb HL1 HG
      go_wp2_with fail
      refine (SizeT 1 false 3 W (by decide) (by decide) rfl).mono ?_
      rintro e w2 ⟨rfl, hb2⟩
      have HB2 : Hid (Below w.heap.size w w2) := HBW.out.trans (hb2.mono HBW.out.size)
      clear hb2
      go_wp2_with fail
      refine (SizeT 2 false 4 w2 (by decide) (by decide) rfl).mono ?_
      rintro e w3 ⟨rfl, hb3⟩
      have HB3 : Hid (Below w.heap.size w w3) := HB2.out.trans (hb3.mono HB2.out.size)
      clear hb3
      go_wp2_with fail
      refine (SizeS w3).mono ?_
      rintro e w4 ⟨rfl, hb4⟩
      have HB4 : Hid (Below w.heap.size w w4) := HB3.out.trans (hb4.mono HB3.out.size)
      clear hb4
      go_wp2_with fail
      refine (ShortT w4 (HE.out w4 HB4.out)).mono ?_
      rintro e w5 ⟨rfl, hb5⟩
      have HB5 : Hid (Below w.heap.size w w5) := HB4.out.trans (hb5.mono HB4.out.size)
      clear hb5
      go_wp2_with fail
      go_ret
      exact ⟨rfl, HB5.out⟩
end Go.Proofs.YteceealibfemjaaGreatDoor
