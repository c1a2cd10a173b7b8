/-
  Shw LvT (layer 3, tokens), in one text.
-/
import Derived.Test.YtghnffdjdjlomaaGreatDoorTkD
import Derived.Test.YtghnffdjdjlomaaGreatDoorLiv
/-! CONTRACT of the law's show (layer 3, tokens). -/
namespace Go.Proofs.YtghnffdjdjlomaaGreatDoor
open Go.RowKit Go.Shelf

abbrev kindB : ByteArray := ⟨#[63, 87, 78, 81, 80, 83, 46, 61]⟩
def kindS : List UInt8 := [63, 87, 78, 81, 80, 83, 46, 61]
def show1 (t : TokL) : List UInt8 := (kindS.drop t.kind.toNat).take 1 ++ t.text ++ [124]
def showL (ts : List TokL) : List UInt8 := ts.flatMap show1
theorem showL_snoc (ts : List TokL) (k : Nat) (h : k < ts.length) : showL (ts.take (k + 1)) = showL (ts.take k) ++ show1 ts[k] := by
  rw [List.take_succ_eq_append_getElem h]
  unfold showL
  rw [List.flatMap_append]
  simp
theorem showL_le (ts : List TokL) (k : Nat) : (showL (ts.take k)).length ≤ (showL ts).length := by
  have : showL ts = showL (ts.take k) ++ showL (ts.drop k) := by
    unfold showL
    rw [← List.flatMap_append, List.take_append_drop]
  rw [this, List.length_append]; omega
def shT : Except FaultL (List TokL) → List UInt8 × FaultL
  | .error f => ([], f)
  | .ok ts => (showL ts, (0, 0, 0))
def sp11 : List UInt8 := [32, 32, 32, 32, 32, 32, 32, 32, 32, 32, 32]
theorem append_data (a b : ByteArray) : (a ++ b).data.toList = a.data.toList ++ b.data.toList := by
  rw [ByteArray.data_append, Array.toList_append]

set_option maxHeartbeats 2000000 in
set_option maxRecDepth 100000 in
theorem show_c (s : ByteArray) (w : World) (hs : s.size ≤ 29000) (hm : MaxI w) (r : Except FaultL (List TokL)) (hr : sourceT false (sp11 ++ s.data.toList) = r) (hk : ∀ ts, r = .ok ts → (∀ t ∈ ts, 0 ≤ t.kind ∧ t.kind ≤ 7) ∧ (showL ts).length ≤ 1000000) :
    Calls Tryz.prog 25 #[.string s] w fun e w' => e = .returned (.tuple #[.string (mk (shT r).1), fault (shT r).2]) ∧ Below w.heap.size w w' := by
  obtain ⟨W0, hW0⟩ : ∃ W0, W0 = w.alloc (.cells #[.int .i64 0, .int .i64 0, .int .i64 0] 28) := ⟨_, rfl⟩
  have hb0 : Below w.heap.size w W0 := by rw [hW0]; exact below1 w _
  have hr0 : Blk W0 w.heap.size #[.int .i64 0, .int .i64 0, .int .i64 0] 28 := by rw [hW0]; exact blk_new w _ _
  obtain ⟨S, hS⟩ : ∃ S : ByteArray, S = ⟨#[32, 32, 32, 32, 32, 32, 32, 32, 32, 32, 32]⟩ ++ s := ⟨_, rfl⟩
  have hSs : S.size = 11 + s.size := by rw [hS]; exact ByteArray.size_append
  have hSd : S.data.toList = sp11 ++ s.data.toList := by rw [hS, append_data]; rfl
  have HSO := hide (Source_c S false W0 (by omega) (hm.below hb0))
  rw [hSd, hr] at HSO
  have hadd := run_string_add_sum (P := Tryz.prog) W0 ⟨#[32, 32, 32, 32, 32, 32, 32, 32, 32, 32, 32]⟩ s (by have : (⟨#[32, 32, 32, 32, 32, 32, 32, 32, 32, 32, 32]⟩ : ByteArray).size = 11 := rfl; omega)
  rw [← hS] at hadd
  have HB0 := hide hb0
  have HR0 := hide hr0
  clear hb0 hr0 hm hSd hr hS
  obtain ⟨ts, f1, f2, f3, hsh, hkk, HSO2⟩ : ∃ ts f1 f2 f3, shT r = (showL ts, (f1, f2, f3)) ∧ Hid ((∀ t ∈ ts, 0 ≤ t.kind ∧ t.kind ≤ 7) ∧ (showL ts).length ≤ 1000000 ∧ ts.length ≤ 1000000) ∧ Hid (Calls Tryz.prog 14 #[.string S, .bool false] W0 fun e w' => ∃ A, e = .returned (.tuple #[.slice A ts.length ts.length, .agg #[.int .i64 f1, .int .i64 f2, .int .i64 f3]]) ∧ TokAt w' w'.heap.size A ts ∧ Below W0.heap.size W0 w') := by
    cases r with
    | error f =>
      obtain ⟨f1, f2, f3⟩ := f
      exact ⟨[], f1, f2, f3, rfl, ⟨by simp, by simp [showL], by simp⟩, HSO.out.mono fun e w' h => ⟨none, h.1, .inl rfl, h.2⟩⟩
    | ok ts =>
      obtain ⟨h1, h2⟩ := hk ts rfl
      have h3 : ts.length ≤ (showL ts).length := by
        unfold showL
        rw [List.length_flatMap]
        have : ∀ l : List TokL, l.length ≤ (l.map fun a => (show1 a).length).sum := fun l => by
          induction l with
          | nil => simp
          | cons a r ih =>
            rw [List.map_cons, List.sum_cons, List.length_cons]
            have : 1 ≤ (show1 a).length := by unfold show1; rw [List.length_append]; show 1 ≤ _ + 1; omega
            omega
        exact this ts
      exact ⟨ts, 0, 0, 0, rfl, ⟨h1, h2, by omega⟩, HSO.out.mono fun e w' h => by obtain ⟨A, h3, h4, _⟩ := h.2.1; exact ⟨A, h3, h4, h.2.2⟩⟩
  rw [hsh]
  clear HSO hk hsh
  obtain ⟨hkk1, hkk2, hkk3⟩ := hkk.out
  have HK := hide hkk1
  have HSL := hide (showL_le ts)
  clear hkk1
  go_enter Tryz.func25, Tryz.ntmps25
  go_upto_region 1 with fail
  rw [← hW0]
  clear hW0
  go_wp2_with fail
  refine HSO2.out.mono ?_
  rintro e w1 ⟨A, rfl, htk, hb1⟩
  obtain ⟨W3, hW3⟩ : ∃ W3, W3 = w1.alloc (.cells #[.int .i64 f1, .int .i64 f2, .int .i64 f3] 28) := ⟨_, rfl⟩
  have HZ : Hid (Blk W3 w1.heap.size #[.int .i64 f1, .int .i64 f2, .int .i64 f3] 28) := by rw [hW3]; exact blk_new w1 _ _
  have HR3 : Hid (Blk W3 w.heap.size #[.int .i64 0, .int .i64 0, .int .i64 0] 28) := by rw [hW3]; exact (blk_kept hb1 HR0.out).alloc _
  have HB3 : Hid (Below w.heap.size w W3) := by rw [hW3]; have := HB0.out.trans (hb1.mono HB0.out.size); exact this.alloc this.size _
  have HTK : Hid (TokAt W3 W3.heap.size A ts) := by rw [hW3]; exact htk.below (below1 w1 _) _ (by simp)
  have hz : w.heap.size ≤ w1.heap.size := (HB0.out.trans (hb1.mono HB0.out.size)).size
  clear hb1 hadd htk
  go_upto_region 4 with fail
  rw [← hW3]
  clear hW3
  go_loopw [6, 7] (fun v6 v7 wr => ∃ k : Nat, k ≤ ts.length ∧ v7 = .int .i64 (k : Int) ∧ v6 = .string (mk (showL (ts.take k))) ∧ Below W3.heap.size W3 wr) (fun _ v7 _ => ts.length - (intOf v7).toNat)
  case atStart => exact ⟨0, Nat.zero_le _, rfl, rfl, Below.refl _ _⟩
  case round =>
    obtain ⟨k, hk, rfl, rfl, hb⟩ := hrel
    by_cases hlt : k < ts.length
    · obtain ⟨b, rfl, hbl, q0, q1, -⟩ := HTK.out.at_ k hlt
      have k0 : wr.cell? ⟨b, k * 5, none⟩ = some (.int .u8 ts[k].kind) := (World.cell?_of_block (hb.block b hbl)).trans q0
      have k1 : wr.cell? ⟨b, k * 5 + 1, none⟩ = some (.string (mk ts[k].text)) := (World.cell?_of_block (hb.block b hbl)).trans q1
      have hkd := HK.out ts[k] (List.getElem_mem hlt)
      obtain ⟨K, hK⟩ : ∃ K : Nat, ts[k].kind = (K : Int) := ⟨ts[k].kind.toNat, by omega⟩
      have hK7 : K ≤ 7 := by omega
      rw [hK] at k0
      obtain ⟨X, hX⟩ : ∃ X, X = mk ts[k].text := ⟨_, rfl⟩
      obtain ⟨O, hO⟩ : ∃ O, O = mk (showL (ts.take k)) := ⟨_, rfl⟩
      rw [← hX] at k1
      have hsn := showL_snoc ts k hlt
      have hl1 := HSL.out (k + 1)
      rw [hsn, List.length_append] at hl1
      have hs1 : show1 ts[k] = (kindS.drop K).take 1 ++ ts[k].text ++ [124] := by unfold show1; rw [hK]; rfl
      have hXs : X.size = ts[k].text.length := by rw [hX]; exact mk_size _
      have hOs : O.size = (showL (ts.take k)).length := by rw [hO]; exact mk_size _
      rw [hs1, List.length_append, List.length_append] at hl1
      have hO1 : O.size + X.size ≤ 1000000 := by omega
      have HN : Hid (mk (showL (ts.take (k + 1))) = O ++ kindB.extract K (K + 1) ++ X ++ ⟨#[124]⟩) := by
        unfold Hid
        apply ByteArray.ext
        apply Array.toList_inj.1
        rw [mk_data, hsn, hs1, append_data, append_data, append_data, hO, hX, ext_data, mk_data, mk_data, show K + 1 - K = 1 by omega]
        simp only [List.append_assoc]
        rfl
      have hw : IntKind.u8.wrap ((K : Int) + 1) = (K : Int) + 1 := by
        have : K = 0 ∨ K = 1 ∨ K = 2 ∨ K = 3 ∨ K = 4 ∨ K = 5 ∨ K = 6 ∨ K = 7 := by omega
        rcases this with rfl | rfl | rfl | rfl | rfl | rfl | rfl | rfl <;> rfl
      have HBR := hide hb
      rw [← hO]
      clear q0 q1 hkd hK hX hO hsn hl1 hs1 hXs hOs hb
      go_wp2_with fail
      go_quiet (fail)
      go_wp2_with fail
      go_roundw
      case rel => exact ⟨k + 1, hlt, by go_num, by rw [HN.out], below_drewN HBR.out _⟩
      case measure => simp [intOf]; omega
    · obtain rfl : k = ts.length := by omega
      rw [List.take_length]
      have HBR := hide hb
      have hz1 := (HZ.out.mods (Mods.of_below hb) (fun e => e))
      have hr1 := (HR3.out.mods (Mods.of_below hb) (fun e => e))
      have HB4 := hide (HB3.out.trans (hb.mono HB3.out.size))
      have z0 : wr.cell? ⟨w1.heap.size, 0, none⟩ = some (.int .i64 f1) := hz1.cell 0
      have z1 : wr.cell? ⟨w1.heap.size, 1, none⟩ = some (.int .i64 f2) := hz1.cell 1
      have z2 : wr.cell? ⟨w1.heap.size, 2, none⟩ = some (.int .i64 f3) := hz1.cell 2
      have r0 : wr.cell? ⟨w.heap.size, 0, none⟩ = some (.int .i64 0) := hr1.cell 0
      have r1 : wr.cell? ⟨w.heap.size, 1, none⟩ = some (.int .i64 0) := hr1.cell 1
      have r2 : wr.cell? ⟨w.heap.size, 2, none⟩ = some (.int .i64 0) := hr1.cell 2
      have g0 := hr1.free 0
      have g1 := hr1.free 1
      have g2 := hr1.free 2
      have hrl := hr1.lt
      have hzl := hz1.lt
      clear hz1 hr1 hb
      go_wp2_with fail
      go_region
      go_wp2_with fail
      refine bodyPost_ret (v := .tuple #[.string (mk (showL ts)), .agg #[.int .i64 f1, .int .i64 f2, .int .i64 f3]]) (by simp [results, Tryz.results25, go_sem, r0, r1, r2, hrl]) rfl ?_
      exact ⟨rfl, below_drewN (below_set3 HB4.out (Nat.le_refl _) _ _ _) 1⟩
end Go.Proofs.YtghnffdjdjlomaaGreatDoor

/-! THE CHAPTER's EXAMPLES (layer 3, tokens): what Scan makes of them, by the kernel; the contract of the law's lives. -/
namespace Go.Proofs.YtghnffdjdjlomaaGreatDoor
open Go.RowKit Go.Shelf

/-- Source, with fuel -/
def sourceK (l : List UInt8) : Except FaultL (List TokL) := match readK l with
  | .error f => .error f
  | .ok cs => scanT cs []
theorem sourceK_eq (l : List UInt8) (h : l.length ≤ 100) : sourceT false l = sourceK l := by
  unfold sourceT sourceK; rw [readK_eq l h]; cases readK l <;> rfl
def kindsOk : Except FaultL (List TokL) → Bool
  | .error _ => true
  | .ok ts => ts.all (fun t => decide (0 ≤ t.kind) && decide (t.kind ≤ 7))
/-- an example: its text, what is shown, the fault -/
structure ExT (l out : List UInt8) (f : FaultL) : Prop where
  len : (sp11 ++ l).length ≤ 100
  few : out.length ≤ 1000
  show_ : (shT (sourceK (sp11 ++ l))).1 = out
  flt : (shT (sourceK (sp11 ++ l))).2 = f
  kinds : kindsOk (sourceK (sp11 ++ l)) = true
theorem show_ex (s : ByteArray) {l out : List UInt8} {f : FaultL} (h : ExT l out f) (hl : s.data.toList = l) (w : World) (hm : MaxI w) :
    Calls Tryz.prog 25 #[.string s] w fun e w' => e = .returned (.tuple #[.string (mk out), fault f]) ∧ Below w.heap.size w w' := by
  have hlen := h.len
  have hs : s.size = l.length := by rw [← hl, len_data]
  rw [List.length_append] at hlen
  have he := sourceK_eq _ h.len
  have hc := show_c s w (by omega) hm (sourceK (sp11 ++ l)) (by rw [hl]; exact he) (fun ts hts => by
    have h1 := h.kinds
    have h2 := h.show_
    have h3 := h.few
    rw [hts] at h1 h2
    refine ⟨fun t ht => ?_, ?_⟩
    · have := List.all_eq_true.1 h1 t ht
      simpa using this
    · have e : showL ts = out := h2
      rw [e]; omega)
  rw [h.show_, h.flt] at hc
  exact hc
theorem tex_0 : ExT [109, 111, 118, 101, 32, 45, 49, 46, 53, 48, 32, 116, 111, 32, 65, 45, 49, 44, 32, 98, 40, 50, 41, 46] [87, 77, 79, 86, 69, 124, 78, 45, 49, 46, 53, 48, 124, 87, 84, 79, 124, 87, 65, 45, 49, 124, 87, 66, 124, 83, 40, 124, 78, 50, 124, 83, 41, 124, 46, 46, 124] (0, 0, 0) := ⟨by decide, by decide, by decide +kernel, by decide +kernel, by decide +kernel⟩
theorem tex_1 : ExT [48, 53, 32, 88, 32, 80, 73, 67, 32, 57, 40, 51, 41, 118, 57, 57, 46] [78, 48, 53, 124, 87, 88, 124, 87, 80, 73, 67, 124, 80, 57, 40, 51, 41, 86, 57, 57, 124, 46, 46, 124] (0, 0, 0) := ⟨by decide, by decide, by decide +kernel, by decide +kernel, by decide +kernel⟩
theorem tex_2 : ExT [65, 32, 45, 32, 49, 32, 42, 42, 32, 46, 53, 32, 60, 61, 32, 34, 66, 34, 34, 67, 34] [87, 65, 124, 83, 45, 124, 78, 49, 124, 83, 42, 42, 124, 78, 46, 53, 124, 83, 60, 61, 124, 81, 66, 34, 67, 124] (0, 0, 0) := ⟨by decide, by decide, by decide +kernel, by decide +kernel, by decide +kernel⟩
theorem tex_3 : ExT [61, 61, 49, 65, 61, 61, 32, 66, 89, 32, 55, 46] [61, 61, 61, 124, 87, 49, 65, 124, 61, 61, 61, 124, 87, 66, 89, 124, 78, 55, 124, 46, 46, 124] (0, 0, 0) := ⟨by decide, by decide, by decide +kernel, by decide +kernel, by decide +kernel⟩
theorem tex_4 : ExT [88, 32, 65, 45, 44, 32, 89] [] (4, 1, 14) := ⟨by decide, by decide, by decide +kernel, by decide +kernel, by decide +kernel⟩
theorem tex_5 : ExT [34, 34] [] (4, 1, 12) := ⟨by decide, by decide, by decide +kernel, by decide +kernel, by decide +kernel⟩
theorem tex_6 : ExT [49, 45, 50] [] (4, 1, 12) := ⟨by decide, by decide, by decide +kernel, by decide +kernel, by decide +kernel⟩
theorem tex_7 : ExT [80, 73, 67, 32, 46] [] (4, 1, 16) := ⟨by decide, by decide, by decide +kernel, by decide +kernel, by decide +kernel⟩
theorem tex_8 : ExT [80, 73, 67, 32, 65, 34, 66, 34] [] (4, 1, 16) := ⟨by decide, by decide, by decide +kernel, by decide +kernel, by decide +kernel⟩

set_option maxHeartbeats 4000000 in
set_option maxRecDepth 100000 in
theorem livesT_c (w : World) (hm : MaxI w) :
    Calls Tryz.prog 13 #[] w fun e w' => e = .returned (.bool true) ∧ Below w.heap.size w w' := by
  have H0 : Hid (∀ w1, Below w.heap.size w w1 → Calls Tryz.prog 25 #[.string ⟨#[109, 111, 118, 101, 32, 45, 49, 46, 53, 48, 32, 116, 111, 32, 65, 45, 49, 44, 32, 98, 40, 50, 41, 46]⟩] w1 fun e w' => e = .returned (.tuple #[.string ⟨#[87, 77, 79, 86, 69, 124, 78, 45, 49, 46, 53, 48, 124, 87, 84, 79, 124, 87, 65, 45, 49, 124, 87, 66, 124, 83, 40, 124, 78, 50, 124, 83, 41, 124, 46, 46, 124]⟩, .agg #[.int .i64 0, .int .i64 0, .int .i64 0]]) ∧ Below w1.heap.size w1 w') := fun w1 hb => show_ex _ tex_0 rfl w1 (hm.below hb)
  have H1 : Hid (∀ w1, Below w.heap.size w w1 → Calls Tryz.prog 25 #[.string ⟨#[48, 53, 32, 88, 32, 80, 73, 67, 32, 57, 40, 51, 41, 118, 57, 57, 46]⟩] w1 fun e w' => e = .returned (.tuple #[.string ⟨#[78, 48, 53, 124, 87, 88, 124, 87, 80, 73, 67, 124, 80, 57, 40, 51, 41, 86, 57, 57, 124, 46, 46, 124]⟩, .agg #[.int .i64 0, .int .i64 0, .int .i64 0]]) ∧ Below w1.heap.size w1 w') := fun w1 hb => show_ex _ tex_1 rfl w1 (hm.below hb)
  have H2 : Hid (∀ w1, Below w.heap.size w w1 → Calls Tryz.prog 25 #[.string ⟨#[65, 32, 45, 32, 49, 32, 42, 42, 32, 46, 53, 32, 60, 61, 32, 34, 66, 34, 34, 67, 34]⟩] w1 fun e w' => e = .returned (.tuple #[.string ⟨#[87, 65, 124, 83, 45, 124, 78, 49, 124, 83, 42, 42, 124, 78, 46, 53, 124, 83, 60, 61, 124, 81, 66, 34, 67, 124]⟩, .agg #[.int .i64 0, .int .i64 0, .int .i64 0]]) ∧ Below w1.heap.size w1 w') := fun w1 hb => show_ex _ tex_2 rfl w1 (hm.below hb)
  have H3 : Hid (∀ w1, Below w.heap.size w w1 → Calls Tryz.prog 25 #[.string ⟨#[61, 61, 49, 65, 61, 61, 32, 66, 89, 32, 55, 46]⟩] w1 fun e w' => e = .returned (.tuple #[.string ⟨#[61, 61, 61, 124, 87, 49, 65, 124, 61, 61, 61, 124, 87, 66, 89, 124, 78, 55, 124, 46, 46, 124]⟩, .agg #[.int .i64 0, .int .i64 0, .int .i64 0]]) ∧ Below w1.heap.size w1 w') := fun w1 hb => show_ex _ tex_3 rfl w1 (hm.below hb)
  have H4 : Hid (∀ w1, Below w.heap.size w w1 → Calls Tryz.prog 25 #[.string ⟨#[88, 32, 65, 45, 44, 32, 89]⟩] w1 fun e w' => e = .returned (.tuple #[.string ⟨#[]⟩, .agg #[.int .i64 4, .int .i64 1, .int .i64 14]]) ∧ Below w1.heap.size w1 w') := fun w1 hb => show_ex _ tex_4 rfl w1 (hm.below hb)
  have H5 : Hid (∀ w1, Below w.heap.size w w1 → Calls Tryz.prog 25 #[.string ⟨#[34, 34]⟩] w1 fun e w' => e = .returned (.tuple #[.string ⟨#[]⟩, .agg #[.int .i64 4, .int .i64 1, .int .i64 12]]) ∧ Below w1.heap.size w1 w') := fun w1 hb => show_ex _ tex_5 rfl w1 (hm.below hb)
  have H6 : Hid (∀ w1, Below w.heap.size w w1 → Calls Tryz.prog 25 #[.string ⟨#[49, 45, 50]⟩] w1 fun e w' => e = .returned (.tuple #[.string ⟨#[]⟩, .agg #[.int .i64 4, .int .i64 1, .int .i64 12]]) ∧ Below w1.heap.size w1 w') := fun w1 hb => show_ex _ tex_6 rfl w1 (hm.below hb)
  have H7 : Hid (∀ w1, Below w.heap.size w w1 → Calls Tryz.prog 25 #[.string ⟨#[80, 73, 67, 32, 46]⟩] w1 fun e w' => e = .returned (.tuple #[.string ⟨#[]⟩, .agg #[.int .i64 4, .int .i64 1, .int .i64 16]]) ∧ Below w1.heap.size w1 w') := fun w1 hb => show_ex _ tex_7 rfl w1 (hm.below hb)
  have H8 : Hid (∀ w1, Below w.heap.size w w1 → Calls Tryz.prog 25 #[.string ⟨#[80, 73, 67, 32, 65, 34, 66, 34]⟩] w1 fun e w' => e = .returned (.tuple #[.string ⟨#[]⟩, .agg #[.int .i64 4, .int .i64 1, .int .i64 16]]) ∧ Below w1.heap.size w1 w') := fun w1 hb => show_ex _ tex_8 rfl w1 (hm.below hb)
  have HB := hide (Below.refl w.heap.size w)
  clear hm
  go_enter Tryz.func13, Tryz.ntmps13
  go_wp2_with fail
  refine (H0.out _ HB.out).mono ?_
  rintro e v0 ⟨rfl, hv⟩
  obtain ⟨W0, hW0⟩ : ∃ W, W = v0.alloc (.cells #[.int .i64 0, .int .i64 0, .int .i64 0] 28) := ⟨_, rfl⟩
  have HB0 : Hid (Below w.heap.size w W0) := by rw [hW0]; have := HB.out.trans (hv.mono HB.out.size); exact this.alloc this.size _
  obtain ⟨b0, hb0⟩ : ∃ b, b = v0.heap.size := ⟨_, rfl⟩
  have F0_0 : Hid (Blk W0 b0 #[.int .i64 0, .int .i64 0, .int .i64 0] 28) := by rw [hW0, hb0]; exact blk_new _ _ _
  have HW0 := hide hW0
  clear hv hW0 HB
  go_wp2_with fail
  rw [← HW0.out]
  refine (H1.out _ HB0.out).mono ?_
  rintro e v1 ⟨rfl, hv⟩
  obtain ⟨W1, hW1⟩ : ∃ W, W = v1.alloc (.cells #[.int .i64 0, .int .i64 0, .int .i64 0] 28) := ⟨_, rfl⟩
  have HB1 : Hid (Below w.heap.size w W1) := by rw [hW1]; have := HB0.out.trans (hv.mono HB0.out.size); exact this.alloc this.size _
  have F0_1 : Hid (Blk W1 b0 #[.int .i64 0, .int .i64 0, .int .i64 0] 28) := by rw [hW1]; exact (blk_kept hv F0_0.out).alloc _
  clear F0_0
  obtain ⟨b1, hb1⟩ : ∃ b, b = v1.heap.size := ⟨_, rfl⟩
  have F1_1 : Hid (Blk W1 b1 #[.int .i64 0, .int .i64 0, .int .i64 0] 28) := by rw [hW1, hb1]; exact blk_new _ _ _
  have HW1 := hide hW1
  clear hv hW1 HB0
  go_wp2_with fail
  rw [← HW1.out]
  refine (H2.out _ HB1.out).mono ?_
  rintro e v2 ⟨rfl, hv⟩
  obtain ⟨W2, hW2⟩ : ∃ W, W = v2.alloc (.cells #[.int .i64 0, .int .i64 0, .int .i64 0] 28) := ⟨_, rfl⟩
  have HB2 : Hid (Below w.heap.size w W2) := by rw [hW2]; have := HB1.out.trans (hv.mono HB1.out.size); exact this.alloc this.size _
  have F0_2 : Hid (Blk W2 b0 #[.int .i64 0, .int .i64 0, .int .i64 0] 28) := by rw [hW2]; exact (blk_kept hv F0_1.out).alloc _
  clear F0_1
  have F1_2 : Hid (Blk W2 b1 #[.int .i64 0, .int .i64 0, .int .i64 0] 28) := by rw [hW2]; exact (blk_kept hv F1_1.out).alloc _
  clear F1_1
  obtain ⟨b2, hb2⟩ : ∃ b, b = v2.heap.size := ⟨_, rfl⟩
  have F2_2 : Hid (Blk W2 b2 #[.int .i64 0, .int .i64 0, .int .i64 0] 28) := by rw [hW2, hb2]; exact blk_new _ _ _
  have HW2 := hide hW2
  clear hv hW2 HB1
  go_wp2_with fail
  rw [← HW2.out]
  refine (H3.out _ HB2.out).mono ?_
  rintro e v3 ⟨rfl, hv⟩
  obtain ⟨W3, hW3⟩ : ∃ W, W = v3.alloc (.cells #[.int .i64 0, .int .i64 0, .int .i64 0] 28) := ⟨_, rfl⟩
  have HB3 : Hid (Below w.heap.size w W3) := by rw [hW3]; have := HB2.out.trans (hv.mono HB2.out.size); exact this.alloc this.size _
  have F0_3 : Hid (Blk W3 b0 #[.int .i64 0, .int .i64 0, .int .i64 0] 28) := by rw [hW3]; exact (blk_kept hv F0_2.out).alloc _
  clear F0_2
  have F1_3 : Hid (Blk W3 b1 #[.int .i64 0, .int .i64 0, .int .i64 0] 28) := by rw [hW3]; exact (blk_kept hv F1_2.out).alloc _
  clear F1_2
  have F2_3 : Hid (Blk W3 b2 #[.int .i64 0, .int .i64 0, .int .i64 0] 28) := by rw [hW3]; exact (blk_kept hv F2_2.out).alloc _
  clear F2_2
  obtain ⟨b3, hb3⟩ : ∃ b, b = v3.heap.size := ⟨_, rfl⟩
  have F3_3 : Hid (Blk W3 b3 #[.int .i64 0, .int .i64 0, .int .i64 0] 28) := by rw [hW3, hb3]; exact blk_new _ _ _
  have HW3 := hide hW3
  clear hv hW3 HB2
  go_wp2_with fail
  rw [← HW3.out]
  refine (H4.out _ HB3.out).mono ?_
  rintro e v4 ⟨rfl, hv⟩
  obtain ⟨W4, hW4⟩ : ∃ W, W = v4.alloc (.cells #[.int .i64 4, .int .i64 1, .int .i64 14] 28) := ⟨_, rfl⟩
  have HB4 : Hid (Below w.heap.size w W4) := by rw [hW4]; have := HB3.out.trans (hv.mono HB3.out.size); exact this.alloc this.size _
  have F0_4 : Hid (Blk W4 b0 #[.int .i64 0, .int .i64 0, .int .i64 0] 28) := by rw [hW4]; exact (blk_kept hv F0_3.out).alloc _
  clear F0_3
  have F1_4 : Hid (Blk W4 b1 #[.int .i64 0, .int .i64 0, .int .i64 0] 28) := by rw [hW4]; exact (blk_kept hv F1_3.out).alloc _
  clear F1_3
  have F2_4 : Hid (Blk W4 b2 #[.int .i64 0, .int .i64 0, .int .i64 0] 28) := by rw [hW4]; exact (blk_kept hv F2_3.out).alloc _
  clear F2_3
  have F3_4 : Hid (Blk W4 b3 #[.int .i64 0, .int .i64 0, .int .i64 0] 28) := by rw [hW4]; exact (blk_kept hv F3_3.out).alloc _
  clear F3_3
  obtain ⟨b4, hb4⟩ : ∃ b, b = v4.heap.size := ⟨_, rfl⟩
  have F4_4 : Hid (Blk W4 b4 #[.int .i64 4, .int .i64 1, .int .i64 14] 28) := by rw [hW4, hb4]; exact blk_new _ _ _
  have HW4 := hide hW4
  clear hv hW4 HB3
  go_wp2_with fail
  rw [← HW4.out]
  refine (H5.out _ HB4.out).mono ?_
  rintro e v5 ⟨rfl, hv⟩
  obtain ⟨W5, hW5⟩ : ∃ W, W = v5.alloc (.cells #[.int .i64 4, .int .i64 1, .int .i64 12] 28) := ⟨_, rfl⟩
  have HB5 : Hid (Below w.heap.size w W5) := by rw [hW5]; have := HB4.out.trans (hv.mono HB4.out.size); exact this.alloc this.size _
  have F0_5 : Hid (Blk W5 b0 #[.int .i64 0, .int .i64 0, .int .i64 0] 28) := by rw [hW5]; exact (blk_kept hv F0_4.out).alloc _
  clear F0_4
  have F1_5 : Hid (Blk W5 b1 #[.int .i64 0, .int .i64 0, .int .i64 0] 28) := by rw [hW5]; exact (blk_kept hv F1_4.out).alloc _
  clear F1_4
  have F2_5 : Hid (Blk W5 b2 #[.int .i64 0, .int .i64 0, .int .i64 0] 28) := by rw [hW5]; exact (blk_kept hv F2_4.out).alloc _
  clear F2_4
  have F3_5 : Hid (Blk W5 b3 #[.int .i64 0, .int .i64 0, .int .i64 0] 28) := by rw [hW5]; exact (blk_kept hv F3_4.out).alloc _
  clear F3_4
  have F4_5 : Hid (Blk W5 b4 #[.int .i64 4, .int .i64 1, .int .i64 14] 28) := by rw [hW5]; exact (blk_kept hv F4_4.out).alloc _
  clear F4_4
  obtain ⟨b5, hb5⟩ : ∃ b, b = v5.heap.size := ⟨_, rfl⟩
  have F5_5 : Hid (Blk W5 b5 #[.int .i64 4, .int .i64 1, .int .i64 12] 28) := by rw [hW5, hb5]; exact blk_new _ _ _
  have HW5 := hide hW5
  clear hv hW5 HB4
  go_wp2_with fail
  rw [← HW5.out]
  refine (H6.out _ HB5.out).mono ?_
  rintro e v6 ⟨rfl, hv⟩
  obtain ⟨W6, hW6⟩ : ∃ W, W = v6.alloc (.cells #[.int .i64 4, .int .i64 1, .int .i64 12] 28) := ⟨_, rfl⟩
  have HB6 : Hid (Below w.heap.size w W6) := by rw [hW6]; have := HB5.out.trans (hv.mono HB5.out.size); exact this.alloc this.size _
  have F0_6 : Hid (Blk W6 b0 #[.int .i64 0, .int .i64 0, .int .i64 0] 28) := by rw [hW6]; exact (blk_kept hv F0_5.out).alloc _
  clear F0_5
  have F1_6 : Hid (Blk W6 b1 #[.int .i64 0, .int .i64 0, .int .i64 0] 28) := by rw [hW6]; exact (blk_kept hv F1_5.out).alloc _
  clear F1_5
  have F2_6 : Hid (Blk W6 b2 #[.int .i64 0, .int .i64 0, .int .i64 0] 28) := by rw [hW6]; exact (blk_kept hv F2_5.out).alloc _
  clear F2_5
  have F3_6 : Hid (Blk W6 b3 #[.int .i64 0, .int .i64 0, .int .i64 0] 28) := by rw [hW6]; exact (blk_kept hv F3_5.out).alloc _
  clear F3_5
  have F4_6 : Hid (Blk W6 b4 #[.int .i64 4, .int .i64 1, .int .i64 14] 28) := by rw [hW6]; exact (blk_kept hv F4_5.out).alloc _
  clear F4_5
  have F5_6 : Hid (Blk W6 b5 #[.int .i64 4, .int .i64 1, .int .i64 12] 28) := by rw [hW6]; exact (blk_kept hv F5_5.out).alloc _
  clear F5_5
  obtain ⟨b6, hb6⟩ : ∃ b, b = v6.heap.size := ⟨_, rfl⟩
  have F6_6 : Hid (Blk W6 b6 #[.int .i64 4, .int .i64 1, .int .i64 12] 28) := by rw [hW6, hb6]; exact blk_new _ _ _
  have HW6 := hide hW6
  clear hv hW6 HB5
  go_wp2_with fail
  rw [← HW6.out]
  refine (H7.out _ HB6.out).mono ?_
  rintro e v7 ⟨rfl, hv⟩
  obtain ⟨W7, hW7⟩ : ∃ W, W = v7.alloc (.cells #[.int .i64 4, .int .i64 1, .int .i64 16] 28) := ⟨_, rfl⟩
  have HB7 : Hid (Below w.heap.size w W7) := by rw [hW7]; have := HB6.out.trans (hv.mono HB6.out.size); exact this.alloc this.size _
  have F0_7 : Hid (Blk W7 b0 #[.int .i64 0, .int .i64 0, .int .i64 0] 28) := by rw [hW7]; exact (blk_kept hv F0_6.out).alloc _
  clear F0_6
  have F1_7 : Hid (Blk W7 b1 #[.int .i64 0, .int .i64 0, .int .i64 0] 28) := by rw [hW7]; exact (blk_kept hv F1_6.out).alloc _
  clear F1_6
  have F2_7 : Hid (Blk W7 b2 #[.int .i64 0, .int .i64 0, .int .i64 0] 28) := by rw [hW7]; exact (blk_kept hv F2_6.out).alloc _
  clear F2_6
  have F3_7 : Hid (Blk W7 b3 #[.int .i64 0, .int .i64 0, .int .i64 0] 28) := by rw [hW7]; exact (blk_kept hv F3_6.out).alloc _
  clear F3_6
  have F4_7 : Hid (Blk W7 b4 #[.int .i64 4, .int .i64 1, .int .i64 14] 28) := by rw [hW7]; exact (blk_kept hv F4_6.out).alloc _
  clear F4_6
  have F5_7 : Hid (Blk W7 b5 #[.int .i64 4, .int .i64 1, .int .i64 12] 28) := by rw [hW7]; exact (blk_kept hv F5_6.out).alloc _
  clear F5_6
  have F6_7 : Hid (Blk W7 b6 #[.int .i64 4, .int .i64 1, .int .i64 12] 28) := by rw [hW7]; exact (blk_kept hv F6_6.out).alloc _
  clear F6_6
  obtain ⟨b7, hb7⟩ : ∃ b, b = v7.heap.size := ⟨_, rfl⟩
  have F7_7 : Hid (Blk W7 b7 #[.int .i64 4, .int .i64 1, .int .i64 16] 28) := by rw [hW7, hb7]; exact blk_new _ _ _
  have HW7 := hide hW7
  clear hv hW7 HB6
  go_wp2_with fail
  rw [← HW7.out]
  refine (H8.out _ HB7.out).mono ?_
  rintro e v8 ⟨rfl, hv⟩
  obtain ⟨W8, hW8⟩ : ∃ W, W = v8.alloc (.cells #[.int .i64 4, .int .i64 1, .int .i64 16] 28) := ⟨_, rfl⟩
  have HB8 : Hid (Below w.heap.size w W8) := by rw [hW8]; have := HB7.out.trans (hv.mono HB7.out.size); exact this.alloc this.size _
  have F0_8 : Hid (Blk W8 b0 #[.int .i64 0, .int .i64 0, .int .i64 0] 28) := by rw [hW8]; exact (blk_kept hv F0_7.out).alloc _
  clear F0_7
  have F1_8 : Hid (Blk W8 b1 #[.int .i64 0, .int .i64 0, .int .i64 0] 28) := by rw [hW8]; exact (blk_kept hv F1_7.out).alloc _
  clear F1_7
  have F2_8 : Hid (Blk W8 b2 #[.int .i64 0, .int .i64 0, .int .i64 0] 28) := by rw [hW8]; exact (blk_kept hv F2_7.out).alloc _
  clear F2_7
  have F3_8 : Hid (Blk W8 b3 #[.int .i64 0, .int .i64 0, .int .i64 0] 28) := by rw [hW8]; exact (blk_kept hv F3_7.out).alloc _
  clear F3_7
  have F4_8 : Hid (Blk W8 b4 #[.int .i64 4, .int .i64 1, .int .i64 14] 28) := by rw [hW8]; exact (blk_kept hv F4_7.out).alloc _
  clear F4_7
  have F5_8 : Hid (Blk W8 b5 #[.int .i64 4, .int .i64 1, .int .i64 12] 28) := by rw [hW8]; exact (blk_kept hv F5_7.out).alloc _
  clear F5_7
  have F6_8 : Hid (Blk W8 b6 #[.int .i64 4, .int .i64 1, .int .i64 12] 28) := by rw [hW8]; exact (blk_kept hv F6_7.out).alloc _
  clear F6_7
  have F7_8 : Hid (Blk W8 b7 #[.int .i64 4, .int .i64 1, .int .i64 16] 28) := by rw [hW8]; exact (blk_kept hv F7_7.out).alloc _
  clear F7_7
  obtain ⟨b8, hb8⟩ : ∃ b, b = v8.heap.size := ⟨_, rfl⟩
  have F8_8 : Hid (Blk W8 b8 #[.int .i64 4, .int .i64 1, .int .i64 16] 28) := by rw [hW8, hb8]; exact blk_new _ _ _
  have HW8 := hide hW8
  clear hv hW8 HB7
  go_upto_region 10 with fail
  rw [← HW8.out]
  rw [← hb0]
  rw [← hb1]
  rw [← hb2]
  rw [← hb3]
  rw [← hb4]
  rw [← hb5]
  rw [← hb6]
  rw [← hb7]
  rw [← hb8]
  obtain ⟨W9, hW9⟩ : ∃ W, W = W8.alloc (.cells #[.int .i64 0, .int .i64 0, .int .i64 0] 28) := ⟨_, rfl⟩
  have HB9 : Hid (Below w.heap.size w W9) := by rw [hW9]; exact HB8.out.alloc HB8.out.size _
  have F0 : Blk W9 b0 #[.int .i64 0, .int .i64 0, .int .i64 0] 28 := by rw [hW9]; exact F0_8.out.alloc _
  have F1 : Blk W9 b1 #[.int .i64 0, .int .i64 0, .int .i64 0] 28 := by rw [hW9]; exact F1_8.out.alloc _
  have F2 : Blk W9 b2 #[.int .i64 0, .int .i64 0, .int .i64 0] 28 := by rw [hW9]; exact F2_8.out.alloc _
  have F3 : Blk W9 b3 #[.int .i64 0, .int .i64 0, .int .i64 0] 28 := by rw [hW9]; exact F3_8.out.alloc _
  have F4 : Blk W9 b4 #[.int .i64 4, .int .i64 1, .int .i64 14] 28 := by rw [hW9]; exact F4_8.out.alloc _
  have F5 : Blk W9 b5 #[.int .i64 4, .int .i64 1, .int .i64 12] 28 := by rw [hW9]; exact F5_8.out.alloc _
  have F6 : Blk W9 b6 #[.int .i64 4, .int .i64 1, .int .i64 12] 28 := by rw [hW9]; exact F6_8.out.alloc _
  have F7 : Blk W9 b7 #[.int .i64 4, .int .i64 1, .int .i64 16] 28 := by rw [hW9]; exact F7_8.out.alloc _
  have F8 : Blk W9 b8 #[.int .i64 4, .int .i64 1, .int .i64 16] 28 := by rw [hW9]; exact F8_8.out.alloc _
  obtain ⟨b9, hb9⟩ : ∃ b, b = W8.heap.size := ⟨_, rfl⟩
  have F9 : Blk W9 b9 #[.int .i64 0, .int .i64 0, .int .i64 0] 28 := by rw [hW9, hb9]; exact blk_new _ _ _
  have k0_0 : W9.cell? ⟨b0, 0, none⟩ = some (.int .i64 0) := F0.cell 0
  have k0_1 : W9.cell? ⟨b0, 1, none⟩ = some (.int .i64 0) := F0.cell 1
  have k0_2 : W9.cell? ⟨b0, 2, none⟩ = some (.int .i64 0) := F0.cell 2
  have l0 := F0.lt
  have k1_0 : W9.cell? ⟨b1, 0, none⟩ = some (.int .i64 0) := F1.cell 0
  have k1_1 : W9.cell? ⟨b1, 1, none⟩ = some (.int .i64 0) := F1.cell 1
  have k1_2 : W9.cell? ⟨b1, 2, none⟩ = some (.int .i64 0) := F1.cell 2
  have l1 := F1.lt
  have k2_0 : W9.cell? ⟨b2, 0, none⟩ = some (.int .i64 0) := F2.cell 0
  have k2_1 : W9.cell? ⟨b2, 1, none⟩ = some (.int .i64 0) := F2.cell 1
  have k2_2 : W9.cell? ⟨b2, 2, none⟩ = some (.int .i64 0) := F2.cell 2
  have l2 := F2.lt
  have k3_0 : W9.cell? ⟨b3, 0, none⟩ = some (.int .i64 0) := F3.cell 0
  have k3_1 : W9.cell? ⟨b3, 1, none⟩ = some (.int .i64 0) := F3.cell 1
  have k3_2 : W9.cell? ⟨b3, 2, none⟩ = some (.int .i64 0) := F3.cell 2
  have l3 := F3.lt
  have k4_0 : W9.cell? ⟨b4, 0, none⟩ = some (.int .i64 4) := F4.cell 0
  have k4_1 : W9.cell? ⟨b4, 1, none⟩ = some (.int .i64 1) := F4.cell 1
  have k4_2 : W9.cell? ⟨b4, 2, none⟩ = some (.int .i64 14) := F4.cell 2
  have l4 := F4.lt
  have k5_0 : W9.cell? ⟨b5, 0, none⟩ = some (.int .i64 4) := F5.cell 0
  have k5_1 : W9.cell? ⟨b5, 1, none⟩ = some (.int .i64 1) := F5.cell 1
  have k5_2 : W9.cell? ⟨b5, 2, none⟩ = some (.int .i64 12) := F5.cell 2
  have l5 := F5.lt
  have k6_0 : W9.cell? ⟨b6, 0, none⟩ = some (.int .i64 4) := F6.cell 0
  have k6_1 : W9.cell? ⟨b6, 1, none⟩ = some (.int .i64 1) := F6.cell 1
  have k6_2 : W9.cell? ⟨b6, 2, none⟩ = some (.int .i64 12) := F6.cell 2
  have l6 := F6.lt
  have k7_0 : W9.cell? ⟨b7, 0, none⟩ = some (.int .i64 4) := F7.cell 0
  have k7_1 : W9.cell? ⟨b7, 1, none⟩ = some (.int .i64 1) := F7.cell 1
  have k7_2 : W9.cell? ⟨b7, 2, none⟩ = some (.int .i64 16) := F7.cell 2
  have l7 := F7.lt
  have k8_0 : W9.cell? ⟨b8, 0, none⟩ = some (.int .i64 4) := F8.cell 0
  have k8_1 : W9.cell? ⟨b8, 1, none⟩ = some (.int .i64 1) := F8.cell 1
  have k8_2 : W9.cell? ⟨b8, 2, none⟩ = some (.int .i64 16) := F8.cell 2
  have l8 := F8.lt
  have k9_0 : W9.cell? ⟨b9, 0, none⟩ = some (.int .i64 0) := F9.cell 0
  have k9_1 : W9.cell? ⟨b9, 1, none⟩ = some (.int .i64 0) := F9.cell 1
  have k9_2 : W9.cell? ⟨b9, 2, none⟩ = some (.int .i64 0) := F9.cell 2
  have l9 := F9.lt
  clear F0 F1 F2 F3 F4 F5 F6 F7 F8 F9 hb0 hb1 hb2 hb3 hb4 hb5 hb6 hb7 hb8
  go_upto_region 11 with fail
  rw [← hW9, ← hb9]
  clear hW9 hb9
  go_wp2_with fail
  go_ret
  exact ⟨rfl, HB9.out⟩
end Go.Proofs.YtghnffdjdjlomaaGreatDoor
