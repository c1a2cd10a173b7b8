/-
  CONTRACTS of numeric and scale (layer 6, pictures).
-/
import Derived.Test.YteceealibfemjaaGreatDoorShpP
namespace Go.Proofs.YteceealibfemjaaGreatDoor
open Go.RowKit Go.Shelf

/-- a string in a box -/
def StBox (w : World) (b : Nat) (s : ByteArray) : Prop := w.heap[b]? = some (.cells #[.string s] 9 (0, 0))
theorem StBox.cell {w : World} {b : Nat} {s : ByteArray} (h : StBox w b s) : w.cell? ⟨b, 0, none⟩ = some (.string s) := cell_of_row w b 0 _ _ _ h
theorem StBox.below {w w' : World} {b : Nat} {s : ByteArray} (h : StBox w b s) (hb : Below w.heap.size w w') : StBox w' b s := (hb.block b (Array.getElem?_eq_some_iff.1 h).1).trans h
/-- the forms in memory -/
def FrmAt (w : World) (b : Nat) : Prop := w.heap[b]? = some (.cells (Pic.forms.map fun l => Value.string (mk l)).toArray 9 (0, 0))
theorem FrmAt.below {w w' : World} {b : Nat} (h : FrmAt w b) (hb : Below w.heap.size w w') : FrmAt w' b := (hb.block b (Array.getElem?_eq_some_iff.1 h).1).trans h
theorem FrmAt.cell {w : World} {b : Nat} (h : FrmAt w b) (k : Nat) (hk : k < Pic.forms.length) : w.cell? ⟨b, k, none⟩ = some (.string (mk Pic.forms[k])) := by
  rw [cell_of_row w b k _ _ _ h, List.getElem?_toArray, List.getElem?_map, List.getElem?_eq_getElem hk]; rfl
theorem forms_small (k : Nat) (hk : k < Pic.forms.length) : Pic.forms[k].length ≤ 1000 := by
  have : ∀ l ∈ Pic.forms, l.length ≤ 1000 := by decide
  exact this _ (List.getElem_mem hk)
set_option maxHeartbeats 1000000 in
theorem num1_c (u form : ByteArray) (b : Nat) (w : World) (hu : u.size ≤ 1000) (hf : form.size ≤ 1000) (hb : StBox w b u) :
    Calls Tryz.prog 31 #[.string form, .pointer (some ⟨b, 0, none⟩)] w fun e w' => e = .returned (.bool (Pic.hasL u.data.toList form.data.toList)) ∧ Below w.heap.size w w' := by
  have c0 := hb.cell
  have HH := hide (has_c u form w hu hf)
  clear hb
  go_enter Tryz.func31, Tryz.ntmps31
  go_wp2_with fail
  refine HH.out.mono ?_
  rintro e w1 ⟨rfl, hb1⟩
  have HB := hide hb1
  clear hb1 c0
  go_wp2_with fail
  go_ret
  exact ⟨rfl, HB.out⟩
def idxF (p : List UInt8 → Bool) : Int := if Pic.forms.any p then (Pic.forms.findIdx p : Int) else -1
theorem idxF_hit (p : List UInt8 → Bool) (k : Nat) (hk : k < Pic.forms.length) (h : ∀ (j : Nat) (hj : j < Pic.forms.length), j < k → p Pic.forms[j] = false) (hp : p Pic.forms[k] = true) : idxF p = k := by
  unfold idxF
  rw [if_pos (List.any_eq_true.2 ⟨_, List.getElem_mem hk, hp⟩)]
  have : Pic.forms.findIdx p = k := by
    rw [List.findIdx_eq hk]
    exact ⟨hp, fun j hj => h j (by omega) hj⟩
  rw [this]
theorem idxF_none (p : List UInt8 → Bool) (h : ∀ (j : Nat) (hj : j < Pic.forms.length), p Pic.forms[j] = false) : idxF p = -1 := by
  unfold idxF
  rw [if_neg]
  intro e
  obtain ⟨x, hx, hpx⟩ := List.any_eq_true.1 e
  obtain ⟨j, hj, rfl⟩ := List.mem_iff_getElem.1 hx
  rw [h j hj] at hpx; cases hpx
theorem idxF_ge (p : List UInt8 → Bool) : decide (0 ≤ idxF p) = Pic.forms.any p := by
  unfold idxF
  cases h : Pic.forms.any p with
  | true => rw [if_pos rfl]; exact decide_eq_true (by omega)
  | false => rw [if_neg (by simp)]; rfl
set_option maxRecDepth 100000 in
set_option maxHeartbeats 2000000 in
theorem IdxS_c (u : ByteArray) (b fb : Nat) (w : World) (hu : u.size ≤ 1000) (hb : StBox w b u) (hf : FrmAt w fb) :
    Calls Tryz.prog 55 #[.slice (some ⟨fb, 0, none⟩) 7 7, .func (.func 31) #[] #[.pointer (some ⟨b, 0, none⟩)]] w fun e w' => e = .returned (.int .i64 (idxF (Pic.hasL u.data.toList))) ∧ Below w.heap.size w w' := by
  have eg : ∀ args w, (callFunc 31 args).run Tryz.prog w = .ok (.enter 31 args) w := enters_of Tryz.func31 (by kernel_rfl) rfl
  obtain ⟨r, hr⟩ : ∃ r, r = idxF (Pic.hasL u.data.toList) := ⟨_, rfl⟩
  rw [← hr]
  have HRr := hide hr
  have HB := hide hb
  have HF := hide hf
  clear hr hb hf
  go_enter Tryz.func55, Tryz.ntmps55
  go_wp2_with fail
  go_loopw [8] (fun i wr => ∃ k : Nat, k ≤ 7 ∧ i = .int .i64 (k : Int) ∧ Hid (∀ (j : Nat) (hj : j < Pic.forms.length), j < k → Pic.hasL u.data.toList Pic.forms[j] = false) ∧ Hid (Below w.heap.size w wr)) (fun i _ => 7 - (intOf i).toNat)
  case atStart => exact ⟨0, by omega, rfl, fun j _ hj => by omega, Below.refl _ _⟩
  case round =>
    obtain ⟨k, hk, rfl, hq, hbl⟩ := hrel
    obtain ⟨X, rfl⟩ : ∃ X, X = wr := ⟨_, rfl⟩
    by_cases hlt : k < 7
    · have hcell : X.cell? ⟨fb, k, none⟩ = some (.string (mk (Pic.forms[k]'(by exact hlt)))) := (HF.out.below hbl.out).cell k hlt
      obtain ⟨fm, hfm⟩ : ∃ fm, fm = mk (Pic.forms[k]'(by exact hlt)) := ⟨_, rfl⟩
      rw [← hfm] at hcell
      have HC := hide (num1_c u fm b X hu (by rw [hfm, mk_sz]; exact forms_small k hlt) (HB.out.below hbl.out))
      obtain ⟨t, ht⟩ : ∃ t, t = Pic.hasL u.data.toList (Pic.forms[k]'(by exact hlt)) := ⟨_, rfl⟩
      rw [hfm, mk_data, ← ht, ← hfm] at HC
      have HT := hide ht
      clear hfm ht
      go_wp2_with fail
      refine HC.out.mono ?_
      rintro e w3 ⟨rfl, hb3⟩
      have HB3 := hide (hbl.out.trans (hb3.mono hbl.out.size))
      clear hb3 HC hcell
      cases t with
      | true =>
        have HE : Hid (r = (k : Int)) := by unfold Hid; rw [HRr.out]; exact idxF_hit _ k hlt hq.out HT.out.symm
        go_wp2_with fail
        go_ret
        exact ⟨by rw [HE.out]; rfl, HB3.out⟩
      | false =>
        have HQ : Hid (∀ (j : Nat) (hj : j < Pic.forms.length), j < k + 1 → Pic.hasL u.data.toList Pic.forms[j] = false) := fun j hj hjk => by
          by_cases e : j = k
          · subst e; exact HT.out.symm
          · exact hq.out j hj (by omega)
        go_wp2_with fail
        go_roundw
        case rel => exact ⟨k + 1, by omega, by go_num, HQ, HB3⟩
        case measure => simp [intOf]; omega
    · have HE : Hid (r = -1) := by
        unfold Hid; rw [HRr.out]
        exact idxF_none _ (fun j hj => hq.out j hj (by have : Pic.forms.length = 7 := rfl; omega))
      go_wp2_with fail
      go_ret
      exact ⟨by rw [HE.out]; rfl, hbl.out⟩
theorem ConS_c (u : ByteArray) (b fb : Nat) (w : World) (hu : u.size ≤ 1000) (hb : StBox w b u) (hf : FrmAt w fb) :
    Calls Tryz.prog 30 #[.slice (some ⟨fb, 0, none⟩) 7 7, .func (.func 31) #[] #[.pointer (some ⟨b, 0, none⟩)]] w fun e w' => e = .returned (.bool (Pic.forms.any (Pic.hasL u.data.toList))) ∧ Below w.heap.size w w' := by
  have HI := hide (IdxS_c u b fb w hu hb hf)
  have HG := hide (idxF_ge (Pic.hasL u.data.toList))
  clear hb hf
  go_enter Tryz.func30, Tryz.ntmps30
  go_wp2_with fail
  refine HI.out.mono ?_
  rintro e w1 ⟨rfl, hb1⟩
  have HB := hide hb1
  clear hb1
  go_wp2_with fail
  go_ret
  exact ⟨ret_bool HG.out, HB.out⟩
set_option maxHeartbeats 2000000 in
theorem scale_c (s : ByteArray) (d : Nat) (w : World) (hs : s.size ≤ 1000) (hd : d ≤ 1000) (he : EnvP w) :
    Calls Tryz.prog 33 #[.string s, .int .i64 (d : Int)] w fun e w' => e = .returned (.int .i64 (Pic.scaL s.data.toList d)) ∧ Below w.heap.size w w' := by
  obtain ⟨r, hr⟩ : ∃ r, r = Pic.scaL s.data.toList d := ⟨_, rfl⟩
  rw [← hr]
  obtain ⟨n, hn⟩ : ∃ n, n = Pic.cnt 80 s.data.toList := ⟨_, rfl⟩
  have HCn : Hid (∀ W, Calls Tryz.prog 17 #[.string s, .string ⟨#[80]⟩] W fun e w' => e = .returned (.int .i64 (n : Int)) ∧ W = w') := fun W => by
    refine (Tryz.strings_Count_one s 80 W).mono fun e w' h => ⟨?_, h.2.symm⟩
    rw [h.1, hn]; rfl
  obtain ⟨b, hb⟩ : ∃ b, b = (Lib.cut s.data.toList [86]).2.1 := ⟨_, rfl⟩
  have hbl : b.length ≤ 1000 := by
    have := Pic.cut_join s.data.toList 86
    rw [hb]
    rcases this with ⟨_, h⟩ | ⟨_, _, h⟩
    · have := congrArg List.length h
      rw [List.length_append, List.length_cons, len_data] at this; omega
    · rw [h]; simp
  obtain ⟨B, hB⟩ : ∃ B, B = mk b := ⟨_, rfl⟩
  have hBs : B.size = b.length := by rw [hB, mk_sz]
  have HCut : Hid (∃ a d, Calls Tryz.prog 51 #[.string s, .string ⟨#[86]⟩] w fun e w' => e = .returned (.tuple #[.string a, .string B, .bool d]) ∧ ∃ n, w' = w.drewN n) := by
    obtain ⟨m, hm⟩ := he.max
    refine ⟨mk (Lib.cut s.data.toList [86]).1, (Lib.cut s.data.toList [86]).2.2, (Tryz.strings_Cut s ⟨#[86]⟩ m w (by omega) hm).mono fun e w' h => ⟨?_, h.2⟩⟩
    rw [h.1, hB, hb]; rfl
  obtain ⟨t, ht⟩ : ∃ t, t = Lib.hasSuffix s.data.toList [57] := ⟨_, rfl⟩
  have HSu : Hid (∀ W, Calls Tryz.prog 37 #[.string s, .string ⟨#[57]⟩] W fun e w' => e = .returned (.bool t) ∧ W = w') := fun W => by
    refine (Tryz.strings_HasSuffix s ⟨#[57]⟩ W (by omega)).mono fun e w' h => ⟨?_, h.2.symm⟩
    rw [h.1, ht]
  have hn1 : n ≤ 1000 := by
    rw [hn]; unfold Pic.cnt Lib.countByte
    have := List.count_le_length (a := (80 : UInt8)) (l := s.data.toList)
    rw [len_data] at this; omega
  have HX : Hid (r = if n = 0 then (b.length : Int) else if t = true then ((d + n : Nat) : Int) else -(n : Int)) := by
    unfold Hid; rw [hr, hn, hb, ht]; rfl
  have HBs := hide hBs
  clear hr hn hb hB ht hbl he hBs
  by_cases h0 : n = 0
  · have hz : ((n : Int) == 0) = true := by rw [h0]; rfl
    have HX1 : Hid (r = (B.size : Int)) := by unfold Hid; rw [HX.out, if_pos h0, HBs.out]
    obtain ⟨a, dd, hcut⟩ := HCut.out
    have HC2 := hide hcut
    have HN := hide h0
    clear HX hcut HCut h0
    go_enter Tryz.func33, Tryz.ntmps33
    go_wp2_with fail
    refine (HCn.out _).mono ?_
    rintro e w' ⟨rfl, rfl⟩
    go_wp2_with fail
    refine HC2.out.mono ?_
    rintro e w' ⟨rfl, q, rfl⟩
    go_wp2_with fail
    go_ret
    exact ⟨by rw [HX1.out]; rfl, below_drewN' (Below.refl _ _) _⟩
  · have hz : ((n : Int) == 0) = false := beq_eq_false_iff_ne.2 (by omega)
    have HX1 : Hid (r = if t = true then ((d + n : Nat) : Int) else -(n : Int)) := by unfold Hid; rw [HX.out, if_neg h0]
    clear HX HCut
    cases t with
    | true =>
      have HX2 : Hid (r = (d : Int) + n) := by unfold Hid; rw [HX1.out, if_pos rfl]; omega
      clear HX1
      go_enter Tryz.func33, Tryz.ntmps33
      go_wp2_with fail
      refine (HCn.out _).mono ?_
      rintro e w' ⟨rfl, rfl⟩
      go_wp2_with fail
      refine (HSu.out _).mono ?_
      rintro e w' ⟨rfl, rfl⟩
      go_wp2_with fail
      go_ret
      exact ⟨by rw [HX2.out]; rfl, Below.refl _ _⟩
    | false =>
      have HX2 : Hid (r = -(n : Int)) := by unfold Hid; rw [HX1.out, if_neg (by simp)]
      clear HX1
      go_enter Tryz.func33, Tryz.ntmps33
      go_wp2_with fail
      refine (HCn.out _).mono ?_
      rintro e w' ⟨rfl, rfl⟩
      go_wp2_with fail
      refine (HSu.out _).mono ?_
      rintro e w' ⟨rfl, rfl⟩
      go_wp2_with fail
      go_ret
      exact ⟨by rw [HX2.out]; rfl, Below.refl _ _⟩
set_option maxRecDepth 100000 in
set_option maxHeartbeats 4000000 in
theorem numeric_c (s : ByteArray) (w : World) (hs : s.size ≤ 1000) (he : EnvP w) :
    Calls Tryz.prog 15 #[.string s] w (FrmPost (Pic.numL s.data.toList) w) := by
  obtain ⟨u, hu⟩ : ∃ u, u = Lib.trimPrefix s.data.toList [83] := ⟨_, rfl⟩
  obtain ⟨sg, hsg⟩ : ∃ sg, sg = Lib.hasPrefix s.data.toList [83] := ⟨_, rfl⟩
  obtain ⟨U, hU⟩ : ∃ U, U = mk u := ⟨_, rfl⟩
  have hul : u.length ≤ 1000 := by
    have := trim_len s.data.toList [83]
    rw [hu]; rw [len_data] at this; omega
  have hUs : U.size ≤ 1000 := by rw [hU, mk_sz]; exact hul
  have HCP : Hid (∀ W', Calls Tryz.prog 29 #[.string s, .string ⟨#[83]⟩] W' fun e w' => e = .returned (.tuple #[.string U, .bool sg]) ∧ W' = w') := fun W' => by
    refine (Tryz.strings_CutPrefix s ⟨#[83]⟩ W').mono fun e w' h => ⟨?_, h.2.symm⟩
    rw [h.1, hU, hu, hsg]; rfl
  obtain ⟨n, hn⟩ : ∃ n, n = Pic.cnt 57 s.data.toList := ⟨_, rfl⟩
  have hn1 : n ≤ 1000 := by have := cnt_le 57 s.data.toList; rw [len_data] at this; omega
  have HCn : Hid (∀ W, Calls Tryz.prog 17 #[.string s, .string ⟨#[57]⟩] W fun e w' => e = .returned (.int .i64 (n : Int)) ∧ W = w') := fun W => by
    refine (Tryz.strings_Count_one s 57 W).mono fun e w' h => ⟨?_, h.2.symm⟩
    rw [h.1, hn]; rfl
  obtain ⟨t, ht⟩ : ∃ t, t = Pic.forms.any (Pic.hasL u) := ⟨_, rfl⟩
  have HCon : Hid (∀ W b fb, StBox W b U → FrmAt W fb → Calls Tryz.prog 30 #[.slice (some ⟨fb, 0, none⟩) 7 7, .func (.func 31) #[] #[.pointer (some ⟨b, 0, none⟩)]] W fun e w' => e = .returned (.bool t) ∧ Below W.heap.size W w') := fun W b fb h1 h2 => by
    have := ConS_c U b fb W hUs h1 h2
    rw [hU, mk_data, ← ht] at this
    exact this
  obtain ⟨sc, hsc⟩ : ∃ sc, sc = Pic.scaL u n := ⟨_, rfl⟩
  have HSc : Hid (∀ W, Below w.heap.size w W → Calls Tryz.prog 33 #[.string U, .int .i64 (n : Int)] W fun e w' => e = .returned (.int .i64 sc) ∧ Below W.heap.size W w') := fun W hb => by
    have := scale_c U n W hUs hn1 (he.below hb)
    rw [hU, mk_data, ← hsc] at this
    rw [hU]; exact this
  have HX : Hid (Pic.numL s.data.toList = if t = true then some ⟨4, n, sc, sg, n⟩ else none) := by
    unfold Hid Pic.numL Pic.numB
    rw [hsc, ht, hu, hsg, hn]
  clear hu hsg hU hul hn ht hsc he
  obtain ⟨W0, hW0⟩ : ∃ W0, W0 = w.alloc (.cells (shpC 0 ⟨#[]⟩ 0 0 false 0) 28) := ⟨_, rfl⟩
  have HB0 : Hid (Below w.heap.size w W0) := by unfold Hid; rw [hW0]; exact below1 w _
  have HK0 : Hid (ShpB W0 w.heap.size (shpC 0 ⟨#[]⟩ 0 0 false 0)) := by unfold Hid; rw [hW0]; exact heap_alloc_new w _
  unfold shpC at hW0
  go_enter Tryz.func15, Tryz.ntmps15
  go_wp2_with fail
  with_reducible rw [← hW0]
  clear hW0
  refine (HCP.out _).mono ?_
  rintro e w' ⟨rfl, rfl⟩
  go_upto_region 3 with fail
  obtain ⟨W1, hW1⟩ : ∃ W1, W1 = W0.alloc (.cells #[.string U] 9) := ⟨_, rfl⟩
  have hz1 : W1.heap.size = W0.heap.size + 1 := by rw [hW1]; simp
  have hs1 : StBox W1 W0.heap.size U := by rw [hW1]; exact heap_alloc_new W0 _
  have hb1 : Below W0.heap.size W0 W1 := by rw [hW1]; exact below1 W0 _
  with_reducible rw [← hW1]
  obtain ⟨W2, hW2⟩ : ∃ W2, W2 = W1.alloc (.cells #[.string ⟨#[57, 57, 35]⟩, .string ⟨#[57, 57, 35, 86, 57, 35]⟩, .string ⟨#[86, 57, 57, 35]⟩, .string ⟨#[86, 80, 80, 35, 57, 57, 35]⟩, .string ⟨#[80, 80, 35, 57, 57, 35]⟩, .string ⟨#[57, 57, 35, 80, 80, 35]⟩, .string ⟨#[57, 57, 35, 80, 80, 35, 86]⟩] 9) := ⟨_, rfl⟩
  have hb2 : Below W1.heap.size W1 W2 := by rw [hW2]; exact below1 W1 _
  have hs2 : StBox W2 W0.heap.size U := hs1.below hb2
  have hf2 : FrmAt W2 W1.heap.size := by rw [hW2]; exact heap_alloc_new W1 _
  have hz1' : W0.heap.size + 1 = W1.heap.size := hz1.symm
  try with_reducible rw [hz1']
  with_reducible rw [← hW2]
  have HB2 : Hid (Below W0.heap.size W0 W2) := hb1.trans (hb2.mono hb1.size)
  have HS2 := hide hs2
  have HF2 := hide hf2
  clear hW1 hW2 hb1 hb2 hs1 hs2 hf2 hz1 hz1'
  go_wp2_with fail
  refine (HCon.out W2 _ _ HS2.out HF2.out).mono ?_
  rintro e W3 ⟨rfl, hb3⟩
  have HB3 : Hid (Below W0.heap.size W0 W3) := HB2.out.trans (hb3.mono HB2.out.size)
  have HS3 := hide (HS2.out.below hb3)
  have HW3 := hide (HB0.out.trans (HB3.out.mono HB0.out.size))
  have HK3 := hide (HK0.out.below HB3.out)
  clear hb3 HCon HS2 HF2 HB2 HK0
  cases t with
  | false =>
    have HX1 : Hid (Pic.numL s.data.toList = none) := by unfold Hid; rw [HX.out, if_neg (by simp)]
    clear HX
    go_wp2_with (refine wpList_store_row rfl 28 _ _ rfl w.heap.size (shpC 0 ⟨#[]⟩ 0 0 false 0) rfl rfl 28 _ HK3.out (shp_info _ _ _ _ _ _) rfl (shp_one _ _ _ _ _ _) ?_)
    obtain ⟨W4, hW4⟩ : ∃ W4, W4 = W3.setRow w.heap.size (shpC 0 ⟨#[]⟩ 0 0 false 0) := ⟨_, rfl⟩
    have hsh : ShpB W4 w.heap.size (shpC 0 ⟨#[]⟩ 0 0 false 0) := by rw [hW4]; exact HK3.out.set _
    obtain ⟨d0, d1, d2, d3, d4, d5, d6, d7, d8, d9, d10⟩ := hsh.cells
    have HB4 : Hid (Below w.heap.size w W4) := by unfold Hid; rw [hW4]; exact below_setRow HW3.out (Nat.le_refl _) _
    with_reducible rw [← hW4]
    clear hW4
    refine bodyPost_ret (v := .tuple #[.agg (shpC 0 ⟨#[]⟩ 0 0 false 0), .bool false]) (by simp [results, Tryz.results15, go_sem, d0, d1, d2, d3, d4, d5, d6, d7, d8, d9, d10, shpC]) rfl ⟨?_, HB4.out⟩
    rw [HX1.out]; rfl
  | true =>
    have HX1 : Hid (Pic.numL s.data.toList = some ⟨4, n, sc, sg, n⟩) := by unfold Hid; rw [HX.out, if_pos rfl]
    have cu := HS3.out.cell
    clear HX
    go_wp2_with fail
    refine (HCn.out _).mono ?_
    rintro e w' ⟨rfl, rfl⟩
    go_wp2_with fail
    refine (HSc.out _ HW3.out).mono ?_
    rintro e W4 ⟨rfl, hb4⟩
    have HK4 := hide (HK3.out.below hb4)
    have HW4 := hide (HW3.out.trans (hb4.mono HW3.out.size))
    clear hb4 cu
    go_wp2_with (refine wpList_store_row rfl 28 _ _ rfl w.heap.size (shpC 4 ⟨#[]⟩ n sc sg n) rfl rfl 28 _ HK4.out (shp_info _ _ _ _ _ _) rfl (shp_one _ _ _ _ _ _) ?_)
    obtain ⟨W5, hW5⟩ : ∃ W5, W5 = W4.setRow w.heap.size (shpC 4 ⟨#[]⟩ n sc sg n) := ⟨_, rfl⟩
    have hsh : ShpB W5 w.heap.size (shpC 4 ⟨#[]⟩ n sc sg n) := by rw [hW5]; exact HK4.out.set _
    obtain ⟨d0, d1, d2, d3, d4, d5, d6, d7, d8, d9, d10⟩ := hsh.cells
    have HB5 : Hid (Below w.heap.size w W5) := by unfold Hid; rw [hW5]; exact below_setRow HW4.out (Nat.le_refl _) _
    with_reducible rw [← hW5]
    clear hW5
    refine bodyPost_ret (v := .tuple #[.agg (shpC 4 ⟨#[]⟩ n sc sg n), .bool true]) (by simp [results, Tryz.results15, go_sem, d0, d1, d2, d3, d4, d5, d6, d7, d8, d9, d10, shpC]) rfl ⟨?_, HB5.out⟩
    rw [HX1.out]; rfl
end Go.Proofs.YteceealibfemjaaGreatDoor
