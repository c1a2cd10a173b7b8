/- The law ColumnsIgnored returns true at every input: an ignored line put in, and other characters in columns 1 to 6 and from 73 on, change nothing that is shown but positions, and the chapter's examples hold. Conditions: the listed tables of Go's library hold what the program's text lays (tied); none beyond the form's own (the text can be read as data). -/
import Derived.Test.YtghgakdbfllbeaaDoorCards
import Derived.Test.YtghgakdbfllbeaaDoorTied
import Derived.Test.YtghgakdbfllbeaaDoorIgnL
namespace Go.Proofs.YtghgakdbfllbeaaDoor.columnsIgnored
open Go.ChangeShapes Go.WideShapes Go.ChangeAt Go.RowKit
open Go.ChangeMaps (open_string shut_string)

theorem laidOut : laidOutB Tryd.prog = true := by kernel_rfl
section
variable {H : Type} {enc : TypeId × Value → H}
theorem cells2 : Tryd.prog.cellsOf 51 = 2 := by kernel_rfl
theorem cells1 : Tryd.prog.cellsOf 5 = 1 := by kernel_rfl
set_option maxRecDepth 100000 in
/-- an array of two bytes by value -/
theorem open_at {W : World} {base : Nat} {v : Value} {d : DataW H} {p : List MemPlace} (hval : Value.okWide Tryd.prog W .any base 51 v) (h : DataW.Trod enc Tryd.prog W 0 (fun _ => true) true 51 v d p) :
    ∃ a0 a1 : Int, v = .agg #[.int .u8 a0, .int .u8 a1] ∧ p = [] ∧ 0 ≤ a0 ∧ 0 ≤ a1 ∧ a0 ≤ 255 ∧ a1 ≤ 255 := by
  simp only [Value.okWide, Tryd.underlying51] at hval
  obtain ⟨cs, rfl, h2, _⟩ := hval
  obtain ⟨fuel, hf⟩ := h
  obtain ⟨xs, m, _, hx, hl, hn, hi⟩ := DataW.trod_array Tryd.underlying51 hf
  obtain ⟨cl⟩ := cs
  rw [cells2] at hl
  obtain ⟨c0, c1, rfl⟩ : ∃ c0 c1, cl = [c0, c1] := by
    match cl, hl with
    | [c0, c1], _ => exact ⟨c0, c1, rfl⟩
  obtain ⟨y0, y1, rfl⟩ : ∃ y0 y1, xs = [y0, y1] := by
    match xs, hn with
    | [y0, y1], _ => exact ⟨y0, y1, rfl⟩
  have i0 := hi 0 (by omega)
  have i1 := hi 1 (by omega)
  rw [cells1] at i0 i1
  obtain ⟨a0, e0, z0, w0⟩ := DataW.trod_int Tryd.underlying5 (show _ = some y0 from i0)
  obtain ⟨a1, e1, z1, w1⟩ := DataW.trod_int Tryd.underlying5 (show _ = some y1 from i1)
  have e0' : c0 = .int .u8 a0 := by injection e0
  have e1' : c1 = .int .u8 a1 := by injection e1
  subst e0' e1'
  have b0 := bounds_u8 w0
  have b1 := bounds_u8 w1
  refine ⟨a0, a1, rfl, ?_, b0.1, b1.1, b0.2, b1.2⟩
  injection hx with _ hx
  rw [hx, z0, z1]
  rfl
end
/-- the walk, for every text -/
theorem walk (s e : ByteArray) (a0 a1 : Int) (w : World) (hs : s.size ≤ maxLen) (he : e.size ≤ maxLen) (ha0 : 0 ≤ a0) (ha1 : 0 ≤ a1) (hb0 : a0 ≤ 255) (hb1 : a1 ≤ 255) (htab : Lib.TabIs Tryd.prog w "internal/strconv.uint64pow10" .u64 Lib.pow10Tab) (hmx : MaxI w) :
    Calls Tryd.prog 6 #[.string s, .agg #[.int .u8 a0, .int .u8 a1], .string e] w fun e w' => e = .returned (.bool true) ∧ Below w.heap.size w w' := by
  by_cases h : 2000 < s.size ∨ 6 < e.size
  · exact IgnLaw_far s e a0 a1 w hs he h htab
  · exact IgnLaw_ok s e a0 a1 w (by omega) (by omega) ha0 ha1 hb0 hb1 htab hmx
set_option maxRecDepth 100000 in
theorem contract (H : Type) (enc : TypeId × Value → H) (W : World) (base : Nat) (args : Array Value) (ds gs : List (DataW H)) (before : List MemPlace)
    (hval : ∀ (j : Nat) t v, Tryd.f6.params[j]? = some t → args[j]? = some v → Value.okWide Tryd.prog W .any base t v)
    (hW : DataW.Whole enc Tryd.prog Tryd.f6.params.toList Rows.columnsIgnoredSpec.vars false W args.toList ds gs before) (hL : laidMetH Tryd.prog laidL W) (hsh : W.ShapedOpen Tryd.prog) :
    Calls Tryd.prog 6 args W fun e W' => ∃ v, e = .returned v ∧ Rows.columnsIgnoredSpec.post enc Tryd.prog Tryd.f6 false true false false W args v W' := by
  have hW' := hW
  obtain ⟨p, q, hA0, hV, rfl, hfz, hnd⟩ := hW
  have hA : DataW.TrodAll enc Tryd.prog W 0 (fun _ => true) true Tryd.f6.params.toList args.toList ds p := hA0
  rw [Tryd.params6] at hA hval
  obtain ⟨v0, v1, v2, d0, d1, d2, p0, p1, p2, rfl, rfl, rfl, h0, h1, h2⟩ := trodAll_three hA
  obtain ⟨rfl, rfl⟩ := trodVars_none hV
  obtain ⟨s, rfl, rfl, rfl, hmax⟩ := open_string Tryd.underlying9 (hval 0 9 v0 rfl rfl) h0
  obtain ⟨e, rfl, rfl, rfl, hmax2⟩ := open_string Tryd.underlying9 (hval 2 9 v2 rfl rfl) h2
  obtain ⟨a0, a1, rfl, rfl, ha0, ha1, hb0, hb1⟩ := open_at (hval 1 51 v1 rfl rfl) h1
  clear hA0
  simp only [List.append_nil] at hW'
  refine (walk s e a0 a1 W hmax hmax2 ha0 ha1 hb0 hb1 (pow_tab hL) (maxI hsh)).mono fun e' W' ⟨he, hb⟩ => ?_
  subst he
  exact ⟨_, rfl, _, _, _, [], [], [], hW', trodAll_mk1 (shut_bool Tryd.underlying4 _), trodAll_mk3 (shut_string Tryd.underlying9 hmax) (Below.trod laidOut (by kernel_rfl) (of_decide_eq_true (by kernel_rfl)) h1 hb (fun x hx => by cases hx)) (shut_string Tryd.underlying9 hmax2), rfl, hb.frame _, fun h => by cases h⟩

theorem reads (os : Os) {H : Type} (enc : TypeId × Value → H) : ∃ places, DataW.whole enc Tryd.prog ((World.laidAll Tryd.prog os laidL).forCall (fun _ _ => 0) ⟨#[], #[.string .empty, .agg #[.int .u8 0, .int .u8 0], .string .empty], []⟩).memory Tryd.f6.params.toList Rows.columnsIgnoredSpec.vars false #[Value.string .empty, Value.agg #[.int .u8 0, .int .u8 0], Value.string .empty].toList 8 = some ([.lit (.string []), .agg [.lit (.int .u8 0), .lit (.int .u8 0)], .lit (.string [])], [], places) :=
  ⟨[], by kernel_rfl⟩
set_option maxRecDepth 100000 in
theorem lifted (os : Os) (started : os.Started) (H : Type) (enc : TypeId × Value → H) (F : Stop.Interp) :
    ReturnsInHanded {} Tryd.checked os 6 .any ((OpenSpec.ofChange Rows.columnsIgnoredSpec).preRow enc Tryd.prog Tryd.f6 Rows.columnsIgnoredRow.domain false Rows.columnsIgnoredRow.laid) (((OpenSpec.ofChange Rows.columnsIgnoredSpec).at F).post enc Tryd.prog Tryd.f6 false true false false) := by
  obtain ⟨places, hx⟩ := reads os enc
  refine returnsInHanded_of_row (C := Tryd.checked) (s := OpenSpec.ofChange Rows.columnsIgnoredSpec) own started (by kernel_rfl) Tryd.func6
    (witness_row_at (enc := enc) (C := Tryd.checked) false (World.laidAll Tryd.prog os laidL) #[.string .empty, .agg #[.int .u8 0, .int .u8 0], .string .empty] (World.laidAll_os _ _ _) (by kernel_rfl) (by kernel_rfl) (by kernel_rfl)
      (OpenSpec.preRow_of_cond 8 hx (by kernel_rfl) (fun k hk => by cases hk) (by kernel_rfl) (laid_witness os _))) ?_
  intro W base args ds gs before hval hW _ _ _ hL hsh _
  exact contract H enc W base args ds gs before hval hW hL hsh
theorem said : Rows.ColumnsIgnoredSaid :=
  OpenClaim.holds_of_cond 6 Tryd.f6 rfl rfl rfl rfl rfl rfl rfl ⟨rfl, rfl, rfl, rfl, rfl⟩ rfl rfl rfl rfl rfl (by kernel_rfl) Tryd.func6 (by kernel_rfl)
    (of_decide_eq_true (by kernel_rfl)) (by unfold Func.isWrapper; first | (rw [if_pos (by decide +kernel)]; kernel_rfl) | (rw [if_neg (by decide +kernel)]; exact ⟨rfl, rfl⟩))
    (fun os started H enc _ F => by rw [OpenClaim.pre_eq_preRow]; exact lifted os started H enc F)
/-- no parameter wants a stand-in; the program's own looks are off -/
theorem plain (f : FuncId) (fn : Func) (hf : Tryd.pinned.checked.prog.funcNamed "columnseven/columnsevenlaw02.ColumnsIgnored" = some f) (hfn : Tryd.pinned.checked.prog.funcs[f]? = some fn) :
    false = Tryd.pinned.checked.prog.looks [] ∧ ∀ (j : Nat) t, fn.params[j]? = some t → Tryd.pinned.checked.prog.wantsStandIn t = false := by
  obtain rfl : f = 6 := Option.some.inj ((show Tryd.prog.funcNamed "columnseven/columnsevenlaw02.ColumnsIgnored" = some 6 by kernel_rfl).symm.trans hf) |>.symm
  obtain rfl : fn = Tryd.f6 := (Option.some.inj (Tryd.func6.symm.trans hfn)).symm
  refine ⟨by kernel_rfl, fun j t ht => ?_⟩
  rw [Tryd.params6] at ht
  have hm : t ∈ [9, 51, 9] := by simpa using Array.mem_of_getElem? ht
  have hall : ([9, 51, 9].all fun u => !Tryd.prog.wantsStandIn u) = true := by kernel_rfl
  exact (show Tryd.prog.wantsStandIn t = false by simpa using List.all_eq_true.1 hall t hm)
theorem proved : Rows.ColumnsIgnoredCardSaid :=
  Claim7.holds_tied_plain_at .later [] _ _ _ _ said (fun _ h => by cases h) (by kernel_rfl) (fun _ h => by cases h) columnsIgnored_row_tie rfl ⟨rfl, rfl⟩ (by kernel_rfl) rfl plain (by kernel_rfl)
end Go.Proofs.YtghgakdbfllbeaaDoor.columnsIgnored
