/- The law PicturesSize returns true at every input: the bytes of a shape are as the reference counts them, the errors are the ones it names, and the chapter's examples hold. Conditions: the listed tables hold what the program's text lays (tied); none beyond the form's own (the value can be read as data). -/
import Derived.Test.YthdggnkpncoikaaGreatDoorCards
import Derived.Test.YthdggnkpncoikaaGreatDoorTieP
import Derived.Test.YthdggnkpncoikaaGreatDoorSzL
import Derived.Lib.SmallJoins
import Derived.ChangeSame
namespace Go.Proofs.YthdggnkpncoikaaGreatDoor.picturesSize
open Go.ChangeShapes Go.WideShapes Go.ChangeAt Go.RowKit
open Go.ChangeMaps (open_string shut_string)

theorem laidOut : laidOutB Tryz.prog = true := by kernel_rfl
section
variable {H : Type} {enc : TypeId × Value → H}
theorem cellsSh : Tryz.prog.cellsOf 33 = 11 := by kernel_rfl
theorem cellsCat : Tryz.prog.cellsOf 30 = 1 := by kernel_rfl
theorem cellsUsg : Tryz.prog.cellsOf 31 = 1 := by kernel_rfl
theorem cellsStr : Tryz.prog.cellsOf 9 = 1 := by kernel_rfl
theorem cellsInt : Tryz.prog.cellsOf 3 = 1 := by kernel_rfl
theorem cellsBln : Tryz.prog.cellsOf 4 = 1 := by kernel_rfl
set_option maxRecDepth 100000 in
/-- a value of type Shape that came in -/
theorem open_sh {W : World} {base : Nat} {v : Value} {d : DataW H} {p : List MemPlace} (hval : Value.okWide Tryz.prog W .any base 33 v) (h : DataW.Trod enc Tryz.prog W 0 (fun _ => true) true 33 v d p) :
    ∃ (c us : Int) (pic : ByteArray) (d sc : Int) (sg ld sep ju bl : Bool) (n : Int), v = .agg #[.int .u8 c, .int .u8 us, .string pic, .int .i64 d, .int .i64 sc, .bool sg, .bool ld, .bool sep, .bool ju, .bool bl, .int .i64 n] ∧ 0 ≤ c ∧ c ≤ 255 ∧ 0 ≤ us ∧ us ≤ 255 ∧ pic.size ≤ maxLen := by
  obtain ⟨cs, rfl, hsz⟩ := okWide_struct Tryz.underlying33 hval
  obtain ⟨fuel, hf⟩ := h
  obtain ⟨xs, n, _, _, hl, hlen, hg⟩ := DataW.trod_struct Tryz.underlying33 hf
  have hn : xs.length = 11 := by simpa using hlen
  match xs, hn with
  | [y0, y1, y2, y3, y4, y5, y6, y7, y8, y9, y10], _ =>
    have h0 := hg 0 _ rfl
    have h1 := hg 1 _ rfl
    have h2 := hg 2 _ rfl
    have h3 := hg 3 _ rfl
    have h4 := hg 4 _ rfl
    have h5 := hg 5 _ rfl
    have h6 := hg 6 _ rfl
    have h7 := hg 7 _ rfl
    have h8 := hg 8 _ rfl
    have h9 := hg 9 _ rfl
    have h10 := hg 10 _ rfl
    obtain ⟨l⟩ := cs
    rw [cellsSh] at hsz
    match l, hsz with
    | [c0, c1, c2, c3, c4, c5, c6, c7, c8, c9, c10], _ =>
      obtain ⟨cv, e0, _, w0⟩ := DataW.trod_int Tryz.underlying30 h0
      obtain ⟨usv, e1, _, w1⟩ := DataW.trod_int Tryz.underlying31 h1
      obtain ⟨picv, e2, _, w2⟩ := DataW.trod_string Tryz.underlying9 h2
      obtain ⟨dv, e3, _, w3⟩ := DataW.trod_int Tryz.underlying3 h3
      obtain ⟨scv, e4, _, w4⟩ := DataW.trod_int Tryz.underlying3 h4
      obtain ⟨sgv, e5, _⟩ := DataW.trod_bool Tryz.underlying4 h5
      obtain ⟨ldv, e6, _⟩ := DataW.trod_bool Tryz.underlying4 h6
      obtain ⟨sepv, e7, _⟩ := DataW.trod_bool Tryz.underlying4 h7
      obtain ⟨juv, e8, _⟩ := DataW.trod_bool Tryz.underlying4 h8
      obtain ⟨blv, e9, _⟩ := DataW.trod_bool Tryz.underlying4 h9
      obtain ⟨nv, e10, _, w10⟩ := DataW.trod_int Tryz.underlying3 h10
      have b0 : 0 ≤ cv ∧ cv ≤ 255 := by simp only [Lit.wf, Bool.and_eq_true, decide_eq_true_eq] at w0; exact w0
      have b1 : 0 ≤ usv ∧ usv ≤ 255 := by simp only [Lit.wf, Bool.and_eq_true, decide_eq_true_eq] at w1; exact w1
      refine ⟨cv, usv, picv, dv, scv, sgv, ldv, sepv, juv, blv, nv, ?_, b0.1, b0.2, b1.1, b1.2, w2⟩
      change List.take (Tryz.prog.cellsOf 30) (List.drop 0 [c0, c1, c2, c3, c4, c5, c6, c7, c8, c9, c10]) = _ at e0
      change List.take (Tryz.prog.cellsOf 31) (List.drop 1 [c0, c1, c2, c3, c4, c5, c6, c7, c8, c9, c10]) = _ at e1
      change List.take (Tryz.prog.cellsOf 9) (List.drop 2 [c0, c1, c2, c3, c4, c5, c6, c7, c8, c9, c10]) = _ at e2
      change List.take (Tryz.prog.cellsOf 3) (List.drop 3 [c0, c1, c2, c3, c4, c5, c6, c7, c8, c9, c10]) = _ at e3
      change List.take (Tryz.prog.cellsOf 3) (List.drop 4 [c0, c1, c2, c3, c4, c5, c6, c7, c8, c9, c10]) = _ at e4
      change List.take (Tryz.prog.cellsOf 4) (List.drop 5 [c0, c1, c2, c3, c4, c5, c6, c7, c8, c9, c10]) = _ at e5
      change List.take (Tryz.prog.cellsOf 4) (List.drop 6 [c0, c1, c2, c3, c4, c5, c6, c7, c8, c9, c10]) = _ at e6
      change List.take (Tryz.prog.cellsOf 4) (List.drop 7 [c0, c1, c2, c3, c4, c5, c6, c7, c8, c9, c10]) = _ at e7
      change List.take (Tryz.prog.cellsOf 4) (List.drop 8 [c0, c1, c2, c3, c4, c5, c6, c7, c8, c9, c10]) = _ at e8
      change List.take (Tryz.prog.cellsOf 4) (List.drop 9 [c0, c1, c2, c3, c4, c5, c6, c7, c8, c9, c10]) = _ at e9
      change List.take (Tryz.prog.cellsOf 3) (List.drop 10 [c0, c1, c2, c3, c4, c5, c6, c7, c8, c9, c10]) = _ at e10
      rw [cellsCat] at e0
      rw [cellsUsg] at e1
      rw [cellsStr] at e2
      rw [cellsInt] at e3
      rw [cellsInt] at e4
      rw [cellsBln] at e5
      rw [cellsBln] at e6
      rw [cellsBln] at e7
      rw [cellsBln] at e8
      rw [cellsBln] at e9
      rw [cellsInt] at e10
      simp [Value.cells] at e0 e1 e2 e3 e4 e5 e6 e7 e8 e9 e10
      rw [e0, e1, e2, e3, e4, e5, e6, e7, e8, e9, e10]
end
set_option maxRecDepth 100000 in
theorem contract (H : Type) (enc : TypeId × Value → H) (W : World) (base : Nat) (args : Array Value) (ds gs : List (DataW H)) (before : List MemPlace)
    (hval : ∀ (j : Nat) t v, Tryz.f6.params[j]? = some t → args[j]? = some v → Value.okWide Tryz.prog W .any base t v)
    (hW : DataW.Whole enc Tryz.prog Tryz.f6.params.toList Rows.picturesSizeSpec.vars false W args.toList ds gs before) (hL : laidMetH Tryz.prog laidP W) (hsh : W.ShapedOpen Tryz.prog) :
    Calls Tryz.prog 6 args W fun e W' => ∃ v, e = .returned v ∧ Rows.picturesSizeSpec.post enc Tryz.prog Tryz.f6 false true false false W args v W' := by
  have hW' := hW
  obtain ⟨p, q, hA0, hV, rfl, hfz, hnd⟩ := hW
  have hA : DataW.TrodAll enc Tryz.prog W 0 (fun _ => true) true Tryz.f6.params.toList args.toList ds p := hA0
  rw [Tryz.params6] at hA hval
  obtain ⟨v0, d0, rfl, rfl, h0⟩ := trodAll_one hA
  obtain ⟨rfl, rfl⟩ := trodVars_none hV
  simp only [List.append_nil] at hW'
  have hlt : ∀ x ∈ p, x.block < W.heap.size := fun x hx => by simpa using hW'.lt x hx
  obtain ⟨c, us, pic, d, sc, sg, ld, sep, ju, bl, n, rfl, hc0, hc1, hu0, hu1, hp⟩ := open_sh (hval 0 33 v0 rfl rfl) h0
  clear hA0
  refine (SizLaw c us pic d sc sg ld sep ju bl n W hc0 hc1 hu0 hu1 hp (envP hL hsh)).mono fun e W' ⟨he, hb⟩ => ?_
  subst he
  exact ⟨_, rfl, _, _, _, [], p, [], hW', trodAll_mk1 (shut_bool Tryz.underlying4 _), trodAll_mk1 (Below.trod laidOut (by kernel_rfl) (of_decide_eq_true (by kernel_rfl)) h0 hb hlt), rfl, hb.frame _, fun h => by cases h⟩

theorem reads (os : Os) {H : Type} (enc : TypeId × Value → H) : ∃ places, DataW.whole enc Tryz.prog ((worldP os).forCall (fun _ _ => 0) ⟨#[], #[.agg #[.int .u8 0, .int .u8 0, .string .empty, .int .i64 0, .int .i64 0, .bool false, .bool false, .bool false, .bool false, .bool false, .int .i64 0]], []⟩).memory Tryz.f6.params.toList Rows.picturesSizeSpec.vars false #[Value.agg #[.int .u8 0, .int .u8 0, .string .empty, .int .i64 0, .int .i64 0, .bool false, .bool false, .bool false, .bool false, .bool false, .int .i64 0]].toList 8 = some ([.agg [.lit (.int .u8 0), .lit (.int .u8 0), .lit (.string []), .lit (.int .i64 0), .lit (.int .i64 0), .lit (.bool false), .lit (.bool false), .lit (.bool false), .lit (.bool false), .lit (.bool false), .lit (.int .i64 0)]], [], places) :=
  ⟨[], by kernel_rfl⟩
set_option maxRecDepth 100000 in
theorem lifted (os : Os) (started : os.Started) (H : Type) (enc : TypeId × Value → H) (F : Stop.Interp) :
    ReturnsInHanded {} Tryz.checked os 6 .any ((OpenSpec.ofChange Rows.picturesSizeSpec).preRow enc Tryz.prog Tryz.f6 Rows.picturesSizeRow.domain false Rows.picturesSizeRow.laid) (((OpenSpec.ofChange Rows.picturesSizeSpec).at F).post enc Tryz.prog Tryz.f6 false true false false) := by
  obtain ⟨places, hx⟩ := reads os enc
  refine returnsInHanded_of_row (C := Tryz.checked) (s := OpenSpec.ofChange Rows.picturesSizeSpec) ownP started (by kernel_rfl) Tryz.func6
    (witness_row_atRef (enc := enc) (C := Tryz.checked) false (worldP os) #[.agg #[.int .u8 0, .int .u8 0, .string .empty, .int .i64 0, .int .i64 0, .bool false, .bool false, .bool false, .bool false, .bool false, .int .i64 0]] rfl (by kernel_rfl) (by kernel_rfl) (by kernel_rfl)
      (OpenSpec.preRow_of_cond 8 hx (by kernel_rfl) (fun k hk => by cases hk) (by kernel_rfl) (laidP_witness os _))) ?_
  intro W base args ds gs before hval hW _ _ _ hL hsh _
  exact contract H enc W base args ds gs before hval hW hL hsh
theorem said : Rows.PicturesSizeSaid :=
  OpenClaim.holds_of_cond 6 Tryz.f6 rfl rfl rfl rfl rfl rfl rfl ⟨rfl, rfl, rfl, rfl, rfl⟩ rfl rfl rfl rfl rfl (by kernel_rfl) Tryz.func6 (by kernel_rfl)
    (of_decide_eq_true (by kernel_rfl)) (by unfold Func.isWrapper; first | (rw [if_pos (by decide +kernel)]; kernel_rfl) | (rw [if_neg (by decide +kernel)]; exact ⟨rfl, rfl⟩))
    (fun os started H enc _ F => by rw [OpenClaim.pre_eq_preRow]; exact lifted os started H enc F)
/-- no parameter wants a stand-in; the program's own looks are on -/
theorem plain (f : FuncId) (fn : Func) (hf : Tryz.pinned.checked.prog.funcNamed "columnseven/columnsevenlaw06.PicturesSize" = some f) (hfn : Tryz.pinned.checked.prog.funcs[f]? = some fn) :
    true = Tryz.pinned.checked.prog.looks [] ∧ ∀ (j : Nat) t, fn.params[j]? = some t → Tryz.pinned.checked.prog.wantsStandIn t = false := by
  obtain rfl : f = 6 := Option.some.inj ((show Tryz.prog.funcNamed "columnseven/columnsevenlaw06.PicturesSize" = some 6 by kernel_rfl).symm.trans hf) |>.symm
  obtain rfl : fn = Tryz.f6 := (Option.some.inj (Tryz.func6.symm.trans hfn)).symm
  refine ⟨by kernel_rfl, fun j t ht => ?_⟩
  rw [Tryz.params6] at ht
  have hm : t ∈ [33] := by simpa using Array.mem_of_getElem? ht
  have hall : ([33].all fun u => !Tryz.prog.wantsStandIn u) = true := by kernel_rfl
  exact (show Tryz.prog.wantsStandIn t = false by simpa using List.all_eq_true.1 hall t hm)
theorem proved : Rows.PicturesSizeCardSaid :=
  Claim7.holds_tied_plain_at .later [] _ _ _ _ said (fun _ h => by cases h) (by kernel_rfl) (fun _ h => by cases h) picturesSize_row_tie rfl ⟨rfl, rfl⟩ (by kernel_rfl) rfl plain (by kernel_rfl)
end Go.Proofs.YthdggnkpncoikaaGreatDoor.picturesSize
