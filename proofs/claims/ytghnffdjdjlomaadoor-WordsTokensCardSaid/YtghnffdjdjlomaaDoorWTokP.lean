/- The law WordsTokens returns true at every input: a Quote has its characters, a figurative constant its byte, other words and kinds are errors, and the chapter's examples hold. Conditions: the listed tables of Go's library hold what the program's text lays (tied); none beyond the form's own (the token can be read as data). -/
import Derived.Test.YtghnffdjdjlomaaDoorCards
import Derived.Test.YtghnffdjdjlomaaDoorTieW
import Derived.Test.YtghnffdjdjlomaaDoorWTok
import Derived.Lib.SmallJoins
import Derived.ChangeSame
namespace Go.Proofs.YtghnffdjdjlomaaDoor.wordsTokens
open Go.ChangeShapes Go.WideShapes Go.ChangeAt Go.RowKit
open Go.ChangeMaps (open_string shut_string)
open Go.Joins (trod_struct4)

theorem laidOut : laidOutB Tryd.prog = true := by kernel_rfl
section
variable {H : Type} {enc : TypeId × Value → H}
theorem cellsTok : Tryd.prog.cellsOf 62 = 5 := by kernel_rfl
theorem cellsKind : Tryd.prog.cellsOf 58 = 1 := by kernel_rfl
theorem cellsStr : Tryd.prog.cellsOf 9 = 1 := by kernel_rfl
theorem cellsPos : Tryd.prog.cellsOf 60 = 2 := by kernel_rfl
theorem cellsInt : Tryd.prog.cellsOf 3 = 1 := by kernel_rfl
theorem cellsBool : Tryd.prog.cellsOf 4 = 1 := by kernel_rfl
set_option maxRecDepth 100000 in
/-- a token that came in -/
theorem open_token {W : World} {base : Nat} {v : Value} {d : DataW H} {p : List MemPlace} (hval : Value.okWide Tryd.prog W .any base 62 v) (h : DataW.Trod enc Tryd.prog W 0 (fun _ => true) true 62 v d p) :
    ∃ (k : Int) (s : ByteArray) (l c : Int) (b : Bool), v = .agg #[.int .u8 k, .string s, .int .i64 l, .int .i64 c, .bool b] ∧ s.size ≤ maxLen := by
  obtain ⟨cs, rfl, hsz⟩ := okWide_struct Tryd.underlying62 hval
  obtain ⟨fuel, hf⟩ := h
  obtain ⟨y0, y1, y2, y3, n, _, hl, h0, h1, h2, h3⟩ := trod_struct4 Tryd.underlying62 hf
  obtain ⟨l⟩ := cs
  rw [cellsTok] at hsz
  match l, hsz with
  | [c0, c1, c2, c3, c4], _ =>
    obtain ⟨k, e0, _, _⟩ := DataW.trod_int Tryd.underlying58 h0
    obtain ⟨s, e1, _, hs⟩ := DataW.trod_string Tryd.underlying9 h1
    obtain ⟨y4, y5, n2, _, hl2, h4, h5⟩ := trod_struct2 Tryd.underlying60 h2
    obtain ⟨l, e2, _, _⟩ := DataW.trod_int Tryd.underlying3 h4
    obtain ⟨c, e3, _, _⟩ := DataW.trod_int Tryd.underlying3 h5
    obtain ⟨b, e4, _⟩ := DataW.trod_bool Tryd.underlying4 h3
    refine ⟨k, s, l, c, b, ?_, hs⟩
    rw [cellsKind] at e0
    rw [cellsStr] at e1
    rw [cellsInt] at e2 e3
    rw [cellsPos] at e2 e3
    rw [cellsBool] at e4
    simp [Value.cells] at e0 e1 e2 e3 e4
    rw [e0, e1, e2, e3, e4]
end
/-- the walk, for every token -/
theorem walk (k : Int) (s : ByteArray) (l c : Int) (b : Bool) (w : World) (hs : s.size ≤ maxLen) (hasc : AscS w) (hmx : MaxW w) :
    Calls Tryd.prog 8 #[.agg #[.int .u8 k, .string s, .int .i64 l, .int .i64 c, .bool b]] w fun e w' => e = .returned (.bool true) ∧ Below w.heap.size w w' := by
  by_cases h : 300 < s.size ∨ k = 2
  · exact TokLaw_far k s l c b w hs h hasc hmx
  · have h3 : s.size ≤ 300 := by omega
    by_cases k3 : k = 3
    · subst k3
      by_cases h0 : s.size = 0
      · exact TokLaw_q0 s l c b w h3 h0 hasc hmx
      · by_cases h1 : 256 < s.size
        · exact TokLaw_q1 s l c b w h3 h1 hasc hmx
        · exact TokLaw_t s l c b w h3 (by omega) (by omega) hasc hmx
    · by_cases k1 : k = 1
      · subst k1
        cases hi : byteB s.data.toList
        · exact TokLaw_w s l c b w h3 hi hasc hmx
        · by_cases h48 : byteN s.data.toList = 48
          · exact TokLaw_z s l c b w h3 hi h48 hasc hmx
          · exact TokLaw_f s l c b w h3 hi h48 hasc hmx
      · exact TokLaw_k s l c b w h3 k k1 (by omega) k3 hasc hmx
set_option maxRecDepth 100000 in
theorem contract (H : Type) (enc : TypeId × Value → H) (W : World) (base : Nat) (args : Array Value) (ds gs : List (DataW H)) (before : List MemPlace)
    (hval : ∀ (j : Nat) t v, Tryd.f8.params[j]? = some t → args[j]? = some v → Value.okWide Tryd.prog W .any base t v)
    (hW : DataW.Whole enc Tryd.prog Tryd.f8.params.toList Rows.wordsTokensSpec.vars false W args.toList ds gs before) (hL : laidMetH Tryd.prog laidW W) (hsh : W.ShapedOpen Tryd.prog) :
    Calls Tryd.prog 8 args W fun e W' => ∃ v, e = .returned v ∧ Rows.wordsTokensSpec.post enc Tryd.prog Tryd.f8 false true false false W args v W' := by
  have hW' := hW
  obtain ⟨p, q, hA0, hV, rfl, hfz, hnd⟩ := hW
  have hA : DataW.TrodAll enc Tryd.prog W 0 (fun _ => true) true Tryd.f8.params.toList args.toList ds p := hA0
  rw [Tryd.params8] at hA hval
  obtain ⟨v0, d0, rfl, rfl, h0⟩ := trodAll_one hA
  obtain ⟨rfl, rfl⟩ := trodVars_none hV
  simp only [List.append_nil] at hW'
  have hlt : ∀ x ∈ p, x.block < W.heap.size := fun x hx => by simpa using hW'.lt x hx
  obtain ⟨k, s, l, c, b, rfl, hs⟩ := open_token (hval 0 62 v0 rfl rfl) h0
  clear hA0
  refine (walk k s l c b W hs (asc_tab hL) (maxW hsh)).mono fun e W' ⟨he, hb⟩ => ?_
  subst he
  exact ⟨_, rfl, _, _, _, [], p, [], hW', trodAll_mk1 (shut_bool Tryd.underlying4 _), trodAll_mk1 (Below.trod laidOut (by kernel_rfl) (of_decide_eq_true (by kernel_rfl)) h0 hb hlt), rfl, hb.frame _, fun h => by cases h⟩

theorem reads (os : Os) {H : Type} (enc : TypeId × Value → H) : ∃ places, DataW.whole enc Tryd.prog ((worldW os).forCall (fun _ _ => 0) ⟨#[], #[.agg #[.int .u8 0, .string .empty, .int .i64 0, .int .i64 0, .bool false]], []⟩).memory Tryd.f8.params.toList Rows.wordsTokensSpec.vars false #[Value.agg #[.int .u8 0, .string .empty, .int .i64 0, .int .i64 0, .bool false]].toList 8 = some ([.agg [.lit (.int .u8 0), .lit (.string []), .agg [.lit (.int .i64 0), .lit (.int .i64 0)], .lit (.bool false)]], [], places) :=
  ⟨[], by kernel_rfl⟩
set_option maxRecDepth 100000 in
theorem lifted (os : Os) (started : os.Started) (H : Type) (enc : TypeId × Value → H) (F : Stop.Interp) :
    ReturnsInHanded {} Tryd.checked os 8 .any ((OpenSpec.ofChange Rows.wordsTokensSpec).preRow enc Tryd.prog Tryd.f8 Rows.wordsTokensRow.domain false Rows.wordsTokensRow.laid) (((OpenSpec.ofChange Rows.wordsTokensSpec).at F).post enc Tryd.prog Tryd.f8 false true false false) := by
  obtain ⟨places, hx⟩ := reads os enc
  refine returnsInHanded_of_row (C := Tryd.checked) (s := OpenSpec.ofChange Rows.wordsTokensSpec) ownW started (by kernel_rfl) Tryd.func8
    (witness_row_atRef (enc := enc) (C := Tryd.checked) false (worldW os) #[.agg #[.int .u8 0, .string .empty, .int .i64 0, .int .i64 0, .bool false]] rfl (by kernel_rfl) (by kernel_rfl) (by kernel_rfl)
      (OpenSpec.preRow_of_cond 8 hx (by kernel_rfl) (fun k hk => by cases hk) (by kernel_rfl) (laidW_witness os _))) ?_
  intro W base args ds gs before hval hW _ _ _ hL hsh _
  exact contract H enc W base args ds gs before hval hW hL hsh
theorem said : Rows.WordsTokensSaid :=
  OpenClaim.holds_of_cond 8 Tryd.f8 rfl rfl rfl rfl rfl rfl rfl ⟨rfl, rfl, rfl, rfl, rfl⟩ rfl rfl rfl rfl rfl (by kernel_rfl) Tryd.func8 (by kernel_rfl)
    (of_decide_eq_true (by kernel_rfl)) (by unfold Func.isWrapper; first | (rw [if_pos (by decide +kernel)]; kernel_rfl) | (rw [if_neg (by decide +kernel)]; exact ⟨rfl, rfl⟩))
    (fun os started H enc _ F => by rw [OpenClaim.pre_eq_preRow]; exact lifted os started H enc F)
/-- no parameter wants a stand-in; the program's own looks are off -/
theorem plain (f : FuncId) (fn : Func) (hf : Tryd.pinned.checked.prog.funcNamed "columnseven/columnsevenlaw05.WordsTokens" = some f) (hfn : Tryd.pinned.checked.prog.funcs[f]? = some fn) :
    false = Tryd.pinned.checked.prog.looks [] ∧ ∀ (j : Nat) t, fn.params[j]? = some t → Tryd.pinned.checked.prog.wantsStandIn t = false := by
  obtain rfl : f = 8 := Option.some.inj ((show Tryd.prog.funcNamed "columnseven/columnsevenlaw05.WordsTokens" = some 8 by kernel_rfl).symm.trans hf) |>.symm
  obtain rfl : fn = Tryd.f8 := (Option.some.inj (Tryd.func8.symm.trans hfn)).symm
  refine ⟨by kernel_rfl, fun j t ht => ?_⟩
  rw [Tryd.params8] at ht
  have hm : t ∈ [62] := by simpa using Array.mem_of_getElem? ht
  have hall : ([62].all fun u => !Tryd.prog.wantsStandIn u) = true := by kernel_rfl
  exact (show Tryd.prog.wantsStandIn t = false by simpa using List.all_eq_true.1 hall t hm)
theorem proved : Rows.WordsTokensCardSaid :=
  Claim7.holds_tied_plain_at .later [] _ _ _ _ said (fun _ h => by cases h) (by kernel_rfl) (fun _ h => by cases h) wordsTokens_row_tie rfl ⟨rfl, rfl⟩ (by kernel_rfl) rfl plain (by kernel_rfl)
end Go.Proofs.YtghnffdjdjlomaaDoor.wordsTokens
