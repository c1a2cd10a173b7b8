/- The law WordsLiteral returns true at every input: a number has the field of its digits, its sign in the last byte and its period in the picture only; without the sign only the last byte and the S differ; and the chapter's examples hold. Conditions: the listed tables of Go's library hold what the program's text lays (tied); none beyond the form's own (the value can be read as data). -/
import Derived.Test.YtghnffdjdjlomaaDoorCards
import Derived.Test.YtghnffdjdjlomaaDoorTieW
import Derived.Test.YtghnffdjdjlomaaDoorWLc
import Derived.Lib.SmallJoins
import Derived.ChangeSame
namespace Go.Proofs.YtghnffdjdjlomaaDoor.wordsLiteral
open Go.ChangeShapes Go.WideShapes Go.ChangeAt Go.RowKit
open Go.ChangeMaps (open_string shut_string)

theorem laidOut : laidOutB Tryd.prog = true := by kernel_rfl
section
variable {H : Type} {enc : TypeId × Value → H}
theorem cellsN : Tryd.prog.cellsOf 47 = 3 := by kernel_rfl
theorem cellsU8 : Tryd.prog.cellsOf 5 = 1 := by kernel_rfl
theorem cellsStr : Tryd.prog.cellsOf 9 = 1 := by kernel_rfl
set_option maxRecDepth 100000 in
/-- a value of type N that came in -/
theorem open_n {W : World} {base : Nat} {v : Value} {d : DataW H} {p : List MemPlace} (hval : Value.okWide Tryd.prog W .any base 47 v) (h : DataW.Trod enc Tryd.prog W 0 (fun _ => true) true 47 v d p) :
    ∃ (k : Int) (x y : ByteArray), v = .agg #[.int .u8 k, .string x, .string y] ∧ x.size ≤ maxLen ∧ y.size ≤ maxLen := by
  obtain ⟨cs, rfl, hsz⟩ := okWide_struct Tryd.underlying47 hval
  obtain ⟨fuel, hf⟩ := h
  obtain ⟨xs, n, _, _, hl, hlen, hg⟩ := DataW.trod_struct Tryd.underlying47 hf
  have hn : xs.length = 3 := by simpa using hlen
  match xs, hn with
  | [y0, y1, y2], _ =>
    have h0 := hg 0 _ rfl
    have h1 := hg 1 _ rfl
    have h2 := hg 2 _ rfl
    obtain ⟨l⟩ := cs
    rw [cellsN] at hsz
    match l, hsz with
    | [c0, c1, c2], _ =>
      obtain ⟨k, e0, _, _⟩ := DataW.trod_int Tryd.underlying5 h0
      obtain ⟨x, e1, _, hx⟩ := DataW.trod_string Tryd.underlying9 h1
      obtain ⟨y, e2, _, hy⟩ := DataW.trod_string Tryd.underlying9 h2
      refine ⟨k, x, y, ?_, hx, hy⟩
      change List.take (Tryd.prog.cellsOf 5) (List.drop 0 [c0, c1, c2]) = _ at e0
      change List.take (Tryd.prog.cellsOf 9) (List.drop 1 [c0, c1, c2]) = _ at e1
      change List.take (Tryd.prog.cellsOf 9) (List.drop 2 [c0, c1, c2]) = _ at e2
      rw [cellsU8] at e0
      rw [cellsStr] at e1 e2
      simp [Value.cells] at e0 e1 e2
      rw [e0, e1, e2]
end
theorem dgts_dig (l : List UInt8) (n : Nat) : (dgts l n).all dig = true := by
  unfold dgts
  rw [List.all_eq_true]
  intro c hc
  obtain ⟨d, _, rfl⟩ := List.mem_map.1 hc
  exact dgt_dig d
theorem dgts_len (l : List UInt8) (n : Nat) : (dgts l n).length = min n l.length := by unfold dgts; rw [List.length_map, List.length_take]
/-- the walk, for every number -/
theorem walk (k : Int) (x y : ByteArray) (w : World) (hx : x.size ≤ maxLen) (hy : y.size ≤ maxLen) (hasc : AscS w) (hmx : MaxW w) :
    Calls Tryd.prog 6 #[.agg #[.int .u8 k, .string x, .string y]] w fun e w' => e = .returned (.bool true) ∧ Below w.heap.size w w' := by
  have hA := dgts_len x.data.toList 12
  have hB := dgts_len y.data.toList 6
  rw [len_data] at hA hB
  by_cases h2 : y.size = 0
  · by_cases h1 : x.size = 0
    · exact LitLaw_none k x y w hx hy h1 h2 hasc hmx
    · exact LitLaw_a k x y _ _ w hx hy rfl rfl (dgts_dig _ _) (dgts_dig _ _) (by omega) (by omega) (by omega) (List.eq_nil_of_length_eq_zero (by omega)) hasc hmx
  · exact LitLaw_b k x y _ _ w hx hy rfl rfl (dgts_dig _ _) (dgts_dig _ _) (by omega) (by omega) (by omega) hasc hmx
set_option maxRecDepth 100000 in
theorem contract (H : Type) (enc : TypeId × Value → H) (W : World) (base : Nat) (args : Array Value) (ds gs : List (DataW H)) (before : List MemPlace)
    (hval : ∀ (j : Nat) t v, Tryd.f6.params[j]? = some t → args[j]? = some v → Value.okWide Tryd.prog W .any base t v)
    (hW : DataW.Whole enc Tryd.prog Tryd.f6.params.toList Rows.wordsLiteralSpec.vars false W args.toList ds gs before) (hL : laidMetH Tryd.prog laidW W) (hsh : W.ShapedOpen Tryd.prog) :
    Calls Tryd.prog 6 args W fun e W' => ∃ v, e = .returned v ∧ Rows.wordsLiteralSpec.post enc Tryd.prog Tryd.f6 false true false false W args v W' := by
  have hW' := hW
  obtain ⟨p, q, hA0, hV, rfl, hfz, hnd⟩ := hW
  have hA : DataW.TrodAll enc Tryd.prog W 0 (fun _ => true) true Tryd.f6.params.toList args.toList ds p := hA0
  rw [Tryd.params6] at hA hval
  obtain ⟨v0, d0, rfl, rfl, h0⟩ := trodAll_one hA
  obtain ⟨rfl, rfl⟩ := trodVars_none hV
  simp only [List.append_nil] at hW'
  have hlt : ∀ x ∈ p, x.block < W.heap.size := fun x hx => by simpa using hW'.lt x hx
  obtain ⟨k, x, y, rfl, hx, hy⟩ := open_n (hval 0 47 v0 rfl rfl) h0
  clear hA0
  refine (walk k x y W hx hy (asc_tab hL) (maxW hsh)).mono fun e W' ⟨he, hb⟩ => ?_
  subst he
  exact ⟨_, rfl, _, _, _, [], p, [], hW', trodAll_mk1 (shut_bool Tryd.underlying4 _), trodAll_mk1 (Below.trod laidOut (by kernel_rfl) (of_decide_eq_true (by kernel_rfl)) h0 hb hlt), rfl, hb.frame _, fun h => by cases h⟩

theorem reads (os : Os) {H : Type} (enc : TypeId × Value → H) : ∃ places, DataW.whole enc Tryd.prog ((worldW os).forCall (fun _ _ => 0) ⟨#[], #[.agg #[.int .u8 0, .string .empty, .string .empty]], []⟩).memory Tryd.f6.params.toList Rows.wordsLiteralSpec.vars false #[Value.agg #[.int .u8 0, .string .empty, .string .empty]].toList 8 = some ([.agg [.lit (.int .u8 0), .lit (.string []), .lit (.string [])]], [], places) :=
  ⟨[], by kernel_rfl⟩
set_option maxRecDepth 100000 in
theorem lifted (os : Os) (started : os.Started) (H : Type) (enc : TypeId × Value → H) (F : Stop.Interp) :
    ReturnsInHanded {} Tryd.checked os 6 .any ((OpenSpec.ofChange Rows.wordsLiteralSpec).preRow enc Tryd.prog Tryd.f6 Rows.wordsLiteralRow.domain false Rows.wordsLiteralRow.laid) (((OpenSpec.ofChange Rows.wordsLiteralSpec).at F).post enc Tryd.prog Tryd.f6 false true false false) := by
  obtain ⟨places, hx⟩ := reads os enc
  refine returnsInHanded_of_row (C := Tryd.checked) (s := OpenSpec.ofChange Rows.wordsLiteralSpec) ownW started (by kernel_rfl) Tryd.func6
    (witness_row_atRef (enc := enc) (C := Tryd.checked) false (worldW os) #[.agg #[.int .u8 0, .string .empty, .string .empty]] rfl (by kernel_rfl) (by kernel_rfl) (by kernel_rfl)
      (OpenSpec.preRow_of_cond 8 hx (by kernel_rfl) (fun k hk => by cases hk) (by kernel_rfl) (laidW_witness os _))) ?_
  intro W base args ds gs before hval hW _ _ _ hL hsh _
  exact contract H enc W base args ds gs before hval hW hL hsh
theorem said : Rows.WordsLiteralSaid :=
  OpenClaim.holds_of_cond 6 Tryd.f6 rfl rfl rfl rfl rfl rfl rfl ⟨rfl, rfl, rfl, rfl, rfl⟩ rfl rfl rfl rfl rfl (by kernel_rfl) Tryd.func6 (by kernel_rfl)
    (of_decide_eq_true (by kernel_rfl)) (by unfold Func.isWrapper; first | (rw [if_pos (by decide +kernel)]; kernel_rfl) | (rw [if_neg (by decide +kernel)]; exact ⟨rfl, rfl⟩))
    (fun os started H enc _ F => by rw [OpenClaim.pre_eq_preRow]; exact lifted os started H enc F)
/-- no parameter wants a stand-in; the program's own looks are off -/
theorem plain (f : FuncId) (fn : Func) (hf : Tryd.pinned.checked.prog.funcNamed "columnseven/columnsevenlaw05.WordsLiteral" = some f) (hfn : Tryd.pinned.checked.prog.funcs[f]? = some fn) :
    false = Tryd.pinned.checked.prog.looks [] ∧ ∀ (j : Nat) t, fn.params[j]? = some t → Tryd.pinned.checked.prog.wantsStandIn t = false := by
  obtain rfl : f = 6 := Option.some.inj ((show Tryd.prog.funcNamed "columnseven/columnsevenlaw05.WordsLiteral" = some 6 by kernel_rfl).symm.trans hf) |>.symm
  obtain rfl : fn = Tryd.f6 := (Option.some.inj (Tryd.func6.symm.trans hfn)).symm
  refine ⟨by kernel_rfl, fun j t ht => ?_⟩
  rw [Tryd.params6] at ht
  have hm : t ∈ [47] := by simpa using Array.mem_of_getElem? ht
  have hall : ([47].all fun u => !Tryd.prog.wantsStandIn u) = true := by kernel_rfl
  exact (show Tryd.prog.wantsStandIn t = false by simpa using List.all_eq_true.1 hall t hm)
theorem proved : Rows.WordsLiteralCardSaid :=
  Claim7.holds_tied_plain_at .later [] _ _ _ _ said (fun _ h => by cases h) (by kernel_rfl) (fun _ h => by cases h) wordsLiteral_row_tie rfl ⟨rfl, rfl⟩ (by kernel_rfl) rfl plain (by kernel_rfl)
end Go.Proofs.YtghnffdjdjlomaaDoor.wordsLiteral
