/- The law PicturesShape returns true at every input: a picture that is composed of the parts of the chapter is read as the shape of its parts, by itself, in its short form, and with a number behind every symbol, and the shape has no error of Check; the chapter's examples hold. Conditions: the listed tables hold what the program's text lays (tied); none beyond the form's own (the value can be read as data). -/
import Derived.Test.YteceealibfemjaaGreatDoorCards
import Derived.Test.YteceealibfemjaaGreatDoorTieP
import Derived.Test.YteceealibfemjaaGreatDoorShaL
import Derived.Lib.SmallJoins
import Derived.ChangeSame
import Derived.ChangeSlices
import Derived.OpenShut
namespace Go.Proofs.YteceealibfemjaaGreatDoor.picturesShape
open Go.ChangeShapes Go.WideShapes Go.ChangeAt Go.RowKit
open Go.ChangeMaps (open_string shut_string)

theorem laidOut : laidOutB Tryz.prog = true := by kernel_rfl
section
variable {H : Type} {enc : TypeId × Value → H}
theorem cellsP : Tryz.prog.cellsOf 24 = 6 := by kernel_rfl
theorem cellsU8 : Tryz.prog.cellsOf 5 = 1 := by kernel_rfl
theorem cellsSl : Tryz.prog.cellsOf 22 = 1 := by kernel_rfl
set_option maxRecDepth 100000 in
/-- a value of type P that came in -/
theorem open_p {W : World} {base : Nat} {v : Value} {d : DataW H} {p : List MemPlace} (hval : Value.okWide Tryz.prog W .any base 24 v) (h : DataW.Trod enc Tryz.prog W 0 (fun _ => true) true 24 v d p)
    (hlt : ∀ x ∈ p, x.block < W.heap.size) :
    ∃ (K Wh S G F : Nat) (A : Option Addr) (cap : Nat) (bs : List UInt8), v = .agg (prtA K Wh S G F (.slice A bs.length cap)) ∧ G < 256 ∧ F < 256 ∧ Sl W W.heap.size A bs ∧ bs.length ≤ cap ∧ cap ≤ maxLen := by
  obtain ⟨cs, rfl, hsz⟩ := okWide_struct Tryz.underlying24 hval
  obtain ⟨fuel, hf⟩ := h
  obtain ⟨xs, n, _, hx, hl, hlen, hg⟩ := DataW.trod_struct Tryz.underlying24 hf
  have hn : xs.length = 6 := by simpa using hlen
  match xs, hn with
  | [y0, y1, y2, y3, y4, y5], _ =>
    have h0 := hg 0 _ rfl
    have h1 := hg 1 _ rfl
    have h2 := hg 2 _ rfl
    have h3 := hg 3 _ rfl
    have h4 := hg 4 _ rfl
    have h5 := hg 5 _ rfl
    obtain ⟨l⟩ := cs
    rw [cellsP] at hsz
    match l, hsz with
    | [c0, c1, c2, c3, c4, c5], _ =>
      obtain ⟨v0, e0, _, w0⟩ := DataW.trod_int Tryz.underlying5 h0
      obtain ⟨v1, e1, _, w1⟩ := DataW.trod_int Tryz.underlying5 h1
      obtain ⟨v2, e2, _, w2⟩ := DataW.trod_int Tryz.underlying5 h2
      obtain ⟨v3, e3, _, w3⟩ := DataW.trod_int Tryz.underlying5 h3
      obtain ⟨v4, e4, _, w4⟩ := DataW.trod_int Tryz.underlying5 h4
      have b : ∀ z : Int, (Lit.int .u8 z).wf = true → 0 ≤ z ∧ z ≤ 255 := fun z hz => by simp only [Lit.wf, Bool.and_eq_true, decide_eq_true_eq] at hz; exact hz
      have b0 := b _ w0
      have b1 := b _ w1
      have b2 := b _ w2
      have b3 := b _ w3
      have b4 := b _ w4
      change List.take (Tryz.prog.cellsOf 5) (List.drop 0 [c0, c1, c2, c3, c4, c5]) = _ at e0
      change List.take (Tryz.prog.cellsOf 5) (List.drop 1 [c0, c1, c2, c3, c4, c5]) = _ at e1
      change List.take (Tryz.prog.cellsOf 5) (List.drop 2 [c0, c1, c2, c3, c4, c5]) = _ at e2
      change List.take (Tryz.prog.cellsOf 5) (List.drop 3 [c0, c1, c2, c3, c4, c5]) = _ at e3
      change List.take (Tryz.prog.cellsOf 5) (List.drop 4 [c0, c1, c2, c3, c4, c5]) = _ at e4
      rw [cellsU8] at e0 e1 e2 e3 e4
      simp at e0 e1 e2 e3 e4
      have k0 : (Value.int .u8 v0) = .int .u8 ((v0.toNat : Nat) : Int) := by rw [Int.toNat_of_nonneg b0.1]
      have k1 : (Value.int .u8 v1) = .int .u8 ((v1.toNat : Nat) : Int) := by rw [Int.toNat_of_nonneg b1.1]
      have k2 : (Value.int .u8 v2) = .int .u8 ((v2.toNat : Nat) : Int) := by rw [Int.toNat_of_nonneg b2.1]
      have k3 : (Value.int .u8 v3) = .int .u8 ((v3.toNat : Nat) : Int) := by rw [Int.toNat_of_nonneg b3.1]
      have k4 : (Value.int .u8 v4) = .int .u8 ((v4.toNat : Nat) : Int) := by rw [Int.toNat_of_nonneg b4.1]
      rcases open_ints Tryz.underlying22 Tryz.underlying5 cellsU8 h5 with ⟨hcs, hy⟩ | ⟨a, len, cap, zs, hcs, _, hll, hm, hz, hy, hcell, hwz⟩
      · change List.take (Tryz.prog.cellsOf 22) (List.drop 5 [c0, c1, c2, c3, c4, c5]) = _ at hcs
        rw [cellsSl] at hcs
        simp at hcs
        exact ⟨v0.toNat, v1.toNat, v2.toNat, v3.toNat, v4.toNat, none, 0, [], by rw [e0, e1, e2, e3, e4, hcs, k0, k1, k2, k3, k4]; rfl, by omega, by omega, .inl rfl, Nat.le_refl _, Nat.zero_le _⟩
      · change List.take (Tryz.prog.cellsOf 22) (List.drop 5 [c0, c1, c2, c3, c4, c5]) = _ at hcs
        rw [cellsSl] at hcs
        simp at hcs
        simp only [if_true] at hz
        have hlenz : ((zs.take len).map fun n => UInt8.ofNat n.toNat).length = len := by simp; omega
        refine ⟨v0.toNat, v1.toNat, v2.toNat, v3.toNat, v4.toNat, some a, cap, (zs.take len).map fun n => UInt8.ofNat n.toNat, by rw [e0, e1, e2, e3, e4, hcs, k0, k1, k2, k3, k4, hlenz]; rfl, by omega, by omega, ?_, by omega, hm⟩
        rcases Nat.eq_zero_or_pos len with h0 | h0
        · subst h0; exact .inl (by simp)
        · obtain ⟨ab, ao, spot⟩ := a
          have hspot : spot = none := by simpa [Addr.add] using World.cell?_spot (hcell 0 (by omega))
          subst hspot
          have hin : MemPlace.cell ab ao ∈ p := by
            have hp := congrArg Prod.snd hx
            simp only [] at hp
            rw [hp]
            simp only [List.flatMap_cons, List.flatMap_nil, List.append_nil, List.mem_append]
            right; right; right; right; right
            rw [hy]
            exact MemPlace.mem_row.2 ⟨0, by omega, by simp⟩
          refine .inr ⟨ab, ao, rfl, hlt _ hin, fun j u hu => ?_⟩
          have hj : j < len := by
            have := (List.getElem?_eq_some_iff.1 hu).1
            simp at this; omega
          have hcj := hcell j (by omega)
          rw [Addr.add_lit] at hcj
          rw [hcj]
          have hb := range_u8 hwz j
          rw [List.getElem?_map, List.getElem?_take, if_pos hj] at hu
          have e : zs[j]? = some (zs[j]'(by omega)) := List.getElem?_eq_getElem (by omega)
          rw [e] at hu
          simp at hu
          subst hu
          rw [e] at hb
          rw [List.getD_eq_getElem?_getD, e]
          simp at hb ⊢
          omega
end
set_option maxRecDepth 100000 in
theorem contract (H : Type) (enc : TypeId × Value → H) (W : World) (base : Nat) (args : Array Value) (ds gs : List (DataW H)) (before : List MemPlace)
    (hval : ∀ (j : Nat) t v, Tryz.f3.params[j]? = some t → args[j]? = some v → Value.okWide Tryz.prog W .any base t v)
    (hW : DataW.Whole enc Tryz.prog Tryz.f3.params.toList Rows.picturesShapeSpec.vars false W args.toList ds gs before) (hL : laidMetH Tryz.prog laidP W) (hsh : W.ShapedOpen Tryz.prog) :
    Calls Tryz.prog 3 args W fun e W' => ∃ v, e = .returned v ∧ Rows.picturesShapeSpec.post enc Tryz.prog Tryz.f3 false true false false W args v W' := by
  have hW' := hW
  obtain ⟨p, q, hA0, hV, rfl, hfz, hnd⟩ := hW
  have hA : DataW.TrodAll enc Tryz.prog W 0 (fun _ => true) true Tryz.f3.params.toList args.toList ds p := hA0
  rw [Tryz.params3] at hA hval
  obtain ⟨v0, d0, rfl, rfl, h0⟩ := trodAll_one hA
  obtain ⟨rfl, rfl⟩ := trodVars_none hV
  simp only [List.append_nil] at hW'
  have hlt : ∀ x ∈ p, x.block < W.heap.size := fun x hx => by simpa using hW'.lt x hx
  obtain ⟨K, Wh, S, G, F, A, cap, bs, rfl, hG, hF, hsl, hbl, hcap⟩ := open_p (hval 0 24 v0 rfl rfl) h0 hlt
  clear hA0
  refine (ShaLaw K Wh S G F A cap bs W hsl hbl hcap hG hF (envP hL hsh)).mono fun e W' ⟨he, hb⟩ => ?_
  subst he
  exact ⟨_, rfl, _, _, _, [], p, [], hW', trodAll_mk1 (shut_bool Tryz.underlying4 _), trodAll_mk1 (Below.trod laidOut (by kernel_rfl) (of_decide_eq_true (by kernel_rfl)) h0 hb hlt), rfl, hb.frame _, fun h => by cases h⟩

theorem reads (os : Os) {H : Type} (enc : TypeId × Value → H) : ∃ places, DataW.whole enc Tryz.prog ((worldP os).forCall (fun _ _ => 0) ⟨#[], #[.agg #[.int .u8 0, .int .u8 0, .int .u8 0, .int .u8 0, .int .u8 0, .slice none 0 0]], []⟩).memory Tryz.f3.params.toList Rows.picturesShapeSpec.vars false #[Value.agg #[.int .u8 0, .int .u8 0, .int .u8 0, .int .u8 0, .int .u8 0, .slice none 0 0]].toList 8 = some ([.agg [.lit (.int .u8 0), .lit (.int .u8 0), .lit (.int .u8 0), .lit (.int .u8 0), .lit (.int .u8 0), .nil]], [], places) :=
  ⟨[], by kernel_rfl⟩
set_option maxRecDepth 100000 in
theorem lifted (os : Os) (started : os.Started) (H : Type) (enc : TypeId × Value → H) (F : Stop.Interp) :
    ReturnsInHanded {} Tryz.checked os 3 .any ((OpenSpec.ofChange Rows.picturesShapeSpec).preRow enc Tryz.prog Tryz.f3 Rows.picturesShapeRow.domain false Rows.picturesShapeRow.laid) (((OpenSpec.ofChange Rows.picturesShapeSpec).at F).post enc Tryz.prog Tryz.f3 false true false false) := by
  obtain ⟨places, hx⟩ := reads os enc
  refine returnsInHanded_of_row (C := Tryz.checked) (s := OpenSpec.ofChange Rows.picturesShapeSpec) ownP started (by kernel_rfl) Tryz.func3
    (witness_row_atRef (enc := enc) (C := Tryz.checked) false (worldP os) #[.agg #[.int .u8 0, .int .u8 0, .int .u8 0, .int .u8 0, .int .u8 0, .slice none 0 0]] rfl (by kernel_rfl) (by kernel_rfl) (by kernel_rfl)
      (OpenSpec.preRow_of_cond 8 hx (by kernel_rfl) (fun k hk => by cases hk) (by kernel_rfl) (laidP_witness os _))) ?_
  intro W base args ds gs before hval hW _ _ _ hL hsh _
  exact contract H enc W base args ds gs before hval hW hL hsh
theorem said : Rows.PicturesShapeSaid :=
  OpenClaim.holds_of_cond 3 Tryz.f3 rfl rfl rfl rfl rfl rfl rfl ⟨rfl, rfl, rfl, rfl, rfl⟩ rfl rfl rfl rfl rfl (by kernel_rfl) Tryz.func3 (by kernel_rfl)
    (of_decide_eq_true (by kernel_rfl)) (by unfold Func.isWrapper; first | (rw [if_pos (by decide +kernel)]; kernel_rfl) | (rw [if_neg (by decide +kernel)]; exact ⟨rfl, rfl⟩))
    (fun os started H enc _ F => by rw [OpenClaim.pre_eq_preRow]; exact lifted os started H enc F)
/-- no parameter wants a stand-in; the program's own looks are on -/
theorem plain (f : FuncId) (fn : Func) (hf : Tryz.pinned.checked.prog.funcNamed "columnseven/columnsevenlaw06.PicturesShape" = some f) (hfn : Tryz.pinned.checked.prog.funcs[f]? = some fn) :
    true = Tryz.pinned.checked.prog.looks [] ∧ ∀ (j : Nat) t, fn.params[j]? = some t → Tryz.pinned.checked.prog.wantsStandIn t = false := by
  obtain rfl : f = 3 := Option.some.inj ((show Tryz.prog.funcNamed "columnseven/columnsevenlaw06.PicturesShape" = some 3 by kernel_rfl).symm.trans hf) |>.symm
  obtain rfl : fn = Tryz.f3 := (Option.some.inj (Tryz.func3.symm.trans hfn)).symm
  refine ⟨by kernel_rfl, fun j t ht => ?_⟩
  rw [Tryz.params3] at ht
  have hm : t ∈ [24] := by simpa using Array.mem_of_getElem? ht
  have hall : ([24].all fun u => !Tryz.prog.wantsStandIn u) = true := by kernel_rfl
  exact (show Tryz.prog.wantsStandIn t = false by simpa using List.all_eq_true.1 hall t hm)
theorem proved : Rows.PicturesShapeCardSaid :=
  Claim7.holds_tied_plain_at .later [] _ _ _ _ said (fun _ h => by cases h) (by kernel_rfl) (fun _ h => by cases h) picturesShape_row_tie rfl ⟨rfl, rfl⟩ (by kernel_rfl) rfl plain (by kernel_rfl)
end Go.Proofs.YteceealibfemjaaGreatDoor.picturesShape
