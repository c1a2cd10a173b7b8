/- The law ColumnsCards returns true at every input: At accepts exactly valid cards and indices and returns the position of the byte, texts that are too long are errors, and the chapter's examples hold. Conditions: the listed tables of Go's library hold what the program's text lays (tied); none beyond the form's own (the card can be read as data). -/
import Derived.Test.YtghgakdbfllbeaaDoorCards
import Derived.Test.YtghgakdbfllbeaaDoorTied
import Derived.Test.YtghgakdbfllbeaaDoorCrdM
import Derived.Lib.SmallJoins
import Derived.Deep.Slices
import Derived.ChangeSame
namespace Go.Proofs.YtghgakdbfllbeaaDoor.columnsCards
open Go.ChangeShapes Go.WideShapes Go.ChangeAt Go.RowKit
open Go.Joins (open_agg3)

theorem laidOut : laidOutB Tryd.prog = true := by kernel_rfl
theorem i64_bounds {m : Int} (h : (Lit.int .i64 m).wf = true) : -9223372036854775808 ≤ m ∧ m ≤ 9223372036854775807 := by
  have h1 : IntKind.i64.min = -9223372036854775808 := rfl
  have h2 : IntKind.i64.max = 9223372036854775807 := rfl
  simp only [Lit.wf, Bool.and_eq_true, decide_eq_true_eq] at h
  omega
section
variable {H : Type} {enc : TypeId × Value → H}
theorem cells3 : Tryd.prog.cellsOf 57 = 3 := by kernel_rfl
theorem cells2 : Tryd.prog.cellsOf 32 = 2 := by kernel_rfl
theorem cells1 : Tryd.prog.cellsOf 3 = 1 := by kernel_rfl
set_option maxRecDepth 100000 in
/-- a mark that reads -/
theorem mark_of {W : World} {fuel : Nat} {cs : List Value} {y : DataW H × List MemPlace} (h : DataW.trod enc Tryd.prog W 0 (fun _ => true) true fuel 57 cs = some y) :
    ∃ m : MarkL, cs = [.int .i64 m.1, .int .i64 m.2.1, .int .i64 m.2.2] := by
  obtain ⟨y0, y1, n, _, hl, h0, h1⟩ := trod_struct2 Tryd.underlying57 h
  rw [cells3] at hl
  match cs, hl with
  | [c0, c1, c2], _ =>
    obtain ⟨f, e0, _, _⟩ := DataW.trod_int Tryd.underlying3 h0
    obtain ⟨y2, y3, n2, _, hl2, h2, h3⟩ := trod_struct2 Tryd.underlying32 h1
    obtain ⟨l, e1, _, _⟩ := DataW.trod_int Tryd.underlying3 h2
    obtain ⟨c, e2, _, _⟩ := DataW.trod_int Tryd.underlying3 h3
    refine ⟨(f, l, c), ?_⟩
    rw [cells1] at e0 e1 e2
    rw [cells2] at e1 e2
    simp at e0 e1 e2
    rw [e0, e1, e2]
set_option maxRecDepth 100000 in
theorem open_card {W : World} {base : Nat} {v : Value} {d : DataW H} {p : List MemPlace} (hval : Value.okWide Tryd.prog W .any base 39 v) (h : DataW.Trod enc Tryd.prog W 0 (fun _ => true) true 39 v d p)
    (hlt : ∀ x ∈ p, x.block < W.heap.size) : ∃ (left : Bool) (s : ByteArray) (A : Option Addr) (ms : List MarkL) (cap : Nat), v = .agg #[.bool left, .string s, .slice A ms.length cap] ∧ MarksAt W W.heap.size A ms ∧ s.size ≤ maxLen ∧ ms.length ≤ maxLen := by
  obtain ⟨v0, v1, v2, y0, y1, y2, n, rfl, rfl, rfl, h0, h1, h2⟩ := open_agg3 Tryd.underlying39 (by kernel_rfl) (by kernel_rfl) hval h
  obtain ⟨left, e0, _⟩ := DataW.trod_bool Tryd.underlying4 h0
  obtain ⟨s, e1, _, hs⟩ := DataW.trod_string Tryd.underlying9 h1
  injection e0 with e0 _
  injection e1 with e1 _
  subst e0
  subst e1
  rcases Go.Deep.open_slice Tryd.underlying37 h2 with ⟨e2, _⟩ | ⟨a, len, cap, m, n2, D, Pl, e2, _, hl, hm, hmm, hx, hi⟩
  · injection e2 with e2 _
    subst e2
    exact ⟨left, s, none, [], 0, rfl, .inl rfl, hs, Nat.zero_le _⟩
  · injection e2 with e2 _
    subst e2
    have hmc : m = cap := by rw [hmm]; rfl
    have hex : ∀ i : Fin len, ∃ mk : MarkL, W.cell? (a.add (i.val * 3)) = some (.int .i64 mk.1) ∧ W.cell? (a.add (i.val * 3 + 1)) = some (.int .i64 mk.2.1) ∧ W.cell? (a.add (i.val * 3 + 2)) = some (.int .i64 mk.2.2) := fun i => by
      obtain ⟨cs', hc, ht⟩ := hi i.val (by have := i.isLt; omega)
      obtain ⟨mk, rfl⟩ := mark_of ht
      rw [cells3] at hc
      obtain ⟨_, _, hat⟩ := World.cells?_some hc
      have z0 := hat 0 (by omega)
      have z1 := hat 1 (by omega)
      have z2 := hat 2 (by omega)
      rw [Go.Deep.add_add] at z0 z1 z2
      exact ⟨mk, z0, z1, z2⟩
    obtain ⟨g, hg⟩ := Classical.axiomOfChoice hex
    have hlen : (List.ofFn g).length = len := List.length_ofFn
    refine ⟨left, s, some a, List.ofFn g, cap, by rw [hlen], ?_, hs, by rw [hlen]; omega⟩
    rcases Nat.eq_zero_or_pos len with h0 | h0
    · exact .inl (List.eq_nil_of_length_eq_zero (by rw [hlen]; exact h0))
    · obtain ⟨ab, ao, spot⟩ := a
      have hspot : spot = none := by simpa [Addr.add] using World.cell?_spot (hg ⟨0, h0⟩).1
      subst hspot
      refine .inr ⟨ab, ao, rfl, ?_, fun j hj => ?_⟩
      · refine hlt (.cell ab ao) (List.mem_append_right _ (List.mem_append_right _ ?_))
        have : y2 = (.slice ((List.range len).map D) ((List.range (m - len)).map fun j => D (len + j)), MemPlace.row ⟨ab, ao, none⟩ (m * Tryd.prog.cellsOf 57) ++ (List.range m).flatMap Pl) := hx
        rw [this]
        exact List.mem_append_left _ (MemPlace.mem_row.2 ⟨0, by rw [cells3]; omega, by simp⟩)
      · rw [hlen] at hj
        have := hg ⟨j, hj⟩
        rw [Addr.add_lit, Addr.add_lit, Addr.add_lit] at this
        rw [List.getElem_ofFn]
        simpa [Nat.add_assoc] using this
end

/-- the walk, for every card -/
theorem walk (left : Bool) (s : ByteArray) (ms : List MarkL) (A : Option Addr) (cap : Nat) (i : Int) (w : World) (hm : MarksAt w w.heap.size A ms) (hs : s.size ≤ maxLen) (hl : ms.length ≤ maxLen) (hi1 : -9223372036854775808 ≤ i) (hi2 : i ≤ 9223372036854775807)
    (htab : Lib.TabIs Tryd.prog w "internal/strconv.uint64pow10" .u64 Lib.pow10Tab) :
    Calls Tryd.prog 7 #[.agg #[.bool left, .string s, .slice A ms.length cap], .int .i64 i] w fun e w' => e = .returned (.bool true) ∧ Below w.heap.size w w' := by
  have hd := len_data s
  have e : s = mk s.data.toList := rfl
  by_cases h : 100 < s.data.toList.length ∨ 20 < ms.length
  · rw [e]; exact Cards_far left s.data.toList A ms.length cap i w (by omega) hl h htab
  · by_cases h0 : 0 < ms.length
    · rw [e]; exact Cards_some left s.data.toList ms A cap w.heap.size i w hm (Nat.le_refl _) (by omega) (by omega) h0 hi1 hi2 htab
    · obtain rfl := List.eq_nil_of_length_eq_zero (show ms.length = 0 by omega)
      rw [e]; exact Cards_none left s.data.toList A cap i w (by omega) hi1 hi2 htab
set_option maxRecDepth 100000 in
theorem contract (H : Type) (enc : TypeId × Value → H) (W : World) (base : Nat) (args : Array Value) (ds gs : List (DataW H)) (before : List MemPlace)
    (hval : ∀ (j : Nat) t v, Tryd.f7.params[j]? = some t → args[j]? = some v → Value.okWide Tryd.prog W .any base t v)
    (hW : DataW.Whole enc Tryd.prog Tryd.f7.params.toList Rows.columnsCardsSpec.vars false W args.toList ds gs before) (hL : laidMetH Tryd.prog laidL W) (_hsh : W.ShapedOpen Tryd.prog) :
    Calls Tryd.prog 7 args W fun e W' => ∃ v, e = .returned v ∧ Rows.columnsCardsSpec.post enc Tryd.prog Tryd.f7 false true false false W args v W' := by
  have hW' := hW
  obtain ⟨p, q, hA0, hV, rfl, hfz, hnd⟩ := hW
  have hA : DataW.TrodAll enc Tryd.prog W 0 (fun _ => true) true Tryd.f7.params.toList args.toList ds p := hA0
  rw [Tryd.params7] at hA hval
  obtain ⟨v0, v1, d0, d1, p0, p1, rfl, rfl, rfl, h0, h1⟩ := trodAll_two hA
  obtain ⟨rfl, rfl⟩ := trodVars_none hV
  obtain ⟨i, rfl, rfl, rfl, wi⟩ := open_int Tryd.underlying3 (hval 1 3 v1 rfl rfl) h1
  simp only [List.append_nil] at hW'
  have hlt : ∀ x ∈ p0, x.block < W.heap.size := fun x hx => by simpa using hW'.lt x hx
  obtain ⟨left, s, A, ms, cap, rfl, hm, hs, hl⟩ := open_card (hval 0 39 v0 rfl rfl) h0 hlt
  obtain ⟨hi1, hi2⟩ := i64_bounds wi
  clear hA0
  refine (walk left s ms A cap i W hm hs hl hi1 hi2 (pow_tab hL)).mono fun e W' ⟨he, hb⟩ => ?_
  subst he
  rw [(List.append_nil p0).symm] at hW'
  exact ⟨_, rfl, _, _, _, [], p0 ++ [], [], hW', trodAll_mk1 (shut_bool Tryd.underlying4 _), trodAll_mk2 (Below.trod laidOut (by kernel_rfl) (of_decide_eq_true (by kernel_rfl)) h0 hb hlt) (shut_int Tryd.underlying3 wi), rfl, hb.frame _, fun h => by cases h⟩

theorem reads (os : Os) {H : Type} (enc : TypeId × Value → H) : ∃ places, DataW.whole enc Tryd.prog ((World.laidAll Tryd.prog os laidL).forCall (fun _ _ => 0) ⟨#[], #[.agg #[.bool false, .string .empty, .slice none 0 0], .int .i64 0], []⟩).memory Tryd.f7.params.toList Rows.columnsCardsSpec.vars false #[Value.agg #[.bool false, .string .empty, .slice none 0 0], Value.int .i64 0].toList 8 = some ([.agg [.lit (.bool false), .lit (.string []), .nil], .lit (.int .i64 0)], [], places) :=
  ⟨[], by kernel_rfl⟩
set_option maxRecDepth 100000 in
theorem lifted (os : Os) (started : os.Started) (H : Type) (enc : TypeId × Value → H) (F : Stop.Interp) :
    ReturnsInHanded {} Tryd.checked os 7 .any ((OpenSpec.ofChange Rows.columnsCardsSpec).preRow enc Tryd.prog Tryd.f7 Rows.columnsCardsRow.domain false Rows.columnsCardsRow.laid) (((OpenSpec.ofChange Rows.columnsCardsSpec).at F).post enc Tryd.prog Tryd.f7 false true false false) := by
  obtain ⟨places, hx⟩ := reads os enc
  refine returnsInHanded_of_row (C := Tryd.checked) (s := OpenSpec.ofChange Rows.columnsCardsSpec) own started (by kernel_rfl) Tryd.func7
    (witness_row_at (enc := enc) (C := Tryd.checked) false (World.laidAll Tryd.prog os laidL) #[.agg #[.bool false, .string .empty, .slice none 0 0], .int .i64 0] (World.laidAll_os _ _ _) (by kernel_rfl) (by kernel_rfl) (by kernel_rfl)
      (OpenSpec.preRow_of_cond 8 hx (by kernel_rfl) (fun k hk => by cases hk) (by kernel_rfl) (laid_witness os _))) ?_
  intro W base args ds gs before hval hW _ _ _ hL hsh _
  exact contract H enc W base args ds gs before hval hW hL hsh
theorem said : Rows.ColumnsCardsSaid :=
  OpenClaim.holds_of_cond 7 Tryd.f7 rfl rfl rfl rfl rfl rfl rfl ⟨rfl, rfl, rfl, rfl, rfl⟩ rfl rfl rfl rfl rfl (by kernel_rfl) Tryd.func7 (by kernel_rfl)
    (of_decide_eq_true (by kernel_rfl)) (by unfold Func.isWrapper; first | (rw [if_pos (by decide +kernel)]; kernel_rfl) | (rw [if_neg (by decide +kernel)]; exact ⟨rfl, rfl⟩))
    (fun os started H enc _ F => by rw [OpenClaim.pre_eq_preRow]; exact lifted os started H enc F)
/-- no parameter wants a stand-in; the program's own looks are off -/
theorem plain (f : FuncId) (fn : Func) (hf : Tryd.pinned.checked.prog.funcNamed "columnseven/columnsevenlaw02.ColumnsCards" = some f) (hfn : Tryd.pinned.checked.prog.funcs[f]? = some fn) :
    false = Tryd.pinned.checked.prog.looks [] ∧ ∀ (j : Nat) t, fn.params[j]? = some t → Tryd.pinned.checked.prog.wantsStandIn t = false := by
  obtain rfl : f = 7 := Option.some.inj ((show Tryd.prog.funcNamed "columnseven/columnsevenlaw02.ColumnsCards" = some 7 by kernel_rfl).symm.trans hf) |>.symm
  obtain rfl : fn = Tryd.f7 := (Option.some.inj (Tryd.func7.symm.trans hfn)).symm
  refine ⟨by kernel_rfl, fun j t ht => ?_⟩
  rw [Tryd.params7] at ht
  have hm : t ∈ [39, 3] := by simpa using Array.mem_of_getElem? ht
  have hall : ([39, 3].all fun u => !Tryd.prog.wantsStandIn u) = true := by kernel_rfl
  exact (show Tryd.prog.wantsStandIn t = false by simpa using List.all_eq_true.1 hall t hm)
theorem proved : Rows.ColumnsCardsCardSaid :=
  Claim7.holds_tied_plain_at .later [] _ _ _ _ said (fun _ h => by cases h) (by kernel_rfl) (fun _ h => by cases h) columnsCards_row_tie rfl ⟨rfl, rfl⟩ (by kernel_rfl) rfl plain (by kernel_rfl)
end Go.Proofs.YtghgakdbfllbeaaDoor.columnsCards
