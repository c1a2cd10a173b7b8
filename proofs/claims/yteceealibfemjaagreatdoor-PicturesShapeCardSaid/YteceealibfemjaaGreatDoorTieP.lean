/-
  WHAT THE ROWS' LIST OF TABLES GIVES (pictures): the table of symbols, the sentinel, the powers of ten; a world that holds them.
-/
import Derived.Test.YteceealibfemjaaGreatDoorRows
import Derived.Test.YteceealibfemjaaGreatDoorTie
import Derived.Test.YteceealibfemjaaGreatDoorExpP
import Derived.Test.YteceealibfemjaaGreatDoorShelf
import Derived.ProofKit
import Derived.OpenShut
import Derived.LaidMore
import Derived.Lay
import Derived.Lib.LaidTab
import Derived.Lib.LaidCase
import Derived.Deep.DeepHandedRow
import Derived.SevenTiedAt
import Derived.Stop.Joined
import Derived.Deep.DeepWitnessRowRef
import Derived.Deep.DeepLaidRun
import Derived.Stop.LaidErr
namespace Go.Proofs.YteceealibfemjaaGreatDoor
open Go.ChangeShapes Go.WideShapes Go.ChangeAt Go.RowKit
set_option maxRecDepth 100000

/-- what every row of pictures lists -/
noncomputable def laidP : List (String × DataW Unit) := [("math/bits.deBruijn32tab", Rows.laid_math_bits_deBruijn32tab), ("math/bits.deBruijn64tab", Rows.laid_math_bits_deBruijn64tab), ("internal/strconv.uint64pow10", Rows.laid_internal_strconv_uint64pow10), ("strconv.ErrRange", Rows.laid_strconv_ErrRange), ("strconv.ErrSyntax", Rows.laid_strconv_ErrSyntax), ("columnseven/pictures.symbols", Rows.laid_columnseven_pictures_symbols)]
theorem ownP : ownKnob Tryz.prog.godebug = none := by kernel_rfl
theorem pow_data : Rows.laid_internal_strconv_uint64pow10 (H := Unit) = Lib.tabData .u64 Lib.pow10Tab := by kernel_rfl
theorem pow_tabIs {W : World} (h : laidMet Tryz.prog laidP W) : Lib.TabIs Tryz.prog W "internal/strconv.uint64pow10" .u64 Lib.pow10Tab := by
  have h2 := laidMet.tail (laidMet.tail h)
  rw [pow_data] at h2
  exact Lib.tabIs_of_head (g := 2) (by kernel_rfl) (t := ((Tryz.prog.globals[2]?).map (·.type)).get (by kernel_rfl)) (by kernel_rfl) (e := 88) (n := Lib.pow10Tab.length) (by kernel_rfl) (by kernel_rfl) (by kernel_rfl) (by kernel_rfl) h2
theorem starP : "*" ++ "errors.errorString" = "*errors.errorString" := by decide
theorem rowErr (u : TypeId) (h : Tryz.prog.typeName? 3 u = some "*errors.errorString") : u = 138 :=
  typeName_ptr_named (nm := "errors.errorString") (by rw [starP]; kernel_rfl) (by kernel_rfl) (by decide) u (by rw [starP]; exact h)
theorem err_cell {W : World} (h : laidMet Tryz.prog laidP W) : ∃ ev, W.cell? ⟨3, 0, none⟩ = some ev ∧ (ev = .nilIface ∨ ∃ te pe, ev = .iface te pe) := by
  have h2 := laidMet.tail (laidMet.tail (laidMet.tail (laidMet.tail h)))
  unfold Rows.laid_strconv_ErrSyntax at h2
  obtain ⟨a, s, hv, _⟩ := laid_sentinel (g := 3) h2 (by kernel_rfl) (ti := 80) (by kernel_rfl) Tryz.underlying80 rowErr Tryz.underlying138 Tryz.underlying140 rfl rfl Tryz.underlying9 (by kernel_rfl) (by kernel_rfl)
  exact ⟨_, World.var?_cell (by kernel_rfl) hv 0, .inr ⟨_, _, rfl⟩⟩
def symD (x : UInt8 × Nat × Bool) : DataW Unit := .agg [.lit (.int .u8 (x.1.toNat : Int)), .lit (.int .u8 (x.2.1 : Int)), .lit (.bool x.2.2)]
theorem sym_data : Rows.laid_columnseven_pictures_symbols (H := Unit) = .agg (symT.map symD) := by kernel_rfl
theorem cellsSym : Tryz.prog.cellsOf 59 = 3 := by kernel_rfl
theorem cellsB : Tryz.prog.cellsOf 4 = 1 := by kernel_rfl
theorem cellsU : Tryz.prog.cellsOf 5 = 1 := by kernel_rfl
theorem cellsCat : Tryz.prog.cellsOf 25 = 1 := by kernel_rfl
theorem cellsSyms : Tryz.prog.cellsOf 91 = 57 := by kernel_rfl
theorem sym_row {W : World} {base fuel : Nat} {sp : Nat → Bool} {held : Bool} {cs : List Value} {x : UInt8 × Nat × Bool} {p : List MemPlace}
    (h : DataW.trod (fun _ => ()) Tryz.prog W base sp held fuel 59 cs = some (symD x, p)) : cs = symC x := by
  obtain ⟨xs, n, _, hx, hl, hxl, hall⟩ := DataW.trod_struct Tryz.underlying59 h
  rw [cellsSym] at hl
  have hx3 : xs.map (·.1) = [.lit (.int .u8 (x.1.toNat : Int)), .lit (.int .u8 (x.2.1 : Int)), .lit (.bool x.2.2)] := by
    have := congrArg Prod.fst hx
    simpa [symD] using this.symm
  obtain ⟨x0, x1, x2, rfl⟩ : ∃ x0 x1 x2, xs = [x0, x1, x2] := by
    match xs, hx3 with
    | [x0, x1, x2], _ => exact ⟨x0, x1, x2, rfl⟩
  simp only [List.map_cons, List.map_nil, List.cons.injEq, and_true] at hx3
  obtain ⟨e0, e1, e2⟩ := hx3
  have f0 := hall 0 _ rfl
  have f1 := hall 1 _ rfl
  have f2 := hall 2 _ rfl
  change DataW.trod _ _ _ _ _ _ _ 5 ((cs.drop 0).take (Tryz.prog.cellsOf 5)) = some x0 at f0
  change DataW.trod _ _ _ _ _ _ _ 25 ((cs.drop 1).take (Tryz.prog.cellsOf 25)) = some x1 at f1
  change DataW.trod _ _ _ _ _ _ _ 4 ((cs.drop 2).take (Tryz.prog.cellsOf 4)) = some x2 at f2
  rw [cellsU] at f0
  rw [cellsCat] at f1
  rw [cellsB] at f2
  have g0 : cs[0]? = some (.int .u8 (x.1.toNat : Int)) := by
    obtain ⟨z, hz, hx', _⟩ := DataW.trod_int Tryz.underlying5 f0
    rw [hx'] at e0
    cases e0
    exact at_of_take hz
  have g1 : cs[1]? = some (.int .u8 (x.2.1 : Int)) := by
    obtain ⟨z, hz, hx', _⟩ := DataW.trod_int Tryz.underlying25 f1
    rw [hx'] at e1
    cases e1
    exact at_of_take hz
  have g2 : cs[2]? = some (.bool x.2.2) := by
    obtain ⟨z, hz, hx'⟩ := DataW.trod_bool Tryz.underlying4 f2
    rw [hx'] at e2
    cases e2
    exact at_of_take hz
  match cs, hl, g0, g1, g2 with
  | [c0, c1, c2], _, g0, g1, g2 =>
    simp at g0 g1 g2
    subst g0 g1 g2
    rfl
theorem chunks {α β : Type} (f : α → List β) (k : Nat) (hf : ∀ a, (f a).length = k) : ∀ (l : List α) (cs : List β), cs.length = k * l.length → (∀ i a, l[i]? = some a → (cs.drop (i * k)).take k = f a) → cs = l.flatMap f
  | [], cs, hl, _ => by
    have : cs = [] := List.eq_nil_of_length_eq_zero (by rw [hl]; simp)
    rw [this]; rfl
  | b :: r, cs, hl, h => by
    rw [List.length_cons, Nat.mul_succ] at hl
    have h0 := h 0 b rfl
    rw [Nat.zero_mul, List.drop_zero] at h0
    have ih := chunks f k hf r (cs.drop k) (by rw [List.length_drop]; omega) (fun i a ha => by
      have := h (i + 1) a (by rw [List.getElem?_cons_succ]; exact ha)
      rw [List.drop_drop, show k + i * k = (i + 1) * k by rw [Nat.succ_mul]; omega]
      exact this)
    rw [List.flatMap_cons, ← ih, ← h0, List.take_append_drop]
theorem block_of_var {W : World} {n : String} {g : Nat} {cs : Array Value} (hg : Tryz.prog.globalNamed n = some g) (h : W.var? Tryz.prog n = some cs) : ∃ t fr, W.heap[g]? = some (.cells cs t fr) := by
  unfold World.var? at h
  rw [hg] at h
  simp only [Option.bind_some] at h
  cases ho : W.heap[g]? with
  | none => rw [ho] at h; simp at h
  | some o =>
    rw [ho] at h
    cases o <;> simp at h
    subst h
    exact ⟨_, _, rfl⟩
theorem sym_w {W : World} (h : laidMet Tryz.prog laidP W) : SymW W := by
  have h2 := laidMet.tail (laidMet.tail (laidMet.tail (laidMet.tail (laidMet.tail h))))
  obtain ⟨ps, ⟨g', t', cs, fuel, p, q, hg', ht', hvar, hd, _, _⟩, _⟩ := h2
  obtain rfl := Option.some.inj ((show Tryz.prog.globalNamed "columnseven/pictures.symbols" = some 0 by kernel_rfl).symm.trans hg')
  obtain rfl := Option.some.inj ((show (Tryz.prog.globals[0]?).map (·.type) = some 91 by kernel_rfl).symm.trans ht')
  obtain ⟨t, fr, hb⟩ := block_of_var hg' hvar
  rw [sym_data] at hd
  have hl : cs.toList.length = 57 := by
    cases fuel with
    | zero => simp [DataW.trod] at hd
    | succ fuel =>
      simp only [DataW.trod, Tryz.underlying91] at hd
      split at hd
      · rename_i hl; rw [hl, cellsSyms]
      · cases hd
  have hcs : cs.toList = symT.flatMap symC := chunks symC 3 (fun _ => rfl) symT cs.toList (by rw [hl]; rfl) (fun i a ha => by
    have hi : i < 19 := (List.getElem?_eq_some_iff.1 ha).1
    obtain ⟨fuel', d, q', hd', ht⟩ := Lib.array_elem Tryz.underlying91 hd i hi
    rw [List.getElem?_map, ha] at hd'
    obtain rfl := Option.some.inj hd'
    rw [cellsSym] at ht
    exact sym_row ht)
  refine ⟨t, fr, ?_⟩
  rw [hb]
  have : cs = symCells := by
    apply Array.toList_inj.1
    rw [hcs]; rfl
  rw [this]
theorem envP {W : World} (h : laidMetH Tryz.prog laidP W) (hsh : W.ShapedOpen Tryz.prog) : EnvP W := by
  rw [MakeChecks.laidMetH_plain _ _ _ (by kernel_rfl)] at h
  exact ⟨sym_w h, Tryz.laysM143.s1_3 W hsh, err_cell h, pow_tabIs h⟩
noncomputable def cellsD : DataW Unit → Array Value
  | .agg ds => (ds.map fun
    | .lit (.int k z) => Value.int k z
    | _ => undef).toArray
  | _ => #[]
/-- the witness: the settled world with a block more for each sentinel, the six variables holding what their initialisers lay -/
noncomputable def worldP (os : Os) : World :=
  let N := (World.settled Tryz.prog os).heap.size
  let w0 := World.holding Tryz.prog os ⟨#[.cells #[.string ⟨#[118, 97, 108, 117, 101, 32, 111, 117, 116, 32, 111, 102, 32, 114, 97, 110, 103, 101]⟩] 140, .cells #[.string ⟨#[105, 110, 118, 97, 108, 105, 100, 32, 115, 121, 110, 116, 97, 120]⟩] 140], #[], []⟩
  let put (h : Array Obj) (g : Nat) (cs : Array Value) : Array Obj := h.modify g fun
    | .cells _ t frozen => .cells cs t frozen
    | o => o
  { w0 with heap := put (put (put (put (put (put w0.heap 5 (cellsD Rows.laid_math_bits_deBruijn32tab)) 6 (cellsD Rows.laid_math_bits_deBruijn64tab))
      2 (Lib.pow10Tab.map fun z => Value.int .u64 z).toArray) 4 #[.iface 138 (.pointer (some ⟨N, 0, none⟩))]) 3 #[.iface 138 (.pointer (some ⟨N + 1, 0, none⟩))]) 0 symCells }
theorem laidP_witness (os : Os) (args : Array Value) : laidMetH Tryz.prog laidP ((worldP os).forCall (fun _ _ => 0) ⟨#[], args, []⟩).memory := by
  rw [MakeChecks.laidMetH_plain _ _ _ (by kernel_rfl)]
  exact laidMet_of_run3 10 (by kernel_rfl) (by kernel_rfl) (by kernel_rfl)
end Go.Proofs.YteceealibfemjaaGreatDoor
