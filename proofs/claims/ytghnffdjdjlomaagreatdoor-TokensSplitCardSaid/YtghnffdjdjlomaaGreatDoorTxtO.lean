/-
  A LIST OF TOKENS THAT CAME IN, opened (layer 3, tokens).
-/
import Derived.Test.YtghnffdjdjlomaaGreatDoorRows
import Derived.Test.YtghnffdjdjlomaaGreatDoorTxtC
import Derived.ProofKit
import Derived.OpenShut
import Derived.Lib.SmallJoins
import Derived.Deep.Slices
import Derived.ChangeSame
namespace Go.Proofs.YtghnffdjdjlomaaGreatDoor
open Go.ChangeShapes Go.WideShapes Go.ChangeAt Go.RowKit
open Go.Joins (trod_struct4)

theorem laidOutT : laidOutB Tryz.prog = true := by kernel_rfl
section
variable {H : Type} {enc : TypeId × Value → H}
theorem cellsTok : Tryz.prog.cellsOf 49 = 5 := by kernel_rfl
theorem cellsKind : Tryz.prog.cellsOf 47 = 1 := by kernel_rfl
theorem cellsStr : Tryz.prog.cellsOf 9 = 1 := by kernel_rfl
theorem cellsPos : Tryz.prog.cellsOf 26 = 2 := by kernel_rfl
theorem cellsInt : Tryz.prog.cellsOf 3 = 1 := by kernel_rfl
theorem cellsBool : Tryz.prog.cellsOf 4 = 1 := by kernel_rfl
set_option maxRecDepth 100000 in
/-- a token that reads -/
theorem token_of {W : World} {fuel : Nat} {cs : List Value} {y : DataW H × List MemPlace} (h : DataW.trod enc Tryz.prog W 0 (fun _ => true) true fuel 49 cs = some y) :
    ∃ t : TokL, cs = [.int .u8 t.kind, .string (mk t.text), .int .i64 t.line, .int .i64 t.col, .bool t.left] ∧ t.text.length ≤ maxLen := by
  obtain ⟨y0, y1, y2, y3, n, _, hl, h0, h1, h2, h3⟩ := trod_struct4 Tryz.underlying49 h
  rw [cellsTok] at hl
  match cs, hl with
  | [c0, c1, c2, c3, c4], _ =>
    obtain ⟨k, e0, _, _⟩ := DataW.trod_int Tryz.underlying47 h0
    obtain ⟨s, e1, _, hs⟩ := DataW.trod_string Tryz.underlying9 h1
    obtain ⟨y4, y5, n2, _, hl2, h4, h5⟩ := trod_struct2 Tryz.underlying26 h2
    obtain ⟨l, e2, _, _⟩ := DataW.trod_int Tryz.underlying3 h4
    obtain ⟨c, e3, _, _⟩ := DataW.trod_int Tryz.underlying3 h5
    obtain ⟨b, e4, _⟩ := DataW.trod_bool Tryz.underlying4 h3
    refine ⟨⟨k, s.data.toList, l, c, b⟩, ?_, by rw [len_data]; exact hs⟩
    rw [cellsKind] at e0
    rw [cellsStr] at e1
    rw [cellsInt] at e2 e3
    rw [cellsPos] at e2 e3
    rw [cellsBool] at e4
    simp at e0 e1 e2 e3 e4
    rw [e0, e1, e2, e3, e4]; rfl
set_option maxRecDepth 100000 in
theorem open_tokens {W : World} {base : Nat} {v : Value} {d : DataW H} {p : List MemPlace} (hval : Value.okWide Tryz.prog W .any base 36 v) (h : DataW.Trod enc Tryz.prog W 0 (fun _ => true) true 36 v d p)
    (hlt : ∀ x ∈ p, x.block < W.heap.size) : ∃ (A : Option Addr) (ts : List TokL) (cap : Nat), v = .slice A ts.length cap ∧ TokIn W W.heap.size A ts ∧ (∀ t ∈ ts, t.text.length ≤ maxLen) ∧ ts.length ≤ maxLen := by
  obtain ⟨a1, len1, cap1, rfl⟩ := okWide_slice Tryz.underlying36 hval
  obtain ⟨fuel, hf⟩ := h
  rcases Go.Deep.open_slice Tryz.underlying36 hf with ⟨e2, _⟩ | ⟨a, len, cap, m, n2, D, Pl, e2, _, hl, hm, hmm, hx, hi⟩
  · simp [Value.cells] at e2
    obtain ⟨rfl, rfl, rfl⟩ := e2
    exact ⟨none, [], 0, rfl, .inl rfl, fun t ht => (by cases ht), Nat.zero_le _⟩
  · simp [Value.cells] at e2
    obtain ⟨rfl, rfl, rfl⟩ := e2
    have hmc : m = cap1 := by rw [hmm]; rfl
    have hex : ∀ i : Fin len1, ∃ t : TokL, (W.cell? (a.add (i.val * 5)) = some (.int .u8 t.kind) ∧ W.cell? (a.add (i.val * 5 + 1)) = some (.string (mk t.text)) ∧ W.cell? (a.add (i.val * 5 + 2)) = some (.int .i64 t.line) ∧ W.cell? (a.add (i.val * 5 + 3)) = some (.int .i64 t.col) ∧ W.cell? (a.add (i.val * 5 + 4)) = some (.bool t.left)) ∧ t.text.length ≤ maxLen := fun i => by
      obtain ⟨cs', hc, ht⟩ := hi i.val (by have := i.isLt; omega)
      obtain ⟨t, rfl, htl⟩ := token_of ht
      rw [cellsTok] at hc
      obtain ⟨_, _, hat⟩ := World.cells?_some hc
      have z0 := hat 0 (by omega)
      have z1 := hat 1 (by omega)
      have z2 := hat 2 (by omega)
      have z3 := hat 3 (by omega)
      have z4 := hat 4 (by omega)
      rw [Go.Deep.add_add] at z0 z1 z2 z3 z4
      exact ⟨t, ⟨z0, z1, z2, z3, z4⟩, htl⟩
    obtain ⟨g, hg⟩ := Classical.axiomOfChoice hex
    have hlen : (List.ofFn g).length = len1 := List.length_ofFn
    refine ⟨some a, List.ofFn g, cap1, by rw [hlen], ?_, ?_, by rw [hlen]; omega⟩
    · rcases Nat.eq_zero_or_pos len1 with h0 | h0
      · exact .inl (List.eq_nil_of_length_eq_zero (by rw [hlen]; exact h0))
      · obtain ⟨ab, ao, spot⟩ := a
        have hspot : spot = none := by simpa [Addr.add] using World.cell?_spot (hg ⟨0, h0⟩).1.1
        subst hspot
        refine .inr ⟨ab, ao, rfl, ?_, fun j hj => ?_⟩
        · refine hlt (.cell ab ao) ?_
          simp only [Prod.mk.injEq] at hx
          rw [hx.2]
          exact List.mem_append_left _ (MemPlace.mem_row.2 ⟨0, by rw [cellsTok]; omega, by simp⟩)
        · rw [hlen] at hj
          have := (hg ⟨j, hj⟩).1
          rw [Addr.add_lit, Addr.add_lit, Addr.add_lit, Addr.add_lit, Addr.add_lit] at this
          rw [List.getElem_ofFn]
          simpa [Nat.add_assoc] using this
    · intro t ht
      obtain ⟨i, rfl⟩ := List.mem_ofFn.1 ht
      exact (hg i).2
theorem again_tokens {W W' : World} {v : Value} {d : DataW H} {p : List MemPlace} (h : DataW.Trod enc Tryz.prog W 0 (fun _ => true) true 36 v d p) (hlt : ∀ x ∈ p, x.block < W.heap.size) (hb : Below W.heap.size W W') :
    DataW.Trod enc Tryz.prog W' 0 (fun b => decide (b < W.heap.size)) true 36 v d p :=
  Below.trod laidOutT (by kernel_rfl) (of_decide_eq_true (by kernel_rfl)) h hb hlt
end
end Go.Proofs.YtghnffdjdjlomaaGreatDoor
