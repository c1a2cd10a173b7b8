/- The law CharsOrder returns true at every input: Compare is the order of the padded texts, it is an order, and texts that differ only by spaces at their ends are equal, and the chapter's examples hold. Conditions: none beyond the form's own (the three slices can be read as data; they may share memory). -/
import Derived.Test.YtlhkekdhgpmpaaaRows
import Derived.Test.YtlhkekdhgpmpaaaOrdMore
import Derived.Test.YtlhkekdhgpmpaaaOpen8
import Derived.ProofKit
import Derived.OpenShut
namespace Go.Proofs.Ytlhkekdhgpmpaaa.charsOrder
open Go.ChangeShapes Go.WideShapes Go.ChangeAt Go.RowKit

theorem own : ownKnob Try.prog.godebug = none := by kernel_rfl

theorem CharsOrder_w (A A' A2 : Option Addr) (la lb lc : List UInt8) (na nb nc ca cb cc B : Nat) (w : World) (hA : Sl w B A la) (hA' : Sl w B A' lb) (hA2 : Sl w B A2 lc) (hB : B ≤ w.heap.size) (hna : na = la.length) (hnb : nb = lb.length) (hnc : nc = lc.length)
    (hca : na ≤ ca) (hcb : nb ≤ cb) (hcc : nc ≤ cc) (hma : ca ≤ maxLen) (hmb : cb ≤ maxLen) (hmc : cc ≤ maxLen) (hnone : A = none → na = 0 ∧ ca = 0) :
    Calls Try.prog 5 #[.slice A na ca, .slice A' nb cb, .slice A2 nc cc] w fun e w' => e = .returned (.bool true) ∧ Below w.heap.size w w' := by
  by_cases h : 200 < na ∨ 200 < nb ∨ 200 < nc
  · exact CharsOrder_far A A' A2 na nb nc ca cb cc w (by omega) (by omega) (by omega) h
  · unfold maxLen at hma hmb
    rcases Nat.lt_or_ge na nb with hlt | hge
    · exact CharsOrder_less A A' A2 la lb lc na nb nc ca cb cc B w hA hA' hA2 hB hna hnb hnc hca hcb (by omega) (by omega) hnone (by omega) (by omega) (by omega) hlt
    · exact CharsOrder_more A A' A2 la lb lc na nb nc ca cb cc B w hA hA' hA2 hB hna hnb hnc hca hcb (by omega) (by omega) hnone (by omega) (by omega) (by omega) hge

set_option maxRecDepth 100000 in
theorem lifted (os : Os) (started : os.Started) (H : Type) (enc : TypeId × Value → H) :
    ReturnsInHanded {} Try.checked os 5 .any (Rows.charsOrderSpec.pre6 enc Try.prog Try.f5 Rows.charsOrderRow.domain false) (Rows.charsOrderSpec.post enc Try.prog Try.f5 false true false false) := by
  refine returnsInHanded_of_change (C := Try.checked) own started (by kernel_rfl) Try.func5
    (ChangeSpec.witness6 (enc := enc) (C := Try.checked) false ⟨#[], #[.slice none 0 0, .slice none 0 0, .slice none 0 0], []⟩ 8 (by kernel_rfl) (by kernel_rfl) (by kernel_rfl) (by kernel_rfl)) ?_
  intro W base args ds gs before hval0 hW _ _
  have hval : ∀ (j : Nat) t v, Try.f5.params[j]? = some t → args[j]? = some v → Value.okWide Try.prog W .any base t v := hval0
  have hW' := hW
  obtain ⟨p, q, hA0, hV, rfl, _, _⟩ := hW
  have hA : DataW.TrodAll enc Try.prog W 0 (fun _ => true) true Try.f5.params.toList args.toList ds p := hA0
  rw [Try.params5] at hA hval
  obtain ⟨v0, v1, v2, d0, d1, d2, p0, p1, p2, rfl, rfl, rfl, h0, h1, h2⟩ := trodAll_three hA
  obtain ⟨rfl, rfl⟩ := trodVars_none hV
  simp only [List.append_nil] at hW'
  have hlt : ∀ x ∈ p0 ++ (p1 ++ p2), x.block < W.heap.size := fun x hx => by simpa using hW'.lt x (by simpa using hx)
  have hl0 : ∀ x ∈ p0, x.block < W.heap.size := fun x hx => hlt x (List.mem_append_left _ hx)
  have hl1 : ∀ x ∈ p1, x.block < W.heap.size := fun x hx => hlt x (List.mem_append_right _ (List.mem_append_left _ hx))
  have hl2 : ∀ x ∈ p2, x.block < W.heap.size := fun x hx => hlt x (List.mem_append_right _ (List.mem_append_right _ hx))
  obtain ⟨A, la, na, ca, rfl, hsa, hna, hca, hma, hnone⟩ := open_b8 (hval 0 25 v0 rfl rfl) h0 hl0
  obtain ⟨A', lb, nb, cb, rfl, hsb, hnb, hcb, hmb, _⟩ := open_b8 (hval 1 25 v1 rfl rfl) h1 hl1
  obtain ⟨A2, lc, nc, cc, rfl, hsc, hnc, hcc, hmc, _⟩ := open_b8 (hval 2 25 v2 rfl rfl) h2 hl2
  clear hA0 hval0
  refine (CharsOrder_w A A' A2 la lb lc na nb nc ca cb cc W.heap.size W hsa hsb hsc (Nat.le_refl _) hna hnb hnc hca hcb hcc hma hmb hmc hnone).mono fun e W' ⟨he, hb⟩ => ?_
  subst he
  exact ⟨_, rfl, _, _, _, [], p0 ++ (p1 ++ p2), [], hW', trodAll_mk1 (shut_bool Try.underlying4 _), trodAll_mk3 (again_b8 h0 hl0 hb) (again_b8 h1 hl1 hb) (again_b8 h2 hl2 hb), rfl, hb.frame _, fun h => by cases h⟩

theorem proved : Rows.CharsOrderSaid :=
  OpenClaim.holds_of_wide 5 Try.f5 rfl rfl rfl rfl rfl rfl rfl ⟨rfl, rfl, rfl, rfl, rfl⟩ rfl rfl rfl rfl rfl (by kernel_rfl) Try.func5 (by kernel_rfl)
    (of_decide_eq_true (by kernel_rfl)) (by unfold Func.isWrapper; first | (rw [if_pos (by decide +kernel)]; kernel_rfl) | (rw [if_neg (by decide +kernel)]; exact ⟨rfl, rfl⟩))
    (fun os started H enc _ => lifted os started H enc)
end Go.Proofs.Ytlhkekdhgpmpaaa.charsOrder
