/- The law CharsFill returns true at every input: Fill repeats the text, returns the errors of the chapter, and leaves its argument, and the chapter's examples hold. Conditions: none beyond the form's own (the slice can be read as data, the number is an int). -/
import Derived.Test.YtlhkekdhgpmpaaaRows
import Derived.Test.YtlhkekdhgpmpaaaFillLaw
import Derived.Test.YtlhkekdhgpmpaaaOpen8
import Derived.ProofKit
import Derived.OpenShut
namespace Go.Proofs.Ytlhkekdhgpmpaaa.charsFill
open Go.ChangeShapes Go.WideShapes Go.ChangeAt Go.RowKit

theorem own : ownKnob Try.prog.godebug = none := by kernel_rfl

set_option maxRecDepth 100000 in
theorem lifted (os : Os) (started : os.Started) (H : Type) (enc : TypeId × Value → H) :
    ReturnsInHanded {} Try.checked os 6 .any (Rows.charsFillSpec.pre6 enc Try.prog Try.f6 Rows.charsFillRow.domain false) (Rows.charsFillSpec.post enc Try.prog Try.f6 false true false false) := by
  refine returnsInHanded_of_change (C := Try.checked) own started (by kernel_rfl) Try.func6
    (ChangeSpec.witness6 (enc := enc) (C := Try.checked) false ⟨#[], #[.slice none 0 0, .int .i64 0], []⟩ 8 (by kernel_rfl) (by kernel_rfl) (by kernel_rfl) (by kernel_rfl)) ?_
  intro W base args ds gs before hval0 hW _ _
  have hval : ∀ (j : Nat) t v, Try.f6.params[j]? = some t → args[j]? = some v → Value.okWide Try.prog W .any base t v := hval0
  have hW' := hW
  obtain ⟨p, q, hA0, hV, rfl, _, _⟩ := hW
  have hA : DataW.TrodAll enc Try.prog W 0 (fun _ => true) true Try.f6.params.toList args.toList ds p := hA0
  rw [Try.params6] at hA hval
  obtain ⟨v0, v1, d0, d1, p0, p1, rfl, rfl, rfl, h0, h1⟩ := trodAll_two hA
  obtain ⟨rfl, rfl⟩ := trodVars_none hV
  obtain ⟨m, rfl, rfl, rfl, wm⟩ := open_int Try.underlying3 (hval 1 3 v1 rfl rfl) h1
  simp only [List.append_nil] at hW'
  have hlt : ∀ x ∈ p0, x.block < W.heap.size := fun x hx => by simpa using hW'.lt x hx
  obtain ⟨A, l, n, cap, rfl, hsl, hn, hcap, hmax, _⟩ := open_b8 (hval 0 25 v0 rfl rfl) h0 hlt
  clear hA0 hval0
  obtain ⟨hm1, hm2⟩ := i64_bounds wm
  refine (CharsFill_w A l n cap W.heap.size m W hsl (Nat.le_refl _) hn (Nat.le_trans hcap hmax) hm1 hm2).mono fun e W' ⟨he, hb⟩ => ?_
  subst he
  exact ⟨_, rfl, _, _, _, [], p0 ++ [], [], hW', trodAll_mk1 (shut_bool Try.underlying4 _), trodAll_mk2 (again_b8 h0 hlt hb) (shut_int Try.underlying3 wm), rfl, hb.frame _, fun h => by cases h⟩

theorem proved : Rows.CharsFillSaid :=
  OpenClaim.holds_of_wide 6 Try.f6 rfl rfl rfl rfl rfl rfl rfl ⟨rfl, rfl, rfl, rfl, rfl⟩ rfl rfl rfl rfl rfl (by kernel_rfl) Try.func6 (by kernel_rfl)
    (of_decide_eq_true (by kernel_rfl)) (by unfold Func.isWrapper; first | (rw [if_pos (by decide +kernel)]; kernel_rfl) | (rw [if_neg (by decide +kernel)]; exact ⟨rfl, rfl⟩))
    (fun os started H enc _ => lifted os started H enc)
end Go.Proofs.Ytlhkekdhgpmpaaa.charsFill
