/-
  PLAIN FACTS on parts of rows (layer 2, columns); a quiet call as a step of a region that draws its order.
-/
import Derived.Test.YteceealibfemjaaDoorFin
import Derived.Deep.RegionLaw
import Derived.Deep.AppendLies
namespace Go.Proofs.YteceealibfemjaaDoor
open Go.RowKit

theorem repeat_one (c : UInt8) (n : Nat) : Lib.repeatL [c] n = List.replicate n c := by
  induction n with
  | zero => rfl
  | succ n ih => rw [Lib.repeatL, ih]; rfl
theorem openL_append (a b : List UInt8) : openL (a ++ b) = (openL a != openL b) := by
  unfold openL
  rw [List.count_append, Bool.eq_iff_iff]
  have h1 := Nat.mod_two_eq_zero_or_one (a.count 34)
  have h2 := Nat.mod_two_eq_zero_or_one (b.count 34)
  rcases h1 with h1 | h1 <;> rcases h2 with h2 | h2 <;> simp [h1, h2, Nat.add_mod]
theorem openL_spaces (n : Nat) : openL (List.replicate n 32) = false := by
  unfold openL
  rw [List.count_replicate]; simp
theorem endL_spaces (l : List UInt8) (n : Nat) : endL (l ++ List.replicate n 32) = endL l := by
  induction n with
  | zero => simp
  | succ n ih => rw [List.replicate_succ', ← List.append_assoc, endL_space, ih]
theorem endL_split (l : List UInt8) : ∃ n, l = endL l ++ List.replicate n 32 := by
  unfold endL
  generalize hr : l.reverse = r
  have : l = r.reverse := by rw [← hr, List.reverse_reverse]
  subst this
  clear hr
  induction r with
  | nil => exact ⟨0, by simp⟩
  | cons c r ih =>
    by_cases h : c = 32
    · subst h
      obtain ⟨n, hn⟩ := ih
      refine ⟨n + 1, ?_⟩
      rw [List.dropWhile_cons_of_pos (by simp), List.reverse_cons, List.replicate_succ', ← List.append_assoc, ← hn]
    · exact ⟨0, by rw [List.dropWhile_cons_of_neg (by simpa using h)]; simp⟩
theorem openL_endL (l : List UInt8) : openL (endL l) = openL l := by
  obtain ⟨n, hn⟩ := endL_split l
  conv => rhs; rw [hn, openL_append, openL_spaces]
  simp
theorem take_pad (l : List UInt8) : (padL l).take 72 = l.take (min l.length 72) ++ List.replicate (72 - min l.length 72) 32 := by
  unfold padL
  rw [List.take_append]
  by_cases h : l.length ≤ 72
  · rw [Nat.min_eq_left h, List.take_of_length_le h, List.take_of_length_le (Nat.le_refl _), List.take_replicate]
    simp
  · rw [Nat.min_eq_right (by omega)]
    simp; omega
theorem textOf_drop (l : List UInt8) (k : Nat) (hk : k + 7 ≤ min l.length 72) :
    (textOf l).drop k = (l.take (min l.length 72)).drop (k + 7) ++ List.replicate (72 - min l.length 72) 32 := by
  have h1 : textOf l = ((padL l).take 72).drop 7 := by unfold textOf; rw [List.drop_take]
  rw [h1, take_pad, List.drop_drop, List.drop_append, show 7 + k = k + 7 by omega]
  have : (l.take (min l.length 72)).length = min l.length 72 := by rw [List.length_take]; omega
  rw [this, show k + 7 - min l.length 72 = 0 by omega, List.drop_zero]
theorem tailL_drop (l t : List UInt8) (k : Nat) (hk : k + 7 ≤ min l.length 72) :
    tailL ((textOf l).drop k) t = if (openL t != openL ((l.take (min l.length 72)).drop (k + 7))) = true then (l.take (min l.length 72)).drop (k + 7) ++ List.replicate (72 - min l.length 72) 32 else endL ((l.take (min l.length 72)).drop (k + 7)) := by
  rw [textOf_drop l k hk]
  unfold tailL
  rw [openL_append, openL_append, openL_spaces, endL_spaces]
  simp
theorem open_tail (l t : List UInt8) (k : Nat) (hk : k + 7 ≤ min l.length 72) :
    openL (t ++ tailL ((textOf l).drop k) t) = (openL t != openL ((l.take (min l.length 72)).drop (k + 7))) := by
  rw [tailL_drop l t k hk, openL_append]
  split
  · rw [openL_append, openL_spaces]; simp
  · rw [openL_endL]
theorem extract_at (s : ByteArray) (i m : Nat) : (s.extract i m).data.toList = (s.data.toList.take m).drop i := by
  rw [ByteArray.data_extract, Array.toList_extract]
  simp only [List.extract_eq_take_drop]
  rw [List.drop_take]

/-- a call that leaves the world as it is, as a step of a region that draws its order -/
theorem step_call_same {P : Program} {ops : Array Oper} {o : Oper} {a : Act} {w : World} {K : Act → World → Prop} {Q : Exit → Act → World → Prop} {E : Prop} (hgd : o.guard = none) (f : FuncId) (x : Operand) (ts : Array TypeId)
    (ho : o.op = .call { callee := .value (.func f), args := #[x], argTypes := ts }) (eg : ∀ args w, (callFunc f args).run P w = .ok (.enter f args) w)
    (vx v : Value) (hx : a.eval x = vx) (hc : Calls P f #[vx] w fun e w' => e = .returned v ∧ w = w') (hK : K (a.put o.dst v) w) :
    if Region.wanted o (yielded ops a.tmps) = true then Oper.wp P o a w K Q else E := by
  have hw : Region.wanted o (yielded ops a.tmps) = true := by simp [Region.wanted, hgd]
  rw [if_pos hw]
  unfold Oper.wp execOp
  simp only [ho, resolve, Sem.run_bind, Sem.run_pure, Result.andThen_ok, List.map_toArray, List.map_cons, List.map_nil, invoke, Act.eval, go_sem, eg]
  have e : (#[] ++ #[a.eval x] ++ #[] : Array Value) = #[vx] := by rw [hx]; rfl
  change Calls P f (#[] ++ #[a.eval x] ++ #[]) w _
  rw [e]
  exact hc.mono (fun e w' ⟨h1, h2⟩ => by subst h1 h2; exact hK)
end Go.Proofs.YteceealibfemjaaDoor
