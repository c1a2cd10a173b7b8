/-
  PLAIN FACTS on the order of padded texts, and what append lays, for the law CharsOrder.
-/
import Derived.Test.YtlhkekdhgpmpaaaLives
namespace Go.Proofs.Ytlhkekdhgpmpaaa
open Go.RowKit Go.Shelf

theorem cmpB_neg (a b : UInt8) : cmpB b a = -cmpB a b := by unfold cmpB; repeat (first | split | omega)
theorem cmpB_zero (a b : UInt8) : cmpB a b = 0 ↔ a = b := by
  rw [← UInt8.toNat_inj]; unfold cmpB; repeat (first | split | omega)
theorem cmpB_vals (a b : UInt8) : cmpB a b = -1 ∨ cmpB a b = 0 ∨ cmpB a b = 1 := by unfold cmpB; repeat (first | split | omega)
theorem cmpB_lt (a b : UInt8) : cmpB a b < 0 ↔ a.toNat < b.toNat := by unfold cmpB; repeat (first | split | omega)
theorem cmpB_gt (a b : UInt8) : 0 < cmpB a b ↔ b.toNat < a.toNat := by unfold cmpB; repeat (first | split | omega)

theorem cmpF_vals (f g : Nat → UInt8) (r : Nat) : ∀ k, cmpF f g k r = -1 ∨ cmpF f g k r = 0 ∨ cmpF f g k r = 1 := by
  induction r with
  | zero => intro k; simp [cmpF]
  | succ r ih =>
    intro k
    unfold cmpF
    split
    · exact ih _
    · exact cmpB_vals _ _
theorem cmpF_neg (f g : Nat → UInt8) (r : Nat) : ∀ k, cmpF g f k r = -cmpF f g k r := by
  induction r with
  | zero => intro k; simp [cmpF]
  | succ r ih =>
    intro k
    unfold cmpF
    rw [cmpB_neg (f k) (g k)]
    by_cases h : cmpB (f k) (g k) = 0
    · rw [h]; simp [ih]
    · rw [if_neg h, if_neg (by omega)]
theorem cmpF_zero (f g : Nat → UInt8) (r : Nat) : ∀ k, (cmpF f g k r = 0 ↔ ∀ j, k ≤ j → j < k + r → f j = g j) := by
  induction r with
  | zero => intro k; simp [cmpF]; intro j h1 h2; omega
  | succ r ih =>
    intro k
    unfold cmpF
    by_cases h : cmpB (f k) (g k) = 0
    · rw [if_pos h, ih (k + 1)]
      have h' := (cmpB_zero _ _).1 h
      constructor
      · intro q j h1 h2
        rcases Nat.lt_or_ge k j with hlt | hge
        · exact q j hlt (by omega)
        · obtain rfl : j = k := by omega
          exact h'
      · intro q j h1 h2; exact q j (by omega) (by omega)
    · rw [if_neg h]
      constructor
      · intro q; exact absurd q h
      · intro q; exact absurd ((cmpB_zero _ _).2 (q k (Nat.le_refl _) (by omega))) h
/-- where both agree nothing turns -/
theorem cmpF_more (f g : Nat → UInt8) (r d : Nat) (h : ∀ j, r ≤ j → f j = g j) : ∀ k, cmpF f g k (r - k + d) = cmpF f g k (r - k) := by
  intro k
  induction hq : r - k generalizing k with
  | zero =>
    rw [show cmpF f g k 0 = 0 from rfl, cmpF_zero]
    intro j h1 h2; exact h j (by omega)
  | succ q ih =>
    rw [show q + 1 + d = (q + d) + 1 by omega]
    unfold cmpF
    split
    · exact ih (k + 1) (by omega)
    · rfl
theorem cmpF_trans (f g h : Nat → UInt8) (r : Nat) : ∀ k, cmpF f g k r ≤ 0 → cmpF g h k r ≤ 0 → cmpF f h k r ≤ 0 := by
  induction r with
  | zero => intro k _ _; simp [cmpF]
  | succ r ih =>
    intro k h1 h2
    unfold cmpF at h1 h2 ⊢
    have c1 := cmpB_gt (f k) (g k)
    have c2 := cmpB_gt (g k) (h k)
    have c3 := cmpB_gt (f k) (h k)
    have z1 := cmpB_zero (f k) (g k)
    have z2 := cmpB_zero (g k) (h k)
    have z3 := cmpB_zero (f k) (h k)
    rw [← UInt8.toNat_inj] at z1 z2 z3
    split
    · rename_i q3
      by_cases q1 : cmpB (f k) (g k) = 0
      · rw [if_pos q1] at h1
        rw [if_pos (by omega)] at h2
        exact ih _ h1 h2
      · rw [if_neg q1] at h1
        rw [if_neg (by omega)] at h2
        omega
    · rename_i q3
      by_cases q1 : cmpB (f k) (g k) = 0
      · by_cases q2 : cmpB (g k) (h k) = 0
        · omega
        · rw [if_neg q2] at h2; omega
      · rw [if_neg q1] at h1
        by_cases q2 : cmpB (g k) (h k) = 0
        · omega
        · rw [if_neg q2] at h2; omega

theorem padAt_out (l : List UInt8) (j : Nat) (h : l.length ≤ j) : padAt l j = 32 := by
  unfold padAt; rw [List.getD_eq_getElem?_getD, List.getElem?_eq_none h]; rfl
theorem padAt_in (l : List UInt8) (j : Nat) (h : j < l.length) : padAt l j = l[j] := by
  unfold padAt; rw [List.getD_eq_getElem?_getD, List.getElem?_eq_getElem h]; rfl
/-- the comparison over any number of places that is great enough -/
theorem cmpL_at (a b : List UInt8) (m : Nat) (h1 : a.length ≤ m) (h2 : b.length ≤ m) : cmpL a b = cmpF (padAt a) (padAt b) 0 m := by
  have h := cmpF_more (padAt a) (padAt b) (max a.length b.length) (m - max a.length b.length) (fun j hj => by rw [padAt_out a j (by omega), padAt_out b j (by omega)]) 0
  rw [Nat.sub_zero, show max a.length b.length + (m - max a.length b.length) = m by omega] at h
  rw [cmpL, h]
theorem cmpL_neg (a b : List UInt8) : cmpL b a = -cmpL a b := by
  rw [cmpL, cmpL, cmpF_neg, Nat.max_comm]
theorem cmpL_vals (a b : List UInt8) : cmpL a b = -1 ∨ cmpL a b = 0 ∨ cmpL a b = 1 := cmpF_vals _ _ _ _
theorem cmpL_trans (a b c : List UInt8) (h1 : cmpL a b ≤ 0) (h2 : cmpL b c ≤ 0) : cmpL a c ≤ 0 := by
  have m := max (max a.length b.length) c.length
  rw [cmpL_at a b (max (max a.length b.length) c.length) (by omega) (by omega)] at h1
  rw [cmpL_at b c (max (max a.length b.length) c.length) (by omega) (by omega)] at h2
  rw [cmpL_at a c (max (max a.length b.length) c.length) (by omega) (by omega)]
  exact cmpF_trans _ _ _ _ _ h1 h2
theorem cmpL_zero (a b : List UInt8) : cmpL a b = 0 ↔ ∀ j, padAt a j = padAt b j := by
  rw [cmpL, cmpF_zero]
  constructor
  · intro h j
    rcases Nat.lt_or_ge j (max a.length b.length) with hlt | hge
    · exact h j (Nat.zero_le _) (by omega)
    · rw [padAt_out a j (by omega), padAt_out b j (by omega)]
  · intro h j _ _; exact h j
theorem cmpL_space (a : List UInt8) : cmpL a (a ++ [32]) = 0 := by
  rw [cmpL_zero]
  intro j
  rcases Nat.lt_trichotomy j a.length with h | h | h
  · rw [padAt_in a j h, padAt_in _ j (by simp; omega), List.getElem_append_left h]
  · subst h
    rw [padAt_out a _ (Nat.le_refl _), padAt_in _ _ (by simp)]
    simp
  · rw [padAt_out a j (by omega), padAt_out _ j (by simp; omega)]
theorem fitL_padAt (a : List UInt8) (m : Nat) (h : a.length ≤ m) : fitL a m false = (List.range m).map (padAt a) := by
  have e : fitL a m false = a ++ List.replicate (m - a.length) 32 := by
    simp only [fitL, Bool.false_eq_true, if_false]
    rw [List.take_of_length_le h]
  rw [e]
  apply List.ext_getElem
  · simp; omega
  · intro i h1 h2
    simp only [List.getElem_map, List.getElem_range]
    rw [List.getElem_append]
    split
    · rename_i hi; rw [padAt_in a i hi]
    · rename_i hi; rw [padAt_out a i (by omega)]; simp
theorem less_iff (f g : Nat → UInt8) (r : Nat) : ∀ k, Op.bytesLess ((List.range' k r).map f) ((List.range' k r).map g) = decide (cmpF f g k r < 0) := by
  induction r with
  | zero => intro k; simp [cmpF, Op.bytesLess]
  | succ r ih =>
    intro k
    rw [List.range'_succ, List.map_cons, List.map_cons, Op.bytesLess]
    rw [ih (k + 1), show cmpF f g k (r + 1) = if cmpB (f k) (g k) = 0 then cmpF f g (k + 1) r else cmpB (f k) (g k) from rfl]
    have z := cmpB_zero (f k) (g k)
    have l := cmpB_lt (f k) (g k)
    rw [Bool.eq_iff_iff]
    simp only [Bool.or_eq_true, Bool.and_eq_true, decide_eq_true_eq, beq_iff_eq, UInt8.lt_iff_toNat_lt]
    by_cases h : cmpB (f k) (g k) = 0
    · rw [if_pos h]
      have := z.1 h
      rw [← UInt8.toNat_inj] at this
      constructor
      · rintro (q | q)
        · omega
        · exact q.2
      · intro q; exact .inr ⟨z.1 h, q⟩
    · rw [if_neg h]
      constructor
      · rintro (q | q)
        · exact l.2 q
        · exact absurd (z.2 q.1) h
      · intro q; exact .inl (l.1 q)
theorem eq_iff (f g : Nat → UInt8) (m : Nat) : ((List.range m).map f == (List.range m).map g) = decide (cmpF f g 0 m = 0) := by
  rw [Bool.eq_iff_iff, beq_iff_eq, decide_eq_true_eq, cmpF_zero]
  constructor
  · intro h j _ hj
    have := congrArg (fun l => l[j]?) h
    simpa [show j < m by omega] using this
  · intro h
    apply List.map_congr_left
    intro j hj
    exact h j (Nat.zero_le _) (by simpa using hj)

theorem pad_less (a b : List UInt8) (m : Nat) (h1 : a.length ≤ m) (h2 : b.length ≤ m) : Op.bytesLess (fitL a m false) (fitL b m false) = decide (cmpL a b < 0) := by
  rw [fitL_padAt a m h1, fitL_padAt b m h2, cmpL_at a b m h1 h2, List.range_eq_range', less_iff]
theorem pad_eq (a b : List UInt8) (m : Nat) (h1 : a.length ≤ m) (h2 : b.length ≤ m) : (fitL a m false == fitL b m false) = decide (cmpL a b = 0) := by
  rw [fitL_padAt a m h1, fitL_padAt b m h2, cmpL_at a b m h1 h2, eq_iff]

/-- what is owned reads as a slice of bytes -/
theorem own_sl {w : World} {base n : Nat} {v : Value} {l : List UInt8} (h : w.ownsRow base 5 1 v n (cells8 l)) : ∃ A c, v = .slice A n c ∧ Sl w w.heap.size A l ∧ n = l.length := by
  have hn : n = l.length := by have := h.1; rw [cells8_length] at this; omega
  rcases h.2 with ⟨rfl, h0⟩ | ⟨g, cap, cur, rfl, hb, hh, _⟩
  · subst h0
    exact ⟨none, 0, rfl, .inl (List.eq_nil_of_length_eq_zero hn.symm), hn⟩
  · refine ⟨some ⟨g, 0, none⟩, cap, rfl, .inr ⟨g, 0, rfl, (Array.getElem?_eq_some_iff.1 hh).1, fun j u hu => ?_⟩, hn⟩
    have hj : j < n * 1 := by
      have := (List.getElem?_eq_some_iff.1 hu).1
      omega
    rw [Nat.zero_add, World.ownsRow.cellAt h j hj, cells8, List.getElem?_map, hu]; rfl

/-- append([]byte(nil), a...) -/
theorem append_nil8 (w : World) (A : Option Addr) (l : List UInt8) (n cap B : Nat) (hA : Sl w B A l) (hn : n = l.length) (hnone : A = none → n = 0 ∧ cap = 0) (hs : n ≤ 1000) :
    ∃ A' c w', (Builtin.append_ #[25, 25] 25 #[.slice none 0 0, .slice A n cap]).run Try.prog w = .ok (.slice A' n c) w' ∧ w'.ownsRow w.heap.size 5 1 (.slice A' n c) n (cells8 l) ∧ Below w.heap.size w w' := by
  obtain ⟨i0, hi, hz0, hz1, hz2⟩ := info_parts u8info
  rcases A with _ | a
  · obtain ⟨rfl, rfl⟩ := hnone rfl
    have hl : l = [] := List.eq_nil_of_length_eq_zero hn.symm
    subst hl
    have h := run_append_owned_none (P := Try.prog) w w.heap.size 25 25 5 i0 1 Try.underlying25 hi (.slice none 0 0) 0 [] (World.ownsRow_nil _ _ _ _)
    exact ⟨none, 0, w, h, World.ownsRow_nil _ _ _ _, Below.refl _ _⟩
  · obtain ⟨v', w', hrun, hown, hg, _⟩ := run_append_own (P := Try.prog) w w.heap.size 25 25 5 i0 (.int .u8 0) 1 1 Try.underlying25 hi hz0 hz1 hz2 rfl (by omega) (.slice none 0 0) 0 [] (World.ownsRow_nil _ _ _ _)
      a n cap (cells8 l) (by rw [cells8_length, hn]; omega) (fun j u hj => by
        obtain ⟨x, hx, rfl⟩ := cells8_at _ _ _ hj
        rcases hA with rfl | ⟨b, off, e, _, hc⟩
        · simp at hx
        · injection e with e
          subst e
          rw [Addr.add_lit]
          exact hc j x hx) (cells8_one _) (by unfold maxLen; omega) (by omega) (Nat.le_refl _)
    rw [Nat.zero_add, List.nil_append] at hown
    obtain ⟨A', c, rfl, _, _⟩ := own_sl hown
    exact ⟨A', c, w', hrun, hown, (Below.refl _ _).grown hg (Nat.le_refl _) (by simp [Value.ownBlock])⟩

/-- append(v, ' '), v the call's own -/
theorem append_space8 (w0 w : World) (A : Option Addr) (l : List UInt8) (n c : Nat) (hown : w.ownsRow w0.heap.size 5 1 (.slice A n c) n (cells8 l)) (hb : Below w0.heap.size w0 w) (hs : n ≤ 1000) :
    ∃ A' c' w', (Builtin.append_ #[25, 25] 25 #[.slice A n c, .slice (some ⟨w.heap.size, 0, none⟩) 1 1]).run Try.prog (w.alloc (.cells #[.int .u8 32] 5)) = .ok (.slice A' (n + 1) c') w' ∧ Sl w' w'.heap.size A' (l ++ [32]) ∧ n + 1 = (l ++ [32]).length ∧ Below w0.heap.size w0 w' := by
  obtain ⟨i0, hi, hz0, hz1, hz2⟩ := info_parts u8info
  obtain ⟨v', w', hrun, hown', hg, _⟩ := run_append_own (P := Try.prog) (w.alloc (.cells #[.int .u8 32] 5)) w0.heap.size 25 25 5 i0 (.int .u8 0) 1 1 Try.underlying25 hi hz0 hz1 hz2 rfl (by omega) (.slice A n c) n (cells8 l) (hown.alloc _)
      ⟨w.heap.size, 0, none⟩ 1 1 (cells8 [32]) rfl (fun j u hj => by
        obtain ⟨x, hx, rfl⟩ := cells8_at _ _ _ hj
        rw [Addr.add_lit, Nat.zero_add]
        exact ((Blk8.new w [32]).row.2 j x hx).1) (cells8_one _) (by unfold maxLen; omega) (by omega) (by have := hb.size; simp; omega)
  have e : cells8 l ++ cells8 [32] = cells8 (l ++ [32]) := by simp [cells8]
  rw [e] at hown'
  obtain ⟨A', c', rfl, hsl, hlen⟩ := own_sl hown'
  refine ⟨A', c', w', hrun, hsl, hlen, (hb.alloc hb.size _).grown hg (by have := hb.size; simp; omega) (fun k hk => ?_)⟩
  exact (hown.lt k hk).1
/-- append by what its run comes to, guarded or not -/
theorem wpList_append_run {P : Program} {w : World} {ops : Array Oper} {rest : List Oper} {o : Oper} {a : Act} {Q : Exit → Act → World → Prop} (hw : Region.wanted o (yielded ops a.tmps) = true) (x y : Operand) (T : TypeId)
    (ho : o.op = .call { callee := .builtin .append, args := #[x, y], argTypes := #[T, T] }) (vx vy : Value) (hx : a.eval x = vx) (hy : a.eval y = vy) (v : Value) (w' : World) (ty : TypeId) (hty : o.type = ty)
    (hrun : (Builtin.append_ #[T, T] ty #[vx, vy]).run P w = .ok v w') (h : wpList P ops Q rest (a.put o.dst v) w') : wpList P ops Q (o :: rest) a w := by
  subst hty
  refine wpList_step fun K hK => ?_
  rw [if_pos hw]
  unfold Oper.wp execOp
  simp only [ho, resolve, invoke, builtin, Sem.run_bind, Sem.run_pure, Result.andThen_ok, List.map_toArray, List.map_cons, List.map_nil, hx, hy, hrun]
  exact hK _ _ h
end Go.Proofs.Ytlhkekdhgpmpaaa
