/-
  CONTRACTS of slices.DeleteFunc (over insertion symbols) and bare (layer 6, pictures).
-/
import Derived.Test.YteceealibfemjaaGreatDoorReaP
import Derived.Lib.SliceRun
import Derived.Lib.AppendStr
import Derived.Lib.FrozenHead
namespace Go.Proofs.YteceealibfemjaaGreatDoor
open Go.RowKit Go.Shelf

/-- block g is a row of bytes that a conversion made, with cap places; its first ones hold l -/
def CRow (w : World) (g cap : Nat) (l : List UInt8) : Prop := ∃ cur : Array Value, w.heap[g]? = some (.cells cur 5 (cap, cap + 1)) ∧ cur.size = cap ∧ l.length ≤ cap ∧ ∀ (j : Nat) (u : UInt8), l[j]? = some u → cur[j]? = some (.int .u8 (u.toNat : Int))
theorem CRow.lt {w : World} {g cap : Nat} {l : List UInt8} (h : CRow w g cap l) : g < w.heap.size := by
  obtain ⟨cur, h1, _⟩ := h
  exact (Array.getElem?_eq_some_iff.1 h1).1
theorem CRow.le {w : World} {g cap : Nat} {l : List UInt8} (h : CRow w g cap l) : l.length ≤ cap := by obtain ⟨_, _, _, h, _⟩ := h; exact h
theorem CRow.block {w w' : World} {g cap : Nat} {l : List UInt8} (h : CRow w g cap l) (hb : w'.heap[g]? = w.heap[g]?) : CRow w' g cap l := by
  obtain ⟨cur, h1, h2⟩ := h
  exact ⟨cur, hb.trans h1, h2⟩
theorem CRow.below {w w' : World} {g cap : Nat} {l : List UInt8} (h : CRow w g cap l) (hb : Below w.heap.size w w') : CRow w' g cap l := h.block (hb.block g h.lt)
theorem CRow.cell {w : World} {g cap : Nat} {l : List UInt8} (h : CRow w g cap l) (k : Nat) (hk : k < l.length) : w.cell? ⟨g, k, none⟩ = some (.int .u8 (l[k].toNat : Int)) := by
  obtain ⟨cur, h1, h2, h3, h4⟩ := h
  rw [cell_of_row w g k _ _ _ h1]; exact h4 k _ (List.getElem?_eq_getElem hk)
theorem CRow.free {w : World} {g cap : Nat} {l : List UInt8} (h : CRow w g cap l) (k : Nat) (hk : k < cap) : w.frozen? ⟨g, k, none⟩ = false := by
  obtain ⟨cur, h1, h2, h3, h4⟩ := h
  unfold World.frozen?
  simp [h1]
  try omega
theorem CRow.at' {w : World} {g cap : Nat} {l : List UInt8} (h : CRow w g cap l) : RowAt w g 0 l := ⟨h.lt, fun j u hu => by
  obtain ⟨cur, h1, h2, h3, h4⟩ := h
  rw [Nat.zero_add, cell_of_row w g j _ _ _ h1]; exact h4 j u hu⟩
theorem CRow.set {w : World} {g cap : Nat} {l : List UInt8} (h : CRow w g cap l) (k : Nat) (hk : k < l.length) (c : UInt8) : CRow (w.setCell ⟨g, k, none⟩ (.int .u8 (c.toNat : Int))) g cap (l.set k c) := by
  obtain ⟨cur, h1, h2, h3, h4⟩ := h
  refine ⟨cur.setIfInBounds k (.int .u8 (c.toNat : Int)), ?_, by simpa using h2, by simpa using h3, fun j u hu => ?_⟩
  · simp [World.setCell, Array.getElem?_modify, h1]
  · by_cases e : k = j
    · subst e
      rw [List.getElem?_set_self hk] at hu
      injection hu with hu
      subst hu
      rw [Array.getElem?_setIfInBounds_self_of_lt (by omega)]
    · rw [List.getElem?_set_ne e] at hu
      rw [Array.getElem?_setIfInBounds_ne e]; exact h4 j u hu
theorem CRow.far {w : World} {g cap : Nat} {l : List UInt8} (h : CRow w g cap l) (k : Nat) (hk : l.length ≤ k) (v : Value) : CRow (w.setCell ⟨g, k, none⟩ v) g cap l := by
  obtain ⟨cur, h1, h2, h3, h4⟩ := h
  refine ⟨cur.setIfInBounds k v, ?_, by simpa using h2, h3, fun j u hu => ?_⟩
  · simp [World.setCell, Array.getElem?_modify, h1]
  · have hj := (List.getElem?_eq_some_iff.1 hu).1
    rw [Array.getElem?_setIfInBounds_ne (by omega)]; exact h4 j u hu
theorem CRow.fars {g cap : Nat} {l : List UInt8} (vs : List Value) : ∀ {w : World} (_ : CRow w g cap l) (k : Nat) (_ : l.length ≤ k), CRow (w.setCells g k vs) g cap l ∧ Mods (fun j => j = g) w (w.setCells g k vs) := by
  induction vs with
  | nil => intro w h k _; exact ⟨h, Mods.refl _ _⟩
  | cons v r ih =>
    intro w h k hk
    have := ih (h.far k hk v) (k + 1) (by omega)
    exact ⟨this.1, ((Mods.refl (fun j => j = g) w).set g k _ (fun _ => rfl)).trans this.2⟩
theorem CRow.push {w : World} {g cap : Nat} {l : List UInt8} (h : CRow w g cap l) (hc : l.length < cap) (c : UInt8) : CRow (w.setCell ⟨g, l.length, none⟩ (.int .u8 (c.toNat : Int))) g cap (l ++ [c]) := by
  obtain ⟨cur, h1, h2, h3, h4⟩ := h
  refine ⟨cur.setIfInBounds l.length (.int .u8 (c.toNat : Int)), ?_, by simpa using h2, by rw [List.length_append]; exact hc, fun j u hu => ?_⟩
  · simp [World.setCell, Array.getElem?_modify, h1]
  · by_cases e : l.length = j
    · subst e
      rw [List.getElem?_append_right (Nat.le_refl _)] at hu
      simp at hu
      subst hu
      rw [Array.getElem?_setIfInBounds_self_of_lt (by omega)]
    · rw [Array.getElem?_setIfInBounds_ne e]
      apply h4 j u
      have hj := (List.getElem?_eq_some_iff.1 hu).1
      rw [List.length_append, List.length_singleton] at hj
      rw [← hu, List.getElem?_append_left (by omega)]
theorem CRow.take {w : World} {g cap : Nat} {l : List UInt8} (h : CRow w g cap l) (k : Nat) : CRow w g cap (l.take k) := by
  obtain ⟨cur, h1, h2, h3, h4⟩ := h
  refine ⟨cur, h1, h2, by rw [List.length_take]; omega, fun j u hu => h4 j u ?_⟩
  rw [List.getElem?_take] at hu
  split at hu
  · exact hu
  · cases hu
theorem crow_of_string (w : World) (s : ByteArray) : ∃ cap C, s.size ≤ cap ∧ (convert 9 22 (.string s)).run Tryz.prog w = .ok (.slice (some ⟨w.heap.size, 0, none⟩) s.size cap) (w.drew.alloc (.cells C 5 (C.size, C.size + 1))) ∧ CRow (w.drew.alloc (.cells C 5 (C.size, C.size + 1))) w.heap.size cap s.data.toList := by
  have hge := grownCap_ge w s.size 0 5
  have hsz : (bytesRow s (grownCap w s.size 0 5)).size = grownCap w s.size 0 5 := by
    unfold bytesRow
    rw [Array.size_append, Array.size_map, Array.size_replicate]
    have : s.data.size = s.size := rfl
    omega
  refine ⟨grownCap w s.size 0 5, bytesRow s (grownCap w s.size 0 5), hge, run_bytes_of_string (P := Tryz.prog) w 9 22 5 s Tryz.underlying9 Tryz.underlying22 Tryz.underlying5, bytesRow s (grownCap w s.size 0 5), ?_, hsz, by rw [len_data]; exact hge, fun j u hu => ?_⟩
  · rw [hsz]; exact heap_alloc_new w.drew _
  · obtain ⟨hj, rfl⟩ := List.getElem?_eq_some_iff.1 hu
    have hj' : j < s.data.size := by simpa using hj
    have := bytesRow_at s (grownCap w s.size 0 5) j hj'
    rw [this]; rfl
theorem leadN_lt (p : UInt8 → Bool) (l : List UInt8) (j : Nat) (hj : j < l.length) (h : j < Pic.leadN p l) : p l[j] = true := by
  induction l generalizing j with
  | nil => simp at hj
  | cons c r ih =>
    unfold Pic.leadN at h
    cases hc : p c with
    | false => rw [if_neg (by rw [hc]; simp)] at h; omega
    | true =>
      rw [if_pos hc] at h
      cases j with
      | zero => exact hc
      | succ j => simpa using ih j (by simpa using hj) (by omega)
theorem leadN_at (p : UInt8 → Bool) (l : List UInt8) (k : Nat) (hk : k < l.length) (h : Pic.leadN p l = k) : p l[k] = false := by
  induction l generalizing k with
  | nil => simp at hk
  | cons c r ih =>
    unfold Pic.leadN at h
    cases hc : p c with
    | false => rw [if_neg (by rw [hc]; simp)] at h; subst h; exact hc
    | true =>
      rw [if_pos hc] at h
      obtain ⟨k, rfl⟩ : ∃ k', k = k' + 1 := ⟨k - 1, by omega⟩
      simpa using ih k (by simpa using hk) (by omega)
theorem u8inf : (Tryz.prog.info? 5).map (fun i => (i.zero, i.size, i.bytes)) = some (some (.int .u8 0), 1, 1) := by kernel_rfl
/-- append by what its run comes to, guarded or not -/
theorem wpList_append_run {P : Program} {w : World} {ops : Array Oper} {rest : List Oper} {o : Oper} {a : Act} {Q : Exit → Act → World → Prop} (hw : Region.wanted o (yielded ops a.tmps) = true) (x y : Operand) (T U : TypeId)
    (ho : o.op = .call { callee := .builtin .append, args := #[x, y], argTypes := #[T, U] }) (vx vy : Value) (hx : a.eval x = vx) (hy : a.eval y = vy) (v : Value) (w' : World) (ty : TypeId) (hty : o.type = ty)
    (hrun : (Builtin.append_ #[T, U] ty #[vx, vy]).run P w = .ok v w') (h : wpList P ops Q rest (a.put o.dst v) w') : wpList P ops Q (o :: rest) a w := by
  subst hty
  refine wpList_step fun K hK => ?_
  rw [if_pos hw]
  unfold Oper.wp execOp
  simp only [ho, resolve, invoke, builtin, Sem.run_bind, Sem.run_pure, Result.andThen_ok, List.map_toArray, List.map_cons, List.map_nil, hx, hy, hrun]
  exact hK _ _ h
/-- append of DB to what is left -/
theorem append_DB (w : World) (g cap : Nat) (l : List UInt8) (h : CRow w g cap l) (hl : l.length ≤ 2000) (ty : TypeId) :
    ∃ g' c' w', (Builtin.append_ #[22, 9] ty #[.slice (some ⟨g, 0, none⟩) l.length cap, .string ⟨#[68, 66]⟩]).run Tryz.prog w = .ok (.slice (some ⟨g', 0, none⟩) (l.length + 2) c') w' ∧ RowAt w' g' 0 (l ++ [68, 66]) ∧ l.length + 2 ≤ c' ∧ (g' = g ∨ w.heap.size ≤ g') ∧ Mods (fun j => j = g) w w' := by
  obtain ⟨i0, hi, hz0, hz1, hz2⟩ := info_parts u8inf
  by_cases hr : l.length + 2 ≤ cap
  · have hf := Lib.run_firstCells_string (P := Tryz.prog) w 1 ⟨#[68, 66]⟩
    have hc0 := h.at'
    have hcl : ∀ j, j < (Lib.strCells ⟨#[68, 66]⟩).length → (w.cell? ⟨g, l.length + 0 + j, none⟩).isSome = true := fun j hj => by
      obtain ⟨cur, h1, h2, h3, h4⟩ := h
      have hj2 : j < 2 := hj
      rw [cell_of_row w g _ _ _ _ h1, Array.getElem?_eq_getElem (by omega)]; rfl
    have hfl : ∀ j, j < (Lib.strCells ⟨#[68, 66]⟩).length → w.frozen? ⟨g, l.length + 0 + j, none⟩ = false := fun j hj => by
      have hj2 : j < 2 := hj
      exact h.free _ (by omega)
    have hst := run_storeCells_cells (P := Tryz.prog) g l.length (Lib.strCells ⟨#[68, 66]⟩) 0 w hcl hfl (Lib.strCells_oneCell _)
    have hc1 := h.push (by omega) 68
    have hc2 := hc1.push (by rw [List.length_append]; simp; omega) 66
    refine ⟨g, cap, w.setCells g l.length (Lib.strCells ⟨#[68, 66]⟩), ?_, ?_, hr, .inl rfl, ?_⟩
    · have hroom : l.length + (⟨#[68, 66]⟩ : ByteArray).size ≤ cap := hr
      simp only [Nat.add_zero] at hst
      have hadd : (⟨g, 0, none⟩ : Addr).add l.length = ⟨g, l.length, none⟩ := by rw [Addr.add_lit, Nat.zero_add]
      simp [Builtin.append_, run_underlying Tryz.underlying22, run_underlying Tryz.underlying9, sizeOf, typeInfo, hi, hz1, Builtin.lenOf, hroom, hf, hadd, hst]
      try rfl
    · have := hc2.at'
      rw [List.length_append, List.length_singleton, List.append_assoc] at this
      exact this
    · exact ((Mods.refl (fun j => j = g) w).set g _ _ (fun _ => rfl)).set g _ _ (fun _ => rfl)
  · have holds : ∀ (j : Nat) (v : Value), (cells8 l)[j]? = some v → w.cell? ((⟨g, 0, none⟩ : Addr).add j) = some v := fun j v hv => by
      obtain ⟨u, hu, rfl⟩ := cells8_at l j v hv
      rw [Addr.add_lit]; exact h.at'.2 j u hu
    have hrun := Lib.run_append_grow_string (P := Tryz.prog) w 22 9 ty 5 i0 (.int .u8 0) Tryz.underlying22 Tryz.underlying9 hi hz0 ⟨g, 0, none⟩ l.length cap (cells8 l) (by rw [cells8_length, hz1, Nat.mul_one]) holds ⟨#[68, 66]⟩ (by show cap < l.length + 2; omega) (by show ((l.length + 2 : Nat) : Int) ≤ _; omega)
      (by rw [hz2]; exact growslice_fits (by show cap < l.length + 2; omega) (by show (l.length + 2) * 1 ≤ _; omega))
    refine ⟨w.heap.size, _, _, hrun, ⟨by simp, fun j u hu => ?_⟩, ?_, .inr (Nat.le_refl _), ?_⟩
    · have hnew := heap_alloc_new w.drew (.cells ((cells8 l).toArray ++ (Lib.strCells ⟨#[68, 66]⟩).toArray ++ Builtin.zeroCells (Value.int IntKind.u8 0).cells (grownCap w (l.length + (⟨#[68, 66]⟩ : ByteArray).size) cap 5 - (l.length + (⟨#[68, 66]⟩ : ByteArray).size))) 5)
      rw [Nat.zero_add, cell_of_row _ w.heap.size j _ _ _ hnew]
      have hj := (List.getElem?_eq_some_iff.1 hu).1
      rw [List.length_append] at hj
      have hj2 : j < l.length + 2 := hj
      have h2 : ((cells8 l).toArray ++ (Lib.strCells ⟨#[68, 66]⟩).toArray)[j]? = some (.int .u8 (u.toNat : Int)) := by
        rw [show (cells8 l).toArray ++ (Lib.strCells ⟨#[68, 66]⟩).toArray = (cells8 l ++ Lib.strCells ⟨#[68, 66]⟩).toArray by simp, List.getElem?_toArray]
        have e : cells8 l ++ Lib.strCells ⟨#[68, 66]⟩ = (l ++ [68, 66]).map fun (u : UInt8) => Value.int .u8 (u.toNat : Int) := by
          rw [List.map_append]; rfl
        rw [e, List.getElem?_map, hu]; rfl
      rw [Array.getElem?_append_left (by simp [cells8_length, Lib.strCells_length]; show j < l.length + 2; exact hj2)]
      exact h2
    · exact grownCap_ge w _ _ _
    · exact ⟨rfl, rfl, rfl, by simp, fun k hk _ => heap_alloc_old w.drew _ hk⟩
/-- bare$1: the insertion symbols -/
theorem bare1_c : PredR 57 #[] insOf (fun _ => False) (fun _ w => SymW w) := by
  refine ⟨enters_of Tryz.func57 (by kernel_rfl) rfl, ?_⟩
  intro pre c W hs
  obtain ⟨a, k, hV⟩ : ∃ a k, symV c = .agg #[.int .u8 a, .int .u8 k, .bool (insOf c)] := ⟨_, _, rfl⟩
  obtain ⟨i, hi⟩ : ∃ i, i = insOf c := ⟨_, rfl⟩
  rw [← hi] at hV ⊢
  have hfd : ∀ W, (Instr.field 59 (.agg #[.int .u8 a, .int .u8 k, .bool i]) 2).run Tryz.prog W = .ok (.bool i) W := fun _ => by kernel_rfl
  have HF := hide (find_c c W hs)
  rw [hV] at HF
  have HS := hide hs
  clear hs hV hi
  show Calls Tryz.prog 57 #[.int .u8 (c.toNat : Int)] W _
  go_enter Tryz.func57, Tryz.ntmps57
  go_wp2_with fail
  refine HF.out.mono ?_
  rintro e w1 ⟨rfl, hb1⟩
  have HB1 := hide hb1
  clear hb1
  go_wp2_with fail
  go_ret
  exact ⟨rfl, HS.out.below HB1.out, Mods.of_below HB1.out⟩
def keep (l : List UInt8) : List UInt8 := l.filter (fun c => !insOf c)
theorem keep_snoc (l : List UInt8) (c : UInt8) : keep (l ++ [c]) = keep l ++ if insOf c then [] else [c] := by
  unfold keep
  rw [List.filter_append]
  cases h : insOf c <;> simp [h]
theorem take_succ' (l : List UInt8) (k : Nat) (h : k < l.length) : l.take (k + 1) = l.take k ++ [l[k]] := by rw [List.take_succ_eq_append_getElem h]
theorem keep_all (l : List UInt8) (h : ∀ (j : Nat) (hj : j < l.length), insOf l[j] = false) : keep l = l := by
  unfold keep
  rw [List.filter_eq_self]
  intro x hx
  obtain ⟨j, hj, rfl⟩ := List.mem_iff_getElem.1 hx
  rw [h j hj]; rfl
set_option maxRecDepth 100000 in
set_option maxHeartbeats 4000000 in
theorem DelF_c (g cap : Nat) (l : List UInt8) (w : World) (hl : l.length ≤ 1000) (hc : CRow w g cap l) (hsy : SymW w) (hg : g ≠ 0) :
    Calls Tryz.prog 58 #[.slice (some ⟨g, 0, none⟩) l.length cap, .func (.func 57) #[] #[]] w fun e w' => e = .returned (.slice (some ⟨g, 0, none⟩) (keep l).length cap) ∧ CRow w' g cap (keep l) ∧ Mods (fun j => j = g) w w' := by
  have eg : ∀ args w, (callFunc 57 args).run Tryz.prog w = .ok (.enter 57 args) w := bare1_c.enters
  have hidx := IdxF_c _ _ _ _ _ bare1_c (some ⟨g, 0, none⟩) cap w.heap.size l w (by omega) hc.at'.sl (Nat.le_refl _) (fun _ _ h => h) hsy
  obtain ⟨n, hn⟩ : ∃ n, n = Pic.leadN (fun c => !insOf c) l := ⟨_, rfl⟩
  have hle := Pic.leadN_le (fun c => !insOf c) l
  rw [← hn] at hle
  have hfront : ∀ (j : Nat) (hj : j < l.length), j < n → insOf l[j] = false := fun j hj hjn => by
    have := leadN_lt (fun c => !insOf c) l j hj (by omega)
    simpa using this
  unfold idxR at hidx
  rw [← hn] at hidx
  have hcl := hc.le
  obtain ⟨N, hN⟩ : ∃ N, N = l.length := ⟨_, rfl⟩
  rw [← hN] at hidx hle hcl ⊢
  have HN := hide hN
  have hN' : N ≤ 1000 := by omega
  have HC := hide hc
  have HI := hide hidx
  have HFR := hide hfront
  have HSY := hide hsy
  by_cases h0 : n = N
  · have e1 : (if n = N then (-1 : Int) else (n : Int)) = -1 := if_pos h0
    have HK : Hid (keep l = l) := keep_all l (fun j hj => hfront j hj (by omega))
    rw [e1] at HI
    clear hidx hc hfront hsy hn hN e1 h0
    go_enter Tryz.func58, Tryz.ntmps58
    go_wp2_with fail
    refine HI.out.mono ?_
    rintro e w1 ⟨rfl, _, hm1⟩
    have HM1 := hide hm1
    clear hm1 HI
    go_wp2_with fail
    go_ret
    exact ⟨by rw [HK.out, ← HN.out]; rfl, by rw [HK.out]; exact HC.out.below (HM1.out.toBelow (Nat.le_refl _) (fun _ _ h => h)), HM1.out.weak (fun _ _ h => h.elim)⟩
  · have e1 : (if n = N then (-1 : Int) else (n : Int)) = n := if_neg h0
    rw [e1] at HI
    have hnlt : n < N := by omega
    have hneg : ((n : Int) == -1) = false := beq_eq_false_iff_ne.2 (by omega)
    have hins : insOf (l[n]'(by omega)) = true := by
      have := leadN_at (fun c => !insOf c) l n (by omega) hn.symm
      simpa using this
    have HST : Hid (keep (l.take (n + 1)) = l.take n) := by
      unfold Hid
      rw [take_succ' l n (by omega), keep_snoc, hins, if_pos rfl, List.append_nil]
      apply keep_all
      intro j hj
      rw [List.getElem_take]
      rw [List.length_take] at hj
      exact hfront j (by omega) (by omega)
    clear hidx hc hfront hsy hn hN e1 h0 hins
    go_enter Tryz.func58, Tryz.ntmps58
    go_wp2_with fail
    refine HI.out.mono ?_
    rintro e w1 ⟨rfl, hsy1, hm1⟩
    have HB1 : Hid (Below w.heap.size w w1) := hm1.toBelow (Nat.le_refl _) (fun _ _ h => h)
    have HC1 := hide (HC.out.below HB1.out)
    have HS1 := hide hsy1
    clear hm1 HI hsy1
    go_wp2_with fail
    go_loopw [5, 6] (fun iv jv wr => ∃ (a c : Nat) (m : List UInt8), iv = .int .i64 (a : Int) ∧ jv = .int .i64 (c : Int) ∧ a < c ∧ c ≤ N ∧ m.length = N ∧ Hid (a = (keep (l.take c)).length) ∧ Hid (m.take a = keep (l.take c)) ∧ Hid (m.drop c = l.drop c) ∧ Hid (CRow wr g cap m) ∧ Hid (SymW wr) ∧ Hid (Mods (fun j => j = g) w wr)) (fun _ jv _ => N - (intOf jv).toNat)
    case atStart => exact ⟨n, n + 1, l, rfl, by first | rfl | go_num, by omega, by omega, HN.out.symm, by rw [HST.out]; unfold Hid; rw [List.length_take]; have := HN.out; omega, by rw [HST.out]; exact rfl, rfl, HC1.out, HS1.out, (Mods.of_below HB1.out).weak (fun _ _ h => h.elim)⟩
    case round =>
      obtain ⟨a, c, m, rfl, rfl, hac, hcN, hml, hal, hmt, hmd, hcr, hsr, hmr⟩ := hrel
      obtain ⟨X, rfl⟩ : ∃ X, X = wr := ⟨_, rfl⟩
      have HML := hide hml
      clear hml
      have hgX : g < X.heap.size := hcr.out.lt
      by_cases hlt : c < N
      · have hcm : c < m.length := by rw [HML.out]; exact hlt
        have hcl' : c < l.length := by rw [← HN.out]; exact hlt
        have hmc : m[c]'hcm = l[c]'hcl' := by
          have h1 := congrArg (fun z => z[0]?) hmd.out
          simp only [List.getElem?_drop, Nat.add_zero] at h1
          rw [List.getElem?_eq_getElem hcm, List.getElem?_eq_getElem hcl'] at h1
          exact Option.some.inj h1
        have hcell := hcr.out.cell c hcm
        rw [hmc] at hcell
        obtain ⟨u, hu⟩ : ∃ u, u = l[c]'hcl' := ⟨_, rfl⟩
        rw [← hu] at hcell
        have hks : keep (l.take (c + 1)) = keep (l.take c) ++ if insOf u then [] else [u] := by rw [take_succ' l c hcl', keep_snoc, ← hu]
        have HKS := hide hks
        obtain ⟨i, hi⟩ : ∃ i, i = insOf u := ⟨_, rfl⟩
        have HCL : Hid (Calls Tryz.prog 57 #[.int .u8 (u.toNat : Int)] X fun e w' => e = .returned (.bool i) ∧ SymW w' ∧ Mods (fun _ => False) X w') := by
          have := bare1_c.says [] u X hsr.out
          rw [← hi] at this; exact this
        have HII := hide hi
        have HUU := hide hu
        have HMC := hide hmc
        clear hmc hu hks hi
        go_wp2_with fail
        refine HCL.out.mono ?_
        rintro e w3 ⟨rfl, hs3, hm3⟩
        have HB3 : Hid (Below X.heap.size X w3) := hm3.toBelow (Nat.le_refl _) (fun _ _ h => h)
        have HC3 := hide (hcr.out.below HB3.out)
        have HS3 := hide hs3
        have HM3 : Hid (Mods (fun j => j = g) w w3) := hmr.out.trans (hm3.weak (fun _ _ h => h.elim))
        clear hs3 hm3 HCL hcell hcr hsr hmr
        cases i with
        | true =>
          have HK2 : Hid (keep (l.take (c + 1)) = keep (l.take c)) := by unfold Hid; rw [HKS.out, ← HII.out, if_pos rfl, List.append_nil]
          have HD2 : Hid (m.drop (c + 1) = l.drop (c + 1)) := by unfold Hid; rw [← List.drop_drop, ← List.drop_drop, hmd.out]
          clear HKS
          go_wp2_with fail
          go_roundw
          case rel => exact ⟨a, c + 1, m, rfl, by go_num, by omega, hlt, HML.out, by rw [HK2.out]; exact hal, by rw [HK2.out]; exact hmt, HD2, HC3, HS3, HM3⟩
          case measure => simp [intOf]; omega
        | false =>
          have HK2 : Hid (keep (l.take (c + 1)) = keep (l.take c) ++ [u]) := by unfold Hid; rw [HKS.out, ← HII.out, if_neg (by simp)]
          have ham : a < m.length := by rw [HML.out]; omega
          obtain ⟨z, hca⟩ : ∃ z, w3.cell? ⟨g, a, none⟩ = some z := ⟨_, HC3.out.cell a ham⟩
          have hfa := HC3.out.free a (by have := HC3.out.le; omega)
          have hgw3 : g < w3.heap.size := HC3.out.lt
          have HC4 := hide (HC3.out.set a ham u)
          have HL4 : Hid ((m.set a u).length = N) := by unfold Hid; rw [List.length_set]; exact HML.out
          have HA4 : Hid (a + 1 = (keep (l.take (c + 1))).length) := by unfold Hid; rw [HK2.out, List.length_append, ← hal.out]; rfl
          have HT4 : Hid ((m.set a u).take (a + 1) = keep (l.take (c + 1))) := by
            unfold Hid
            rw [HK2.out, take_succ' (m.set a u) a (by rw [List.length_set]; exact ham), List.getElem_set_self, ← hmt.out]
            congr 1
            rw [List.take_set_of_le (Nat.le_refl _)]
          have HD4 : Hid ((m.set a u).drop (c + 1) = l.drop (c + 1)) := by
            unfold Hid
            rw [List.drop_set_of_lt (by omega), ← List.drop_drop, ← List.drop_drop, hmd.out]
          have HG := hide hg
          have hai : (0 : Int) ≤ (a : Int) ∧ (a : Int) < (N : Int) := by omega
          obtain ⟨hai1, hai2⟩ := hai
          clear HKS ham
          go_wp2_with fail
          go_roundw
          case rel => exact ⟨a + 1, c + 1, m.set a u, by go_num, by go_num, by omega, hlt, HL4.out, HA4, HT4, HD4, HC4, SymW.mods (M := fun j => j = g) HS3.out ((Mods.refl _ w3).set g a _ (fun _ => rfl)) (fun e => HG.out e.symm), HM3.out.trans ((Mods.refl (fun j => j = g) w3).set g a _ (fun _ => rfl))⟩
          case measure => simp [intOf]; omega
      · have hcN' : c = N := by omega
        have HKL : Hid (keep (l.take c) = keep l) := by unfold Hid; rw [hcN', HN.out, List.take_length]
        have han : 0 < N - a := by omega
        have haN : a < N := by omega
        have hcap := hcr.out.le
        rw [HML.out] at hcap
        have hclr : ∀ ty, (Builtin.clear_ #[22] ty #[.slice (some ⟨g, a, none⟩) (N - a) (cap - a)]).run Tryz.prog X = .ok (.tuple #[]) (X.setCells g a (List.replicate (N - a) (.int .u8 0))) := fun ty => by
          refine Lib.run_clear_slice X 22 5 ty (.int .u8 0) Tryz.underlying22 (fun _ => by kernel_rfl) rfl rfl g a (N - a) (cap - a) han (fun j hj => ?_) (fun j hj => ?_)
          · rw [hcr.out.cell (a + j) (by rw [HML.out]; omega)]; rfl
          · exact hcr.out.free (a + j) (by omega)
        have hfar := (hcr.out.take a).fars (List.replicate (N - a) (.int .u8 0)) a (by rw [List.length_take]; omega)
        rw [hmt.out, HKL.out] at hfar
        obtain ⟨Y, hY⟩ : ∃ Y, Y = X.setCells g a (List.replicate (N - a) (.int .u8 0)) := ⟨_, rfl⟩
        rw [← hY] at hclr hfar
        have HFA := hide hfar
        have HAL : Hid (a = (keep l).length) := by unfold Hid; rw [← HKL.out]; exact hal.out
        have hclr' := hclr 22
        have hac' : ¬ a = cap := by omega
        clear hfar hY hcN' hcr
        go_wp2_with fail
        go_ret
        exact ⟨by rw [← HAL.out]; rfl, HFA.out.1, hmr.out.trans HFA.out.2⟩
set_option maxRecDepth 100000 in
set_option maxHeartbeats 4000000 in
theorem bare_c (s : ByteArray) (w : World) (hs : s.size ≤ 1000) (he : EnvP w) :
    Calls Tryz.prog 34 #[.string s] w fun e w' => ∃ g cap, e = .returned (.slice (some ⟨g, 0, none⟩) (Pic.barL s.data.toList).length cap) ∧ RowAt w' g 0 (Pic.barL s.data.toList) ∧ (Pic.barL s.data.toList).length ≤ cap ∧ w.heap.size ≤ g ∧ Below w.heap.size w w' := by
  obtain ⟨R, hR⟩ : ∃ R, R = Pic.barL s.data.toList := ⟨_, rfl⟩
  rw [← hR]
  obtain ⟨f, hf⟩ : ∃ f, f = Lib.trimSuffix s.data.toList [68, 66] := ⟨_, rfl⟩
  obtain ⟨d, hd⟩ : ∃ d, d = Lib.hasSuffix s.data.toList [68, 66] := ⟨_, rfl⟩
  have hfl : f.length ≤ 1000 := by
    rw [hf]; unfold Lib.trimSuffix
    split
    · rw [List.length_take, len_data]; omega
    · rw [len_data]; exact hs
  have HCS : Hid (∀ W, Calls Tryz.prog 56 #[.string s, .string ⟨#[68, 66]⟩] W fun e w' => e = .returned (.tuple #[.string (mk f), .bool d]) ∧ W = w') := fun W => by
    refine (Tryz.strings_CutSuffix s ⟨#[68, 66]⟩ W (by omega)).mono fun e w' h => ⟨?_, h.2.symm⟩
    rw [h.1, hf, hd]; rfl
  have hgl : 0 < w.heap.size := by obtain ⟨t, fr, h⟩ := he.sym; exact (Array.getElem?_eq_some_iff.1 h).1
  have HX : Hid (R = keep f ++ if d = true then [68, 66] else []) := by unfold Hid keep; rw [hR, hf, hd]; rfl
  obtain ⟨F, hF⟩ : ∃ F, F = mk f := ⟨_, rfl⟩
  obtain ⟨cap, C, hcap, hconv, hrow⟩ := crow_of_string w F
  obtain ⟨W1, hW1⟩ : ∃ W1, W1 = w.drew.alloc (.cells C 5 (C.size, C.size + 1)) := ⟨_, rfl⟩
  have hb1 : Below w.heap.size w W1 := by rw [hW1]; exact (Below.refl _ w).drew.alloc (Nat.le_refl _) _
  rw [← hW1] at hconv hrow
  rw [hF, mk_data] at hrow
  have hFs : F.size = f.length := by rw [hF, mk_sz]
  rw [hFs] at hconv hcap
  have HDF := hide (DelF_c w.heap.size cap f W1 hfl hrow (he.sym.below hb1) (by omega))
  have HB1 := hide hb1
  have hkl : (keep f).length ≤ f.length := List.length_filter_le _ _
  rw [← hF] at HCS
  have HHG := hide hgl
  clear hR hf hd hgl hF hW1 hb1 hrow hFs he
  go_enter Tryz.func34, Tryz.ntmps34
  go_wp2_with fail
  refine (HCS.out _).mono ?_
  rintro e w' ⟨rfl, rfl⟩
  go_wp2_with fail
  refine HDF.out.mono ?_
  rintro e w3 ⟨rfl, hc3, hm3⟩
  have HC3 := hide hc3
  have HB3 : Hid (Below w.heap.size w w3) := HB1.out.trans (hm3.toBelow HB1.out.size (fun j hj e => by omega))
  clear hc3 hm3 HDF hconv
  cases d with
  | false =>
    have HX2 : Hid (R = keep f) := by unfold Hid; rw [HX.out, if_neg (by simp), List.append_nil]
    clear HX
    go_wp2_with fail
    go_ret
    exact ⟨w.heap.size, cap, by rw [HX2.out]; rfl, by rw [HX2.out]; exact HC3.out.at', by rw [HX2.out]; exact HC3.out.le, Nat.le_refl _, HB3.out⟩
  | true =>
    have HX2 : Hid (R = keep f ++ [68, 66]) := by unfold Hid; rw [HX.out, if_pos rfl]
    obtain ⟨g', c', W4, hrun, hr4, hc4, hg4, hm4⟩ := append_DB w3 w.heap.size cap (keep f) HC3.out (by omega) 22
    have hg4' : w.heap.size ≤ g' := by
      rcases hg4 with rfl | h
      · exact Nat.le_refl _
      · have := HB3.out.size; omega
    have HB4 : Hid (Below w.heap.size w W4) := HB3.out.trans (hm4.toBelow HB3.out.size (fun j hj e => by omega))
    have HR4 := hide hr4
    obtain ⟨K, hK⟩ : ∃ K, K = (keep f).length := ⟨_, rfl⟩
    rw [← hK] at hrun hc4
    have HKK := hide hK
    try rw [← hK]
    clear HX hr4 hg4 hm4 hK
    go_wp2_with (refine wpList_append_run (by first | rfl | kernel_rfl) _ _ _ _ rfl _ _ rfl rfl _ _ 22 rfl hrun ?_)
    go_ret
    have hlen : (keep f ++ [68, 66]).length = K + 2 := by rw [List.length_append, ← HKK.out]; rfl
    exact ⟨g', c', by rw [HX2.out, hlen]; rfl, by rw [HX2.out]; exact HR4.out, by rw [HX2.out, hlen]; exact hc4, hg4', HB4.out⟩
end Go.Proofs.YteceealibfemjaaGreatDoor
