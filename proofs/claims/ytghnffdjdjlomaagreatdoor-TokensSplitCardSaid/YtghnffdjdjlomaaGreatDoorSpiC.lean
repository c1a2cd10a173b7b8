/-
  CONTRACTS of what Split calls (layer 3, tokens): its predicate, slices.IndexFunc, copied.
-/
import Derived.Test.YtghnffdjdjlomaaGreatDoorSamC
import Derived.Laws.CopyRow
namespace Go.Proofs.YtghnffdjdjlomaaGreatDoor
open Go.RowKit Go.Shelf

theorem Split1_c (a : TokL) (w : World) :
    Calls Tryz.prog 55 #[tokA a] w fun e w' => e = .returned (.bool (a.kind == 6)) ∧ Below w.heap.size w w' := by
  have HW : Hid (Below w.heap.size w (w.alloc (.cells #[.int .u8 a.kind, .string (mk a.text), .int .i64 a.line, .int .i64 a.col, .bool a.left] 49))) :=
    (Below.refl _ w).alloc (Nat.le_refl _) _
  unfold tokA
  go_enter Tryz.func55, Tryz.ntmps55
  go_wp2_with fail
  go_ret
  exact ⟨rfl, HW.out⟩

/-- where the first Period stands -/
def perI : List TokL → Int
  | [] => -1
  | t :: r => if t.kind == 6 then 0 else if perI r = -1 then -1 else perI r + 1
theorem perI_hit (l : List TokL) (k : Nat) (hk : k < l.length) (h : ∀ j (hj : j < l.length), j < k → (l[j].kind == 6) = false) (h1 : (l[k].kind == 6) = true) : perI l = k := by
  induction l generalizing k with
  | nil => simp at hk
  | cons t r ih =>
    unfold perI
    cases k with
    | zero => rw [if_pos (by simpa using h1)]; rfl
    | succ k =>
      have h0 := h 0 (by simp) (by omega)
      rw [List.getElem_cons_zero] at h0
      have := ih k (by simpa using hk) (fun j hj hjk => (by have := h (j + 1) (by simpa using hj) (by omega); rwa [List.getElem_cons_succ] at this)) (by rwa [List.getElem_cons_succ] at h1)
      rw [if_neg (by rw [h0]; decide), this, if_neg (by omega)]
      omega
theorem perI_none (l : List TokL) (h : ∀ j (hj : j < l.length), (l[j].kind == 6) = false) : perI l = -1 := by
  induction l with
  | nil => rfl
  | cons t r ih =>
    have h0 := h 0 (by simp)
    rw [List.getElem_cons_zero] at h0
    have := ih (fun j hj => (by have := h (j + 1) (by simpa using hj); rwa [List.getElem_cons_succ] at this))
    unfold perI
    rw [if_neg (by rw [h0]; decide), this, if_pos rfl]

set_option maxHeartbeats 1000000 in
theorem IdxF_c (a : List TokL) (A : Option Addr) (ca B : Nat) (w : World) (hta : TokIn w B A a) (hB : B ≤ w.heap.size) (hla : a.length ≤ 281474976710656) :
    Calls Tryz.prog 56 #[.slice A a.length ca, .func (.func 55) #[] #[]] w fun e w' => e = .returned (.int .i64 (perI a)) ∧ Below w.heap.size w w' := by
  have HA := hide hta
  clear hta
  obtain ⟨R, hR⟩ : ∃ R, R = perI a := ⟨_, rfl⟩
  have HR := hide hR
  rw [← hR]
  clear hR
  go_enter Tryz.func56, Tryz.ntmps56
  go_wp2_with fail
  go_loopw [8] (fun v wr => ∃ k : Nat, k ≤ a.length ∧ v = .int .i64 (k : Int) ∧ (∀ j (ha : j < a.length), j < k → (a[j].kind == 6) = false) ∧ Below w.heap.size w wr) (fun v _ => a.length - (intOf v).toNat)
  case atStart => exact ⟨0, Nat.zero_le _, rfl, fun j _ h => by omega, Below.refl _ _⟩
  case round =>
    obtain ⟨k, hk, rfl, hS, hb⟩ := hrel
    by_cases hlt : k < a.length
    · obtain ⟨ab, ao, rfl, hab, p0, p1, p2, p3, p4⟩ := HA.out.at_ k hlt
      have hb' := hb.size
      have k0 : wr.cell? ⟨ab, ao + k * 5, none⟩ = some (.int .u8 a[k].kind) := (World.cell?_of_block (hb.block ab (by omega))).trans p0
      have k1 : wr.cell? ⟨ab, ao + k * 5 + 1, none⟩ = some (.string (mk a[k].text)) := (World.cell?_of_block (hb.block ab (by omega))).trans p1
      have k2 : wr.cell? ⟨ab, ao + k * 5 + 2, none⟩ = some (.int .i64 a[k].line) := (World.cell?_of_block (hb.block ab (by omega))).trans p2
      have k3 : wr.cell? ⟨ab, ao + k * 5 + 3, none⟩ = some (.int .i64 a[k].col) := (World.cell?_of_block (hb.block ab (by omega))).trans p3
      have k4 : wr.cell? ⟨ab, ao + k * 5 + 4, none⟩ = some (.bool a[k].left) := (World.cell?_of_block (hb.block ab (by omega))).trans p4
      have hS1 : (a[k].kind == 6) = false → ∀ j (ha : j < a.length), j < k + 1 → (a[j].kind == 6) = false := fun h j ha hj => by
        by_cases e : j = k
        · subst e; exact h
        · exact hS j ha (by omega)
      have hS2 : (a[k].kind == 6) = true → R = k := fun h => by rw [HR.out]; exact perI_hit a k hlt hS h
      obtain ⟨t, ht⟩ : ∃ t, t = a[k] := ⟨_, rfl⟩
      rw [← ht] at k0 k1 k2 k3 k4 hS1 hS2
      have HS1 : Hid (∀ w1, Calls Tryz.prog 55 #[tokA t] w1 fun e w' => e = .returned (.bool (t.kind == 6)) ∧ Below w1.heap.size w1 w') := fun w1 => Split1_c t w1
      unfold tokA at HS1
      obtain ⟨T, hT⟩ : ∃ T, T = (t.kind == 6) := ⟨_, rfl⟩
      rw [← hT] at HS1 hS1 hS2
      have HB := hide hb
      have hS1' := hide hS1
      have hS2' := hide hS2
      clear hS hS1 hS2 hb hb' p0 p1 p2 p3 p4 ht hT
      go_wp2_with fail
      refine (HS1.out _).mono ?_
      rintro e w3 ⟨rfl, hb3⟩
      have HB3 := hide (HB.out.trans (hb3.mono HB.out.size))
      clear hb3
      cases T
      · have HS3 := hide (hS1'.out rfl)
        go_wp2_with fail
        go_roundw
        case rel => exact ⟨k + 1, hlt, by go_num, HS3.out, HB3.out⟩
        case measure => simp [intOf]; omega
      · have HR2 : Hid (R = k) := hS2'.out rfl
        go_wp2_with fail
        go_ret
        exact ⟨by rw [HR2.out]; rfl, HB3.out⟩
    · have HR2 : Hid (R = -1) := by unfold Hid; rw [HR.out]; exact perI_none a (fun j ha => hS j ha (by omega))
      have HB := hide hb
      clear hS hb
      go_wp2_with fail
      go_ret
      exact ⟨by rw [HR2.out]; rfl, HB.out⟩
theorem tokSize : (Tryz.prog.info? 49).map (·.size) = some 5 := by kernel_rfl
/-- 'make([]api.Token, m)' -/
theorem makeT (w : World) (m : Nat) (hm : m ≤ 2000000) : ∃ C : Array Value, C.size = m * 5 ∧ (Instr.makeSlice 36 (.int .i64 (m : Int)) (.int .i64 (m : Int))).run Tryz.prog w = .ok (.slice (some ⟨w.heap.size, 0, none⟩) m m) (w.alloc (.cells C 49)) := by
  obtain ⟨i0, hi, hz, hs, hb⟩ := info_parts tokInfo
  have h := run_make (P := Tryz.prog) w 36 49 i0 _ Tryz.underlying36 hi hz .i64 .i64 (m : Int) (m : Int) (by omega) (Int.le_refl _) (by rw [hb]; omega) (by omega)
  rw [Int.toNat_natCast, hs] at h
  exact ⟨_, size_madeCells _ _, h⟩
theorem tokCells_one (ts : List TokL) : ∀ v ∈ tokCells ts, v.oneCell' = true := by
  intro v hv
  unfold tokCells at hv
  obtain ⟨t, _, ht⟩ := List.mem_flatMap.1 hv
  simp only [List.mem_cons, List.not_mem_nil, or_false] at ht
  rcases ht with rfl | rfl | rfl | rfl | rfl <;> rfl
/-- 'copy(t, l)' of a whole list into a row of its length -/
theorem copyT (w : World) (g n cap B b off : Nat) (ts : List TokL) (cur : Array Value) (t ty : TypeId) (hts : TokIn w B (some ⟨b, off, none⟩) ts) (hn : n = ts.length) (hg : w.heap[g]? = some (.cells cur t (0, 0))) (hc : cur.size = n * 5) :
    (Builtin.copy_ #[36, 36] ty #[.slice (some ⟨g, 0, none⟩) n n, .slice (some ⟨b, off, none⟩) n cap]).run Tryz.prog w = .ok (goInt n) (w.setRow g (tokCells ts).toArray) := by
  have hsrc : ∀ j v, (tokCells ts)[j]? = some v → w.cell? ((⟨b, off, none⟩ : Addr).add j) = some v := by
    intro j v hv
    have hj : j < ts.length * 5 := by
      have := (List.getElem?_eq_some_iff.1 hv).1
      rwa [tokCells_length] at this
    obtain ⟨q, r, rfl, hr⟩ : ∃ q r, j = q * 5 + r ∧ r < 5 := ⟨j / 5, j % 5, by omega, Nat.mod_lt _ (by omega)⟩
    have hq : q < ts.length := by omega
    obtain ⟨e0, e1, e2, e3, e4⟩ := tokCells_at ts q hq
    obtain ⟨b', off', hA, _, c0, c1, c2, c3, c4⟩ := hts.at_ q hq
    injection hA with hA
    injection hA with h1 h2
    subst h1 h2
    rw [Addr.add_lit]
    have hr' : r = 0 ∨ r = 1 ∨ r = 2 ∨ r = 3 ∨ r = 4 := by omega
    rcases hr' with rfl | rfl | rfl | rfl | rfl
    · rw [Nat.add_zero] at hv; rw [e0] at hv; rw [← hv]; exact c0
    · rw [e1] at hv; rw [← hv, ← Nat.add_assoc]; exact c1
    · rw [e2] at hv; rw [← hv, ← Nat.add_assoc]; exact c2
    · rw [e3] at hv; rw [← hv, ← Nat.add_assoc]; exact c3
    · rw [e4] at hv; rw [← hv, ← Nat.add_assoc]; exact c4
  have hl := run_loadCells_list (P := Tryz.prog) w ⟨b, off, none⟩ (tokCells ts) hsrc
  have hst := run_storeCells_at Tryz.prog g 0 t (tokCells ts) 0 cur w hg (by rw [tokCells_length, hc, hn]; omega) (tokCells_one ts)
  have hcl : (tokCells ts).length = n * 5 := by rw [tokCells_length, hn]
  have hwhole : (cur.toList.take (0 + 0) ++ tokCells ts ++ cur.toList.drop (0 + 0 + (tokCells ts).length)) = tokCells ts := by
    rw [List.drop_of_length_le (by rw [hcl, Array.length_toList, hc]; omega)]
    simp
  rw [hwhole] at hst
  cases hq : Tryz.prog.info? 49 with
  | none => have := tokSize; rw [hq] at this; cases this
  | some i =>
    have hi : i.size = 5 := by have := tokSize; rw [hq] at this; simpa using this
    rw [hcl] at hl
    simp [Builtin.copy_, run_underlying Tryz.underlying36, Builtin.lenOf, Builtin.firstCells, sizeOf, typeInfo, hq, hi, hl, hst]
set_option maxHeartbeats 1000000 in
theorem copied_c (ts : List TokL) (b off cap B : Nat) (w : World) (hts : TokIn w B (some ⟨b, off, none⟩) ts) (hB : B ≤ w.heap.size) (hn : ts.length ≤ 2000000) :
    Calls Tryz.prog 57 #[.slice (some ⟨b, off, none⟩) ts.length cap] w fun e w' => e = .returned (.slice (some ⟨w.heap.size, 0, none⟩) ts.length ts.length) ∧ Blk w' w.heap.size (tokCells ts).toArray 49 ∧ Below w.heap.size w w' ∧ w'.heap.size = w.heap.size + 1 := by
  obtain ⟨C, hCs, hmk⟩ := makeT w ts.length hn
  obtain ⟨W1, hW1⟩ : ∃ W1, W1 = w.alloc (.cells C 49) := ⟨_, rfl⟩
  have hg : Blk W1 w.heap.size C 49 := by rw [hW1]; exact blk_new w _ _
  have hb1 : Below w.heap.size w W1 := by rw [hW1]; exact below1 w _
  have hs1 : W1.heap.size = w.heap.size + 1 := by rw [hW1]; simp
  rw [← hW1] at hmk
  obtain ⟨n, hn'⟩ : ∃ n, n = ts.length := ⟨_, rfl⟩
  rw [← hn'] at hmk hCs ⊢
  have hcp : ∀ ty, (Builtin.copy_ #[36, 36] ty #[.slice (some ⟨w.heap.size, 0, none⟩) n n, .slice (some ⟨b, off, none⟩) n cap]).run Tryz.prog W1 = .ok (goInt n) (W1.setRow w.heap.size (tokCells ts).toArray) := fun ty =>
    copyT W1 w.heap.size n cap B b off ts C 49 ty (hts.below (hb1.mono hB) B (Nat.le_refl _)) hn' hg hCs
  obtain ⟨W2, hW2⟩ : ∃ W2, W2 = W1.setRow w.heap.size (tokCells ts).toArray := ⟨_, rfl⟩
  have HB : Hid (Blk W2 w.heap.size (tokCells ts).toArray 49) := by unfold Hid; rw [hW2]; exact setRow_heap W1 _ _ _ _ _ hg
  have HL : Hid (Below w.heap.size w W2) := by unfold Hid; rw [hW2]; exact below_setRow hb1 (Nat.le_refl _) _
  have HS : Hid (W2.heap.size = w.heap.size + 1) := by unfold Hid; rw [hW2]; simp [hs1]
  rw [← hW2] at hcp
  have hcp' := hcp 3
  clear hts hB hn hCs hW1 hg hb1 hs1 hn' hW2 hcp
  go_enter Tryz.func57, Tryz.ntmps57
  go_wp2_with fail
  go_ret
  exact ⟨rfl, HB.out, HL.out, HS.out⟩
end Go.Proofs.YtghnffdjdjlomaaGreatDoor
