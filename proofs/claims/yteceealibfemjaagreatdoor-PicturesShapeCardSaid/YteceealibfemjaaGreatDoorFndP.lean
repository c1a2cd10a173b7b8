/-
  CONTRACT of find (layer 6, pictures): the symbol of a character.
-/
import Derived.Test.YteceealibfemjaaGreatDoorPicB
import Derived.Laws.Rows
import Derived.LoopTactic
import Derived.Outline
namespace Go.Proofs.YteceealibfemjaaGreatDoor
open Go.RowKit Go.Shelf

/-- the table of symbols: the character, the first category of texts, whether it is an insertion symbol -/
def symT : List (UInt8 × Nat × Bool) :=
  [(65, 1, false), (88, 2, false), (57, 2, false), (66, 3, true), (48, 3, true), (47, 3, true), (44, 0, true), (83, 0, false), (86, 0, false), (80, 0, false),
   (90, 0, false), (42, 0, false), (43, 0, false), (45, 0, false), (46, 0, false), (36, 0, false), (67, 0, false), (82, 0, false), (68, 0, false)]
def symC (x : UInt8 × Nat × Bool) : List Value := [.int .u8 (x.1.toNat : Int), .int .u8 (x.2.1 : Int), .bool x.2.2]
def symF (c : UInt8) : Option (UInt8 × Nat × Bool) := symT.find? (fun x => x.1 == c)
def catOf (c : UInt8) : Nat := match symF c with | some x => x.2.1 | none => 0
def insOf (c : UInt8) : Bool := match symF c with | some x => x.2.2 | none => false
/-- what find returns -/
def symV (c : UInt8) : Value := .agg #[.int .u8 (if Pic.isSym c then (c.toNat : Int) else 0), .int .u8 (catOf c : Int), .bool (insOf c)]
def symCells : Array Value := (symT.flatMap symC).toArray
/-- the variable symbols holds the table -/
def SymW (w : World) : Prop := ∃ t fr, w.heap[0]? = some (.cells symCells t fr)
theorem SymW.below {w w' : World} (h : SymW w) (hb : Below w.heap.size w w') : SymW w' := by
  obtain ⟨t, fr, h⟩ := h
  exact ⟨t, fr, (hb.block _ (Array.getElem?_eq_some_iff.1 h).1).trans h⟩
theorem SymW.mods {M : Nat → Prop} {w w' : World} (h : SymW w) (hb : Mods M w w') (hM : ¬ M 0) : SymW w' := by
  obtain ⟨t, fr, h⟩ := h
  exact ⟨t, fr, (hb.block _ (Array.getElem?_eq_some_iff.1 h).1 hM).trans h⟩
theorem symF_at (c : UInt8) (k : Nat) (hk : k < 19) (h0 : ∀ j (hj : j < symT.length), j < k → (symT[j].1 == c) = false) (h1 : (symT[k]'(by exact hk)).1 = c) : symF c = some (symT[k]'(by exact hk)) := by
  unfold symF
  rw [List.find?_eq_some_iff_getElem]
  refine ⟨by simp [h1], k, hk, rfl, fun j hj => ?_⟩
  rw [h0 j (by have : symT.length = 19 := rfl; omega) hj]; rfl
theorem isSym_F (c : UInt8) : Pic.isSym c = (symF c).isSome := by
  unfold Pic.isSym symF
  rw [Bool.eq_iff_iff, List.find?_isSome]
  simp only [List.contains_iff_mem, beq_iff_eq]
  have e : ∀ a : UInt8, a ∈ Pic.symS ↔ ∃ x ∈ symT, x.1 = a := by
    intro a
    unfold Pic.symS symT
    simp only [List.mem_cons, List.not_mem_nil, or_false, exists_eq_or_imp, exists_eq_left]
    constructor <;> (intro h; simp only [or_assoc, or_comm, or_left_comm, eq_comm] at h ⊢; exact h)
  rw [e c]
theorem symV_yes (c : UInt8) (x : UInt8 × Nat × Bool) (h : symF c = some x) (hx : x.1 = c) : symV c = .agg (symC x).toArray := by
  unfold symV catOf insOf
  rw [isSym_F, h]
  show Value.agg #[.int .u8 (if true then (c.toNat : Int) else 0), .int .u8 (x.2.1 : Int), .bool x.2.2] = _
  rw [if_pos rfl, ← hx]; rfl
theorem symV_no (c : UInt8) (h : symF c = none) : symV c = .agg #[.int .u8 0, .int .u8 0, .bool false] := by
  unfold symV catOf insOf
  rw [isSym_F, h]
  rfl
theorem sym_idx (w : World) : (k : Nat) → (hk : k < 19) → (Instr.index 91 (.agg symCells) (.int .i64 (k : Int))).run Tryz.prog w = .ok (.agg (symC (symT[k]'(by exact hk))).toArray) w
  | 0, _ => by kernel_rfl
  | 1, _ => by kernel_rfl
  | 2, _ => by kernel_rfl
  | 3, _ => by kernel_rfl
  | 4, _ => by kernel_rfl
  | 5, _ => by kernel_rfl
  | 6, _ => by kernel_rfl
  | 7, _ => by kernel_rfl
  | 8, _ => by kernel_rfl
  | 9, _ => by kernel_rfl
  | 10, _ => by kernel_rfl
  | 11, _ => by kernel_rfl
  | 12, _ => by kernel_rfl
  | 13, _ => by kernel_rfl
  | 14, _ => by kernel_rfl
  | 15, _ => by kernel_rfl
  | 16, _ => by kernel_rfl
  | 17, _ => by kernel_rfl
  | 18, _ => by kernel_rfl
  | n + 19, h => absurd h (by omega)
set_option maxRecDepth 100000 in
set_option maxHeartbeats 2000000 in
theorem find_c (c : UInt8) (w : World) (hs : SymW w) :
    Calls Tryz.prog 26 #[.int .u8 (c.toNat : Int)] w fun e w' => e = .returned (symV c) ∧ Below w.heap.size w w' := by
  obtain ⟨t, fr, hs⟩ := hs
  have hgl : 0 < w.heap.size := (Array.getElem?_eq_some_iff.1 hs).1
  obtain ⟨W, hW⟩ : ∃ W, W = w.alloc (.cells #[.int .u8 0, .int .u8 0, .bool false] 59) := ⟨_, rfl⟩
  have hsW : W.heap[0]? = some (.cells symCells t fr) := by rw [hW]; exact (heap_alloc_old w _ hgl).trans hs
  have HBW : Hid (Below w.heap.size w W) := by unfold Hid; rw [hW]; exact below1 w _
  have HR : Hid (Blk W w.heap.size #[.int .u8 0, .int .u8 0, .bool false] 59) := by unfold Hid; rw [hW]; exact blk_new w _ _
  have HZ : Hid (W.heap.size = w.heap.size + 1) := by unfold Hid; rw [hW]; simp
  have HSW := hide hsW
  have hsA : Hid ((w.alloc (.cells #[.int .u8 0, .int .u8 0, .bool false] 59)).heap[0]? = some (.cells symCells t fr)) := by unfold Hid; rw [← hW]; exact hsW
  clear hs hsW hgl
  go_enter Tryz.func26, Tryz.ntmps26
  go_wp2_with (refine wpList_load_row rfl 91 _ rfl 0 rfl t symCells fr (.array 19 59) hsA.out (by kernel_rfl) rfl (by kernel_rfl) ?_)
  with_reducible rw [← hW]
  clear hW hsA
  go_loopw [6] (fun i wr => ∃ k : Nat, k ≤ 19 ∧ i = .int .i64 (k : Int) ∧ Below W.heap.size W wr ∧ Hid (∀ j (hj : j < symT.length), j < k → (symT[j].1 == c) = false)) (fun i _ => 19 - (intOf i).toNat)
  case atStart => exact ⟨0, by omega, rfl, Below.refl _ _, fun j _ hj => by omega⟩
  case round =>
    obtain ⟨k, hk, rfl, hb, hf⟩ := hrel
    obtain ⟨X, rfl⟩ : ∃ X, X = wr := ⟨_, rfl⟩
    have HB := hide hb
    have HX := hide (hb.size)
    have hbk : Blk X w.heap.size #[.int .u8 0, .int .u8 0, .bool false] 59 := (hb.block _ HR.out.lt).trans HR.out
    have c0 := hbk.cell 0
    have c1 := hbk.cell 1
    have c2 := hbk.cell 2
    have f0 := hbk.free 0
    have f1 := hbk.free 1
    have f2 := hbk.free 2
    have hlx := hbk.lt
    have HBK := hide hbk
    clear hb hbk
    by_cases hlt : k < 19
    · have hidx := sym_idx X k hlt
      obtain ⟨x, hx⟩ : ∃ x, x = (symT[k]'(by exact hlt)) := ⟨_, rfl⟩
      rw [← hx] at hidx
      unfold symC at hidx
      obtain ⟨xc, xt, xb⟩ := x
      simp only [] at hidx
      have HX' := hide hx
      clear hx
      cases hc : xc == c with
      | true =>
        have hcb : ((xc.toNat : Int) == (c.toNat : Int)) = true := by
          rw [beq_iff_eq] at hc; rw [hc]; exact beq_self_eq_true _
        have HF : Hid (symV c = .agg #[.int .u8 (xc.toNat : Int), .int .u8 (xt : Int), .bool xb]) := by
          rw [beq_iff_eq] at hc
          have hfc := symF_at c k hlt hf.out (by rw [← HX'.out]; exact hc)
          rw [← HX'.out] at hfc
          exact symV_yes c _ hfc hc
        clear hc
        go_wp2_with fail
        refine bodyPost_ret (v := .agg #[.int .u8 (xc.toNat : Int), .int .u8 (xt : Int), .bool xb]) (by simp [results, Tryz.results26, go_sem, hlx, f0, f1, f2, c0, c1, c2]) rfl ⟨by rw [HF.out], ?_⟩
        exact (below_set3 (HBW.out.trans (HB.out.mono HBW.out.size)) (Nat.le_refl _) _ _ _).alloc (by have := HBW.out.size; have := HX.out; simp; omega) _
      | false =>
        have hcb : ((xc.toNat : Int) == (c.toNat : Int)) = false := by
          rw [beq_eq_false_iff_ne] at hc ⊢
          intro e; apply hc; exact UInt8.toNat_inj.1 (by omega)
        have HC : Hid (∀ j (hj : j < symT.length), j < k + 1 → (symT[j].1 == c) = false) := fun j hj hjk => by
          by_cases e : j = k
          · subst e
            have h1 : (symT[j]'hj).1 = xc := (congrArg (fun z => z.1) HX'.out).symm
            rw [h1]; exact hc
          · exact hf.out j hj (by omega)
        clear hc
        go_wp2_with fail
        go_roundw
        case rel => exact ⟨k + 1, by omega, by go_num, HB.out.alloc HX.out _, HC⟩
        case measure => simp [intOf]; omega
    · have HF : Hid (symV c = .agg #[.int .u8 0, .int .u8 0, .bool false]) := by
        apply symV_no
        unfold symF
        rw [List.find?_eq_none]
        intro x hx
        obtain ⟨j, hj, he⟩ := List.mem_iff_getElem.1 hx
        rw [← he, hf.out j hj (by have : symT.length = 19 := rfl; omega)]; simp
      have hk19 : k = 19 := by omega
      subst hk19
      go_wp2_with fail
      refine bodyPost_ret (v := .agg #[.int .u8 0, .int .u8 0, .bool false]) (by simp [results, Tryz.results26, go_sem, hlx, f0, f1, f2, c0, c1, c2]) rfl ⟨by rw [HF.out], ?_⟩
      exact below_set3 (HBW.out.trans (HB.out.mono HBW.out.size)) (Nat.le_refl _) _ _ _
end Go.Proofs.YteceealibfemjaaGreatDoor
