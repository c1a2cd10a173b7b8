/-
  CONTRACT of Same (layer 3, tokens).
-/
import Derived.Test.YtghnffdjdjlomaaGreatDoorTxtC
namespace Go.Proofs.YtghnffdjdjlomaaGreatDoor
open Go.RowKit Go.Shelf

/-- a token as a value -/
abbrev tokA (t : TokL) : Value := .agg #[.int .u8 t.kind, .string (mk t.text), .int .i64 t.line, .int .i64 t.col, .bool t.left]
/-- the same kind and text -/
def sameT (a b : TokL) : Bool := decide (a.kind = b.kind) && decide (a.text = b.text)
/-- Same -/
def sameL (a b : List TokL) : Bool := decide (a.map (fun t => (t.kind, t.text)) = b.map (fun t => (t.kind, t.text)))
theorem mk_inj {a b : List UInt8} (h : mk a = mk b) : a = b := by
  rw [← mk_data a, ← mk_data b, h]
theorem sameL_len {a b : List TokL} (h : a.length ≠ b.length) : sameL a b = false := by
  unfold sameL
  refine decide_eq_false fun e => h ?_
  have := congrArg List.length e
  rwa [List.length_map, List.length_map] at this
theorem sameL_at {a b : List TokL} (k : Nat) (ha : k < a.length) (hb : k < b.length) (h : sameT a[k] b[k] = false) : sameL a b = false := by
  unfold sameL
  refine decide_eq_false fun e => ?_
  have h1 : (a.map (fun t => (t.kind, t.text)))[k]? = (b.map (fun t => (t.kind, t.text)))[k]? := by rw [e]
  rw [List.getElem?_map, List.getElem?_map, List.getElem?_eq_getElem ha, List.getElem?_eq_getElem hb] at h1
  injection h1 with h1
  injection h1 with h2 h3
  unfold sameT at h
  rw [decide_eq_true h2, decide_eq_true h3] at h
  cases h
theorem sameL_all {a b : List TokL} (hl : a.length = b.length) (h : ∀ k (ha : k < a.length) (hb : k < b.length), sameT a[k] b[k] = true) : sameL a b = true := by
  unfold sameL
  refine decide_eq_true (List.ext_getElem (by rw [List.length_map, List.length_map]; exact hl) fun k h1 h2 => ?_)
  rw [List.length_map] at h1 h2
  have := h k h1 h2
  unfold sameT at this
  rw [Bool.and_eq_true] at this
  rw [List.getElem_map, List.getElem_map, of_decide_eq_true this.1, of_decide_eq_true this.2]

theorem Same1_c (a b : TokL) (w : World) :
    Calls Tryz.prog 48 #[tokA a, tokA b] w fun e w' => e = .returned (.bool (sameT a b)) ∧ Below w.heap.size w w' := by
  obtain ⟨K, hK⟩ : ∃ K, K = a.kind := ⟨_, rfl⟩
  obtain ⟨M, hM⟩ : ∃ M, M = b.kind := ⟨_, rfl⟩
  obtain ⟨X, hX⟩ : ∃ X, X = mk a.text := ⟨_, rfl⟩
  obtain ⟨Y, hY⟩ : ∃ Y, Y = mk b.text := ⟨_, rfl⟩
  obtain ⟨R, hR⟩ : ∃ R, R = sameT a b := ⟨_, rfl⟩
  have HW : Hid (Below w.heap.size w ((w.alloc (.cells #[.int .u8 K, .string X, .int .i64 a.line, .int .i64 a.col, .bool a.left] 49)).alloc (.cells #[.int .u8 M, .string Y, .int .i64 b.line, .int .i64 b.col, .bool b.left] 49))) :=
    ((Below.refl _ w).alloc (Nat.le_refl _) _).alloc (by simp) _
  unfold tokA
  rw [← hR, ← hK, ← hM, ← hX, ← hY]
  by_cases hk : K = M
  · by_cases hx : X = Y
    · have HR : Hid (R = true) := by
        unfold Hid; rw [hR]; unfold sameT
        rw [decide_eq_true (by rw [← hK, ← hM]; exact hk), decide_eq_true (mk_inj (by rw [← hX, ← hY]; exact hx))]; rfl
      clear hR hK hM hX hY
      subst hk hx
      go_enter Tryz.func48, Tryz.ntmps48
      go_wp2_with fail
      go_ret
      exact ⟨by rw [HR.out]; rfl, HW.out⟩
    · have hxy : (X.toList == Y.toList) = false := by
        rw [ByteArray.toList_eq, ByteArray.toList_eq]
        refine beq_eq_false_iff_ne.2 fun e => hx ?_
        exact ByteArray.ext (Array.toList_inj.1 e)
      have HR : Hid (R = false) := by
        unfold Hid; rw [hR]; unfold sameT
        rw [decide_eq_false (p := a.text = b.text) (fun e => hx (by rw [hX, hY, e])), Bool.and_false]
      clear hR hK hM hX hY hx
      subst hk
      go_enter Tryz.func48, Tryz.ntmps48
      go_wp2_with fail
      go_ret
      exact ⟨by rw [HR.out]; rfl, HW.out⟩
  · have hkm : (K == M) = false := by simpa using hk
    have HR : Hid (R = false) := by
      unfold Hid; rw [hR]; unfold sameT
      rw [decide_eq_false (p := a.kind = b.kind) (fun e => hk (by rw [hK, hM, e])), Bool.false_and]
    clear hR hK hM hX hY hk
    go_enter Tryz.func48, Tryz.ntmps48
    go_wp2_with fail
    go_ret
    exact ⟨by rw [HR.out]; rfl, HW.out⟩

set_option maxHeartbeats 1000000 in
theorem EqF_c (a b : List TokL) (A C : Option Addr) (ca cb B : Nat) (w : World) (hta : TokIn w B A a) (htb : TokIn w B C b) (hB : B ≤ w.heap.size) (hla : a.length ≤ 281474976710656) (hlb : b.length ≤ 281474976710656) :
    Calls Tryz.prog 47 #[.slice A a.length ca, .slice C b.length cb, .func (.func 48) #[] #[]] w fun e w' => e = .returned (.bool (sameL a b)) ∧ Below w.heap.size w w' := by
  have HA := hide hta
  have HC := hide htb
  clear hta htb
  by_cases hl : a.length = b.length
  · have HL := hide hl
    have hne : ((a.length : Int) != (b.length : Int)) = false := by rw [hl]; simp
    clear hl
    obtain ⟨R, hR⟩ : ∃ R, R = sameL a b := ⟨_, rfl⟩
    have HR := hide hR
    rw [← hR]
    clear hR
    obtain ⟨n, hn⟩ : ∃ n, n = b.length := ⟨_, rfl⟩
    go_enter Tryz.func47, Tryz.ntmps47
    go_wp2_with fail
    go_loopw [17] (fun v wr => ∃ k : Nat, k ≤ a.length ∧ v = .int .i64 (k : Int) ∧ (∀ j (ha : j < a.length) (hb : j < b.length), j < k → sameT a[j] b[j] = true) ∧ Below w.heap.size w wr) (fun v _ => a.length - (intOf v).toNat)
    case atStart => exact ⟨0, Nat.zero_le _, rfl, fun j _ _ h => by omega, Below.refl _ _⟩
    case round =>
      obtain ⟨k, hk, rfl, hS, hb⟩ := hrel
      by_cases hlt : k < a.length
      · have hltb : k < b.length := by have := HL.out; omega
        obtain ⟨ab, ao, rfl, hab, p0, p1, p2, p3, p4⟩ := HA.out.at_ k hlt
        obtain ⟨bb, bo, rfl, hbb, q0, q1, q2, q3, q4⟩ := HC.out.at_ k hltb
        have hb' := hb.size
        have k0 : wr.cell? ⟨ab, ao + k * 5, none⟩ = some (.int .u8 a[k].kind) := (World.cell?_of_block (hb.block ab (by omega))).trans p0
        have k1 : wr.cell? ⟨ab, ao + k * 5 + 1, none⟩ = some (.string (mk a[k].text)) := (World.cell?_of_block (hb.block ab (by omega))).trans p1
        have k2 : wr.cell? ⟨ab, ao + k * 5 + 2, none⟩ = some (.int .i64 a[k].line) := (World.cell?_of_block (hb.block ab (by omega))).trans p2
        have k3 : wr.cell? ⟨ab, ao + k * 5 + 3, none⟩ = some (.int .i64 a[k].col) := (World.cell?_of_block (hb.block ab (by omega))).trans p3
        have k4 : wr.cell? ⟨ab, ao + k * 5 + 4, none⟩ = some (.bool a[k].left) := (World.cell?_of_block (hb.block ab (by omega))).trans p4
        have hS1 : sameT a[k] b[k] = true → ∀ j (ha : j < a.length) (hb : j < b.length), j < k + 1 → sameT a[j] b[j] = true := fun h j ha hb hj => by
          by_cases e : j = k
          · subst e; exact h
          · exact hS j ha hb (by omega)
        have hS2 : sameT a[k] b[k] = false → R = false := fun h => by rw [HR.out]; exact sameL_at k hlt hltb h
        obtain ⟨t, ht⟩ : ∃ t, t = a[k] := ⟨_, rfl⟩
        obtain ⟨u, hu⟩ : ∃ u, u = b[k] := ⟨_, rfl⟩
        rw [← ht] at k0 k1 k2 k3 k4 hS1 hS2
        rw [← hu] at q0 q1 q2 q3 q4 hS1 hS2
        obtain ⟨W1, hW1⟩ : ∃ W1, W1 = wr.alloc (.cells #[.int .u8 t.kind, .string (mk t.text), .int .i64 t.line, .int .i64 t.col, .bool t.left] 49) := ⟨_, rfl⟩
        have hb1 : Below wr.heap.size wr W1 := by rw [hW1]; exact below1 wr _
        have HB1 := hide (hb.trans (hb1.mono hb.size))
        have HW1 := hide hW1
        have hbb1 := HB1.out.block bb (by omega)
        have l0 := (World.cell?_of_block (a := ⟨bb, bo + k * 5, none⟩) hbb1).trans q0
        have l1 := (World.cell?_of_block (a := ⟨bb, bo + k * 5 + 1, none⟩) hbb1).trans q1
        have l2 := (World.cell?_of_block (a := ⟨bb, bo + k * 5 + 2, none⟩) hbb1).trans q2
        have l3 := (World.cell?_of_block (a := ⟨bb, bo + k * 5 + 3, none⟩) hbb1).trans q3
        have l4 := (World.cell?_of_block (a := ⟨bb, bo + k * 5 + 4, none⟩) hbb1).trans q4
        have z0 : W1.cell? ⟨wr.heap.size, 0, none⟩ = some (.int .u8 t.kind) := by rw [hW1]; exact (blk_new wr _ _).cell 0
        have z1 : W1.cell? ⟨wr.heap.size, 1, none⟩ = some (.string (mk t.text)) := by rw [hW1]; exact (blk_new wr _ _).cell 1
        have z2 : W1.cell? ⟨wr.heap.size, 2, none⟩ = some (.int .i64 t.line) := by rw [hW1]; exact (blk_new wr _ _).cell 2
        have z3 : W1.cell? ⟨wr.heap.size, 3, none⟩ = some (.int .i64 t.col) := by rw [hW1]; exact (blk_new wr _ _).cell 3
        have z4 : W1.cell? ⟨wr.heap.size, 4, none⟩ = some (.bool t.left) := by rw [hW1]; exact (blk_new wr _ _).cell 4
        have HBR := hide hb
        have hS1' := hide hS1
        have hS2' := hide hS2
        have hsz : W1.heap.size = wr.heap.size + 1 := by rw [hW1]; simp
        clear hS hS1 hS2 hb hb' hb1 hW1 hbb1 p0 p1 p2 p3 p4 q0 q1 q2 q3 q4 ht hu
        go_upto_region 6 with fail
        rw [← HW1.out]
        obtain ⟨W2, hW2⟩ : ∃ W2, W2 = W1.alloc (.cells #[.int .u8 u.kind, .string (mk u.text), .int .i64 u.line, .int .i64 u.col, .bool u.left] 49) := ⟨_, rfl⟩
        have hb2 : Below W1.heap.size W1 W2 := by rw [hW2]; exact below1 W1 _
        have HB2 := hide (HB1.out.trans (hb2.mono HB1.out.size))
        have HW2 := hide hW2
        have y0 : W2.cell? ⟨W1.heap.size, 0, none⟩ = some (.int .u8 u.kind) := by rw [hW2]; exact (blk_new W1 _ _).cell 0
        have y1 : W2.cell? ⟨W1.heap.size, 1, none⟩ = some (.string (mk u.text)) := by rw [hW2]; exact (blk_new W1 _ _).cell 1
        have y2 : W2.cell? ⟨W1.heap.size, 2, none⟩ = some (.int .i64 u.line) := by rw [hW2]; exact (blk_new W1 _ _).cell 2
        have y3 : W2.cell? ⟨W1.heap.size, 3, none⟩ = some (.int .i64 u.col) := by rw [hW2]; exact (blk_new W1 _ _).cell 3
        have y4 : W2.cell? ⟨W1.heap.size, 4, none⟩ = some (.bool u.left) := by rw [hW2]; exact (blk_new W1 _ _).cell 4
        rw [hsz] at y0 y1 y2 y3 y4
        have hzz := hb2.block wr.heap.size (by omega)
        have x0 := (World.cell?_of_block (a := ⟨wr.heap.size, 0, none⟩) hzz).trans z0
        have x1 := (World.cell?_of_block (a := ⟨wr.heap.size, 1, none⟩) hzz).trans z1
        have x2 := (World.cell?_of_block (a := ⟨wr.heap.size, 2, none⟩) hzz).trans z2
        have x3 := (World.cell?_of_block (a := ⟨wr.heap.size, 3, none⟩) hzz).trans z3
        have x4 := (World.cell?_of_block (a := ⟨wr.heap.size, 4, none⟩) hzz).trans z4
        have HS1 := hide (Same1_c t u W2)
        unfold tokA at HS1
        obtain ⟨T, hT⟩ : ∃ T, T = sameT t u := ⟨_, rfl⟩
        rw [← hT] at HS1 hS1' hS2'
        clear hW2 hb2 hzz hT z0 z1 z2 z3 z4 k0 k1 k2 k3 k4
        go_upto_region 7 with fail
        rw [← HW2.out]
        clear l0 l1 l2 l3 l4
        go_wp2_with fail
        refine HS1.out.mono ?_
        rintro e w3 ⟨rfl, hb3⟩
        have HB3 := hide (HB2.out.trans (hb3.mono HB2.out.size))
        clear hb3
        cases T
        · have HR2 : Hid (R = false) := hS2'.out rfl
          go_wp2_with fail
          go_ret
          exact ⟨by rw [HR2.out]; rfl, HB3.out⟩
        · have HS3 := hide (hS1'.out rfl)
          go_wp2_with fail
          go_roundw
          case rel => exact ⟨k + 1, hlt, by go_num, HS3.out, HB3.out⟩
          case measure => simp [intOf]; omega
      · have hall := sameL_all HL.out (fun j ha hb => hS j ha hb (by omega))
        have HR2 : Hid (R = true) := by unfold Hid; rw [HR.out]; exact hall
        have HB := hide hb
        clear hS hb hall
        go_wp2_with fail
        go_ret
        exact ⟨by rw [HR2.out]; rfl, HB.out⟩
  · have HR := hide (sameL_len hl)
    obtain ⟨R, hR⟩ : ∃ R, R = sameL a b := ⟨_, rfl⟩
    rw [← hR] at HR ⊢
    have hne : ((a.length : Int) != (b.length : Int)) = true := by simp; omega
    clear hl hR
    go_enter Tryz.func47, Tryz.ntmps47
    go_wp2_with fail
    go_ret
    exact ⟨by rw [HR.out]; rfl, Below.refl _ _⟩
theorem Same_c (a b : List TokL) (A C : Option Addr) (ca cb B : Nat) (w : World) (hta : TokIn w B A a) (htb : TokIn w B C b) (hB : B ≤ w.heap.size) (hla : a.length ≤ 281474976710656) (hlb : b.length ≤ 281474976710656) :
    Calls Tryz.prog 20 #[.slice A a.length ca, .slice C b.length cb] w fun e w' => e = .returned (.bool (sameL a b)) ∧ Below w.heap.size w w' := by
  have HE := hide (EqF_c a b A C ca cb B w hta htb hB hla hlb)
  obtain ⟨R, hR⟩ : ∃ R, R = sameL a b := ⟨_, rfl⟩
  rw [← hR] at HE ⊢
  clear hta htb hR
  go_enter Tryz.func20, Tryz.ntmps20
  go_wp2_with fail
  refine HE.out.mono ?_
  rintro e w1 ⟨rfl, hb⟩
  go_wp2_with fail
  go_ret
  exact ⟨rfl, hb⟩
end Go.Proofs.YtghnffdjdjlomaaGreatDoor
