/-
  CONTRACT of law 06's edited (layer 6, pictures).
-/
import Derived.Test.YteceealibfemjaaGreatDoorMnyP
import Derived.StillTailTactics
namespace Go.Proofs.YteceealibfemjaaGreatDoor
open Go.RowKit Go.Shelf

theorem ed_fr : (k : Nat) → (h : k < 8) → ([.string ⟨#[]⟩, .string ⟨#[43]⟩, .string ⟨#[45]⟩, .string ⟨#[]⟩, .string ⟨#[]⟩, .string ⟨#[]⟩, .string ⟨#[]⟩, .string ⟨#[]⟩] : List Value)[k]'(by exact h) = .string (mk (Pic.edFront k))
  | 0, _ => rfl
  | 1, _ => rfl
  | 2, _ => rfl
  | 3, _ => rfl
  | 4, _ => rfl
  | 5, _ => rfl
  | 6, _ => rfl
  | 7, _ => rfl
  | n + 8, h => absurd h (by omega)
theorem ed_tl : (k : Nat) → (h : k < 8) → ([.string ⟨#[]⟩, .string ⟨#[]⟩, .string ⟨#[]⟩, .string ⟨#[43]⟩, .string ⟨#[45]⟩, .string ⟨#[67, 82]⟩, .string ⟨#[68, 66]⟩, .string ⟨#[]⟩] : List Value)[k]'(by exact h) = .string (mk (Pic.edTail k))
  | 0, _ => rfl
  | 1, _ => rfl
  | 2, _ => rfl
  | 3, _ => rfl
  | 4, _ => rfl
  | 5, _ => rfl
  | 6, _ => rfl
  | 7, _ => rfl
  | n + 8, h => absurd h (by omega)
def sym0 (fm : Nat) : UInt8 := [90, 42, 57, 36, 43, 45, 57, 57].getD fm 57
theorem ed_sy : (k : Nat) → (h : k < 8) → ([.string ⟨#[90]⟩, .string ⟨#[42]⟩, .string ⟨#[57]⟩, .string ⟨#[36]⟩, .string ⟨#[43]⟩, .string ⟨#[45]⟩, .string ⟨#[57]⟩, .string ⟨#[57]⟩] : List Value)[k]'(by exact h) = .string (mk [sym0 k])
  | 0, _ => rfl
  | 1, _ => rfl
  | 2, _ => rfl
  | 3, _ => rfl
  | 4, _ => rfl
  | 5, _ => rfl
  | 6, _ => rfl
  | 7, _ => rfl
  | n + 8, h => absurd h (by omega)
theorem ed_s0 : ∀ k, k < 8 → ((mk (Pic.edFront k) ++ mk (Pic.edTail k)).toList.isEmpty = !Pic.edSg k) ∧ (mk (Pic.edFront k)).size ≤ 1 ∧ (mk (Pic.edTail k)).size ≤ 2 := by decide +kernel
/-- the memory of edited: the parameter, the result's place, the shape -/
structure EdW (w : World) (K Wh S G F n m : Nat) (a : Value) (pic : ByteArray) (sg : Bool) (sz : Int) (W : World) : Prop where
  par : PrB W w.heap.size K Wh S G F a
  res : ShpB W (w.heap.size + 1) (shpC 0 ⟨#[]⟩ 0 0 false 0)
  sh : ShpB W (w.heap.size + 1 + 1) (shpC 5 pic ((n : Int) + 1 + (m : Int)) (m : Int) sg sz)
  bel : Below w.heap.size w W
theorem wvL_snoc (l : List UInt8) (c : UInt8) : ∀ bs : List UInt8, Pic.wvL (l ++ [c]) bs = Pic.wvL l bs ++ ((match bs[l.length]? with | some b => Pic.insB b | none => []) ++ [c]) := by
  induction l with
  | nil => intro bs; cases bs <;> rfl
  | cons d l ih =>
    intro bs
    cases bs with
    | nil =>
      have := ih []
      simp only [List.getElem?_nil] at this
      simp only [List.cons_append, Pic.wvL, List.getElem?_nil, this]
    | cons b bs =>
      have := ih bs
      simp only [List.cons_append, Pic.wvL, List.length_cons, List.getElem?_cons_succ, this, List.append_assoc]
def insAt (bs : List UInt8) (i : Nat) : List UInt8 := if i = 0 then [] else match bs[i - 1]? with
  | some b => Pic.insB b
  | none => []
theorem wv_take (ws bs : List UInt8) (i : Nat) (c : UInt8) (hc : ws[i]? = some c) : Pic.wv (ws.take (i + 1)) bs = Pic.wv (ws.take i) bs ++ (insAt bs i ++ [c]) := by
  cases ws with
  | nil => simp at hc
  | cons d l =>
    cases i with
    | zero => simp at hc; subst hc; rfl
    | succ i =>
      simp only [List.getElem?_cons_succ] at hc
      have hi := (List.getElem?_eq_some_iff.1 hc).1
      have ht : l.take (i + 1) = l.take i ++ [c] := by
        rw [List.take_succ_eq_append_getElem hi]
        congr 2
        exact (List.getElem?_eq_some_iff.1 hc).2
      have := wvL_snoc (l.take i) c bs
      rw [List.length_take, Nat.min_eq_left (by omega)] at this
      simp only [List.take_succ_cons, Pic.wv, ht, this, List.cons_append]
      rfl
theorem wv_len (ws bs : List UInt8) : (Pic.wv ws bs).length ≤ 2 * ws.length := (Pic.wv_facts ws bs).2.2.2.2.1
theorem whole_len (n sg fm ab : Nat) : (Pic.edWhole n sg fm ab).length ≤ n + 3 := by
  have hb : (Pic.edBody n sg fm ab).length ≤ n + 2 := by
    unfold Pic.edBody Pic.edK
    simp only [List.length_append, List.length_replicate]
    split <;> omega
  unfold Pic.edWhole
  simp only []
  split
  · simp only [List.length_cons]; omega
  · split
    · simp only [List.length_cons]; omega
    · split
      · simp only [List.length_cons]; omega
      · split
        · simp only [List.length_cons]; omega
        · omega
theorem whole_pos (n sg fm ab : Nat) : Pic.edWhole n sg fm ab ≠ [] := by
  have hb : Pic.edBody n sg fm ab ≠ [] := by
    intro e
    have := congrArg List.length e
    unfold Pic.edBody Pic.edK at this
    simp only [List.length_append, List.length_replicate, List.length_nil] at this
    split at this <;> omega
  unfold Pic.edWhole
  simp only []
  split
  · simp
  · split
    · simp
    · split
      · simp
      · split
        · simp
        · exact hb
theorem edP_pos (n m sg fm ab bb : Nat) (bs : List UInt8) : 1 ≤ (Pic.edP n m sg fm ab bb bs).length := by
  have h : 1 ≤ (Pic.wv (Pic.edWhole n sg fm ab) bs).length := by
    cases hw : Pic.edWhole n sg fm ab with
    | nil => exact absurd hw (whole_pos _ _ _ _)
    | cons c l => simp [Pic.wv]
  unfold Pic.edP
  rw [List.length_append, List.length_append]; omega
theorem edV_le (n m sg fm ab bb : Nat) (bs : List UInt8) : Pic.edV m bb ≤ (Pic.edP n m sg fm ab bb bs).length := by
  have h1 : Pic.edV m bb ≤ 1 := by unfold Pic.edV; split <;> omega
  have := edP_pos n m sg fm ab bb bs
  omega
theorem two_at (k : Nat) (h : k < 2) : ([.string ⟨#[46]⟩, .string ⟨#[86]⟩] : List Value)[k]'(by exact h) = .string (mk [if k = 1 then 86 else 46]) := by
  rcases (show k = 0 ∨ k = 1 by omega) with rfl | rfl <;> rfl
theorem insSym (b : UInt8) (h : b.toNat % 5 < 4) : (⟨#[66, 48, 47, 44]⟩ : ByteArray).extract (b.toNat % 5) (b.toNat % 5 + 1) = mk (Pic.insB b) := by
  have H : ∀ k, k < 4 → ((⟨#[66, 48, 47, 44]⟩ : ByteArray).extract k (k + 1)).data.toList = if k < 4 then [[66, 48, 47, 44].getD k 66] else [] := by decide +kernel
  have := H _ h
  unfold Pic.insB
  rw [← this]
  rfl
theorem insNo (b : UInt8) (h : ¬ b.toNat % 5 < 4) : Pic.insB b = [] := if_neg h
theorem sy_eq (x y : UInt8) : ((mk [x]).toList == [y]) = decide (x = y) := by
  rw [ByteArray.toList_eq, show (mk [x]).data.toList = [x] from rfl, Bool.eq_iff_iff, beq_iff_eq, decide_eq_true_eq]
  simp
theorem EdW.below {w : World} {K Wh S G F n m : Nat} {a : Value} {pic : ByteArray} {sg : Bool} {sz : Int} {W W' : World} (h : EdW w K Wh S G F n m a pic sg sz W) (hb : Below W.heap.size W W') : EdW w K Wh S G F n m a pic sg sz W' :=
  ⟨h.par.below hb, h.res.below hb, h.sh.below hb, h.bel.trans (hb.mono h.bel.size)⟩
theorem EdW.set {w : World} {K Wh S G F n m : Nat} {a : Value} {pic : ByteArray} {sg : Bool} {sz : Int} {W : World} (h : EdW w K Wh S G F n m a pic sg sz W) (j : Nat) (v : Value) (pic' : ByteArray) (sg' : Bool) (sz' : Int)
    (hv : (shpC 5 pic ((n : Int) + 1 + (m : Int)) (m : Int) sg sz).setIfInBounds j v = shpC 5 pic' ((n : Int) + 1 + (m : Int)) (m : Int) sg' sz') : EdW w K Wh S G F n m a pic' sg' sz' (W.setCell ⟨w.heap.size + 1 + 1, j, none⟩ v) :=
  ⟨(Below.heap_setCell W ⟨w.heap.size + 1 + 1, j, none⟩ _ _ (by show w.heap.size ≠ w.heap.size + 1 + 1; omega)).trans h.par, (Below.heap_setCell W ⟨w.heap.size + 1 + 1, j, none⟩ _ _ (by show w.heap.size + 1 ≠ w.heap.size + 1 + 1; omega)).trans h.res, by
    unfold ShpB
    rw [heap_setCell_same W _ j _ _ _ h.sh, hv], h.bel.setCell (p := ⟨w.heap.size + 1 + 1, j, none⟩) (by show w.heap.size ≤ w.heap.size + 1 + 1; omega) _⟩
theorem EdW.lt0 {w : World} {K Wh S G F n m : Nat} {a : Value} {pic : ByteArray} {sg : Bool} {sz : Int} {W : World} (h : EdW w K Wh S G F n m a pic sg sz W) : w.heap.size < W.heap.size := (Array.getElem?_eq_some_iff.1 h.par).1
theorem EdW.start3 (w : World) (K Wh S G F n m : Nat) (a : Value) (sg : Bool) : EdW w K Wh S G F n m a ⟨#[]⟩ sg 0 (((w.alloc (.cells #[.int .u8 (K : Int), .int .u8 (Wh : Int), .int .u8 (S : Int), .int .u8 (G : Int), .int .u8 (F : Int), a] 24)).alloc (.cells #[.int .u8 0, .int .u8 0, .string ⟨#[]⟩, .int .i64 0, .int .i64 0, .bool false, .bool false, .bool false, .bool false, .bool false, .int .i64 0] 28)).alloc (.cells #[.int .u8 5, .int .u8 0, .string ⟨#[]⟩, .int .i64 ((n : Int) + 1 + (m : Int)), .int .i64 (m : Int), .bool sg, .bool false, .bool false, .bool false, .bool false, .int .i64 0] 28)) := by
  have h1 : PrB (w.alloc (.cells #[.int .u8 (K : Int), .int .u8 (Wh : Int), .int .u8 (S : Int), .int .u8 (G : Int), .int .u8 (F : Int), a] 24)) w.heap.size K Wh S G F a := heap_alloc_new w _
  have h2 := res_new w (.cells #[.int .u8 (K : Int), .int .u8 (Wh : Int), .int .u8 (S : Int), .int .u8 (G : Int), .int .u8 (F : Int), a] 24) (shpC 0 ⟨#[]⟩ 0 0 false 0)
  have h3 := res_new (w.alloc (.cells #[.int .u8 (K : Int), .int .u8 (Wh : Int), .int .u8 (S : Int), .int .u8 (G : Int), .int .u8 (F : Int), a] 24)) (.cells #[.int .u8 0, .int .u8 0, .string ⟨#[]⟩, .int .i64 0, .int .i64 0, .bool false, .bool false, .bool false, .bool false, .bool false, .int .i64 0] 28) (shpC 5 ⟨#[]⟩ ((n : Int) + 1 + (m : Int)) (m : Int) sg 0)
  rw [World.size_alloc] at h3
  have e : ∀ {W : World} (_ : PrB W w.heap.size K Wh S G F a) (o : Obj), PrB (W.alloc o) w.heap.size K Wh S G F a := fun h o => (heap_alloc_old _ o (Array.getElem?_eq_some_iff.1 h).1).trans h
  exact ⟨e (e h1 _) _, h2.alloc _, h3, below3 w _ _ _⟩
set_option maxRecDepth 100000 in
set_option maxHeartbeats 8000000 in
theorem lawEd_c (K Wh S G F n m : Nat) (A : Option Addr) (cap : Nat) (bs : List UInt8) (w : World) (hsl : Sl w w.heap.size A bs) (_hbl : bs.length ≤ cap) (_hcap : cap ≤ maxLen) (hF : F < 256) (hG : G < 256) (hn : n < 10) (hm : m < 6) :
    Calls Tryz.prog 12 #[.agg (prtA K Wh S G F (.slice A bs.length cap)), .int .i64 (n : Int), .int .i64 (m : Int)] w fun e w' => e = .returned (.tuple #[.string (mk (Pic.edP n m (G % 8) (F % 8) (F / 8 % 2) (F / 16 % 2) bs)), .agg (shpV (Pic.edS n m (G % 8) (F % 8) (F / 16 % 2) (Pic.edP n m (G % 8) (F % 8) (F / 8 % 2) (F / 16 % 2) bs).length) (mk (Pic.edP n m (G % 8) (F % 8) (F / 8 % 2) (F / 16 % 2) bs)))]) ∧ Below w.heap.size w w' := by
  have hg8 : G % 8 < 8 := Nat.mod_lt _ (by omega)
  have hf8 : F % 8 < 8 := Nat.mod_lt _ (by omega)
  have hA1 := ed_fr (G % 8) hg8
  have hA2 := ed_tl (G % 8) hg8
  have hA3 := ed_sy (F % 8) hf8
  obtain ⟨hS0, hFs, hTs⟩ := ed_s0 (G % 8) hg8
  obtain ⟨sg, hsg⟩ : ∃ sg, sg = G % 8 := ⟨_, rfl⟩
  obtain ⟨fm, hfm⟩ : ∃ fm, fm = F % 8 := ⟨_, rfl⟩
  obtain ⟨ab, hab⟩ : ∃ ab, ab = F / 8 % 2 := ⟨_, rfl⟩
  obtain ⟨bb, hbb⟩ : ∃ bb, bb = F / 16 % 2 := ⟨_, rfl⟩
  obtain ⟨P4, hP4⟩ : ∃ P4, P4 = mk (Pic.edP n m sg fm ab bb bs) := ⟨_, rfl⟩
  rw [← hsg, ← hfm, ← hab, ← hbb, ← hP4]
  have hbb2 : bb < 2 := by rw [hbb]; omega
  have HBB := hide hbb
  have HP4E := hide hP4
  clear hbb hP4
  obtain ⟨FR, hFR⟩ : ∃ FR, FR = mk (Pic.edFront (G % 8)) := ⟨_, rfl⟩
  obtain ⟨TL, hTL⟩ : ∃ TL, TL = mk (Pic.edTail (G % 8)) := ⟨_, rfl⟩
  obtain ⟨Y0, hY0⟩ : ∃ Y0, Y0 = mk [sym0 (F % 8)] := ⟨_, rfl⟩
  obtain ⟨S0, hS0'⟩ : ∃ S0, S0 = Pic.edSg (G % 8) := ⟨_, rfl⟩
  rw [← hFR] at hA1 hFs hS0
  rw [← hTL] at hA2 hTs hS0
  rw [← hY0] at hA3
  rw [← hS0'] at hS0
  rw [← hsg] at hFR hTL hS0'
  rw [← hfm] at hY0
  have hsg8 : sg < 8 := by omega
  have hfm8 : fm < 8 := by omega
  have hf6 : (F : Int) % 8 = (fm : Int) := by omega
  have hab2 : (F : Int) / 8 % 2 = (ab : Int) := by omega
  obtain ⟨sy, hsy⟩ : ∃ sy, sy = Pic.edSym sg fm := ⟨_, rfl⟩
  obtain ⟨SY, hSY⟩ : ∃ SY, SY = mk [sy] := ⟨_, rfl⟩
  obtain ⟨CB, hCB⟩ : ∃ CB, CB = (S0 && (fm == 4 || fm == 5)) := ⟨_, rfl⟩
  obtain ⟨AB, hAB⟩ : ∃ AB, AB = decide (ab = 1) := ⟨_, rfl⟩
  obtain ⟨kk, hkk⟩ : ∃ kk, kk = Pic.edK n ab := ⟨_, rfl⟩
  obtain ⟨FC, hFC⟩ : ∃ FC, FC = mk [if ab = 1 then sy else 57] := ⟨_, rfl⟩
  obtain ⟨S1, hS1⟩ : ∃ S1, S1 = Pic.edSigned sg fm := ⟨_, rfl⟩
  have hSYv : SY = if CB = true then ⟨#[57]⟩ else Y0 := by
    rw [hSY, hsy, hCB, hY0, hS0']
    unfold Pic.edSym sym0
    by_cases h : (Pic.edSg sg && (fm == 4 || fm == 5)) = true
    · rw [if_pos h, if_pos h]; rfl
    · rw [if_neg h, if_neg h]
  have hABi : ((F : Int) / 8 % 2 == 1) = AB := by
    rw [hab2, hAB, Bool.eq_iff_iff, beq_iff_eq, decide_eq_true_eq]; omega
  have hkn : 1 ≤ kk ∧ kk ≤ n + 1 := by rw [hkk]; unfold Pic.edK; split <;> omega
  have HSLI := hide hsl
  have HFR := hide hFR
  have HTL := hide hTL
  have HY0 := hide hY0
  have HS0 := hide hS0'
  have HSY := hide hSY
  have HSYV := hide hSYv
  have HSG := hide hsg
  have HFM := hide hfm
  have HCB := hide hCB
  have HAB := hide hAB
  have HKK := hide hkk
  have HFC := hide hFC
  have HF8 := hide hf6
  have HS1 := hide hS1
  have HSYE := hide hsy
  clear hsl hFR hTL hY0 hS0' hSY hsg hfm hCB hSYv hAB hkk hFC hf6 hab2 hab hS1 hsy
  obtain ⟨a, ha⟩ : ∃ a, a = Value.slice A bs.length cap := ⟨_, rfl⟩
  rw [← ha]
  have HAA := hide ha
  clear ha
  unfold maxLen at _hcap
  unfold prtA
  go_enter Tryz.func12, Tryz.ntmps12
  go_upto_region 2 with fail
  obtain ⟨W1, hW1⟩ : ∃ W1, W1 = (((w.alloc (.cells #[.int .u8 (K : Int), .int .u8 (Wh : Int), .int .u8 (S : Int), .int .u8 (G : Int), .int .u8 (F : Int), a] 24)).alloc (.cells #[.int .u8 0, .int .u8 0, .string ⟨#[]⟩, .int .i64 0, .int .i64 0, .bool false, .bool false, .bool false, .bool false, .bool false, .int .i64 0] 28)).alloc (.cells #[.int .u8 5, .int .u8 0, .string ⟨#[]⟩, .int .i64 ((n : Int) + 1 + (m : Int)), .int .i64 (m : Int), .bool false, .bool false, .bool false, .bool false, .bool false, .int .i64 0] 28)) := ⟨_, rfl⟩
  have HE1 : Hid (EdW w K Wh S G F n m a ⟨#[]⟩ false 0 W1) := by unfold Hid; rw [hW1]; exact EdW.start3 w K Wh S G F n m a false
  with_reducible rw [← hW1]
  clear hW1
  have hl0 := HE1.out.lt0
  obtain ⟨_, _, _, c3, c4, _⟩ := HE1.out.par.cells
  go_upto_region 3 with fail
  obtain ⟨W2, hW2⟩ : ∃ W2, W2 = W1.alloc (.cells #[.string ⟨#[]⟩, .string ⟨#[43]⟩, .string ⟨#[45]⟩, .string ⟨#[]⟩, .string ⟨#[]⟩, .string ⟨#[]⟩, .string ⟨#[]⟩, .string ⟨#[]⟩] 9) := ⟨_, rfl⟩
  have HE2 : Hid (EdW w K Wh S G F n m a ⟨#[]⟩ false 0 W2) := by unfold Hid; rw [hW2]; exact HE1.out.below (below1 W1 _)
  with_reducible rw [← hW2]
  clear hW2 hl0 c3 c4 HE1 hA1
  have hl0 := HE2.out.lt0
  obtain ⟨_, _, _, c3, c4, _⟩ := HE2.out.par.cells
  go_upto_region 4 with fail
  obtain ⟨W3, hW3⟩ : ∃ W3, W3 = W2.alloc (.cells #[.string ⟨#[]⟩, .string ⟨#[]⟩, .string ⟨#[]⟩, .string ⟨#[43]⟩, .string ⟨#[45]⟩, .string ⟨#[67, 82]⟩, .string ⟨#[68, 66]⟩, .string ⟨#[]⟩] 9) := ⟨_, rfl⟩
  have HE3 : Hid (EdW w K Wh S G F n m a ⟨#[]⟩ false 0 W3) := by unfold Hid; rw [hW3]; exact HE2.out.below (below1 W2 _)
  with_reducible rw [← hW3]
  clear hW3 hl0 c3 c4 HE2 hA2 hg8
  have hl2 := HE3.out.sh.lt
  have c5 := (HE3.out.sh.cells).2.2.2.2.2.1
  have f5 : W3.frozen? ⟨w.heap.size + 1 + 1, 5, none⟩ = false := frozen_of_row W3 _ 5 _ _ HE3.out.sh
  have hS0b : (!(FR ++ TL).toList.isEmpty) = S0 := by rw [hS0, Bool.not_not]
  clear hS0
  go_upto_region 5 with fail
  obtain ⟨W4, hW4⟩ : ∃ W4, W4 = W3.setCell ⟨w.heap.size + 1 + 1, 5, none⟩ (.bool S0) := ⟨_, rfl⟩
  have HE4 : Hid (EdW w K Wh S G F n m a ⟨#[]⟩ S0 0 W4) := by unfold Hid; rw [hW4]; exact HE3.out.set 5 _ _ _ _ rfl
  with_reducible rw [← hW4]
  clear hW4 hl2 c5 f5 HE3 hS0b
  have hl0 := HE4.out.lt0
  obtain ⟨_, _, _, c3, c4, _⟩ := HE4.out.par.cells
  go_upto_region 7 with fail
  obtain ⟨W5, hW5⟩ : ∃ W5, W5 = W4.alloc (.cells #[.string ⟨#[90]⟩, .string ⟨#[42]⟩, .string ⟨#[57]⟩, .string ⟨#[36]⟩, .string ⟨#[43]⟩, .string ⟨#[45]⟩, .string ⟨#[57]⟩, .string ⟨#[57]⟩] 9) := ⟨_, rfl⟩
  have HE5 : Hid (EdW w K Wh S G F n m a ⟨#[]⟩ S0 0 W5) := by unfold Hid; rw [hW5]; exact HE4.out.below (below1 W4 _)
  with_reducible rw [← hW5]
  clear hW5 hl0 c3 c4 HE4 hA3 hf8
  have hl2 := HE5.out.sh.lt
  have hl0 := HE5.out.lt0
  obtain ⟨_, _, _, c3, c4, _⟩ := HE5.out.par.cells
  have c5 := (HE5.out.sh.cells).2.2.2.2.2.1
  go_cut [57] (fun s57 wx => s57 = .bool CB ∧ W5 = wx)
  case first => as_aux_lemma =>
    by_cases h4 : fm = 4
    · have t4 : ((F : Int) % 8 == 4) = true := by rw [HF8.out, h4]; rfl
      have HC : Hid (CB = S0) := by unfold Hid; rw [HCB.out, h4]; simp
      have HH := hide h4
      clear h4 hfm8
      cases S0 with
      | true =>
        go_wp2_with fail
        go_meet
        exact ⟨by rw [HC.out], rfl⟩
      | false =>
        go_wp2_with fail
        go_meet
        exact ⟨by rw [HC.out], rfl⟩
    · have t4 : ((F : Int) % 8 == 4) = false := by rw [HF8.out, beq_eq_false_iff_ne]; omega
      by_cases h5 : fm = 5
      · have t5 : ((F : Int) % 8 == 5) = true := by rw [HF8.out, h5]; rfl
        have HC : Hid (CB = S0) := by unfold Hid; rw [HCB.out, h5]; simp
        have HH := hide h5
        clear h4 h5 hfm8
        cases S0 with
        | true =>
          go_wp2_with fail
          go_meet
          exact ⟨by rw [HC.out], rfl⟩
        | false =>
          go_wp2_with fail
          go_meet
          exact ⟨by rw [HC.out], rfl⟩
      · have t5 : ((F : Int) % 8 == 5) = false := by rw [HF8.out, beq_eq_false_iff_ne]; omega
        have HC : Hid (CB = false) := by unfold Hid; rw [HCB.out]; simp [h4, h5]
        clear h4 h5 hfm8
        go_wp2_with fail
        go_meet
        exact ⟨by rw [HC.out], rfl⟩
  case rest =>
    obtain ⟨rfl, rfl⟩ := hcut
    go_upto_if 57 with fail
    go_cut [12] (fun s12 wx => s12 = .string SY ∧ W5 = wx)
    case first => as_aux_lemma =>
      cases CB with
      | true =>
        have HX : Hid (SY = ⟨#[57]⟩) := by unfold Hid; rw [HSYV.out]; rfl
        go_wp2_with fail
        go_meet
        exact ⟨by rw [HX.out], rfl⟩
      | false =>
        have HX : Hid (SY = Y0) := by unfold Hid; rw [HSYV.out]; rfl
        go_wp2_with fail
        go_meet
        exact ⟨by rw [HX.out], rfl⟩
    case rest =>
      obtain ⟨rfl, rfl⟩ := hcut
      go_upto_if 65 with fail
      go_cut [13, 14] (fun s13 s14 wx => s13 = .int .i64 (kk : Int) ∧ s14 = .string FC ∧ W5 = wx)
      case first => as_aux_lemma =>
        cases AB with
        | true =>
          have hx : ab = 1 := of_decide_eq_true HAB.out.symm
          have HX : Hid ((kk : Int) = (n : Int) + 1) := by unfold Hid; rw [HKK.out]; unfold Pic.edK; rw [if_pos hx]; rfl
          have HX2 : Hid (SY = FC) := by unfold Hid; rw [HFC.out, if_pos hx, HSY.out]
          clear hx
          go_wp2_with fail
          go_meet
          exact ⟨by rw [HX.out], by rw [HX2.out], rfl⟩
        | false =>
          have hx : ab ≠ 1 := of_decide_eq_false HAB.out.symm
          have HX : Hid ((kk : Int) = (n : Int) / 2 + 1) := by unfold Hid; rw [HKK.out]; unfold Pic.edK; rw [if_neg hx]; omega
          have HX2 : Hid (FC = ⟨#[57]⟩) := by unfold Hid; rw [HFC.out, if_neg hx]; rfl
          clear hx
          go_wp2_with fail
          go_meet
          exact ⟨by rw [HX.out], by rw [HX2.out], rfl⟩
      case rest =>
        obtain ⟨rfl, rfl, rfl⟩ := hcut
        obtain ⟨W, rfl⟩ : ∃ W, W = W5 := ⟨_, rfl⟩
        have HE := HE5
        clear HE5 hl2 hl0 c3 c4 c5
        have hSYs : SY.size = 1 := by rw [HSY.out]; rfl
        have HM1 : Hid (∀ W : World, Calls Tryz.prog 10 #[.string SY, .int .i64 (kk : Int)] W fun e w' => e = .returned (.string (mk (List.replicate kk sy))) ∧ W = w') := fun W => many_i sy kk _ _ W HSY.out rfl (by omega)
        have HM2 : Hid (∀ W : World, Calls Tryz.prog 10 #[.string ⟨#[57]⟩, .int .i64 ((n : Int) + 1 - (kk : Int))] W fun e w' => e = .returned (.string (mk (List.replicate (n + 1 - kk) 57))) ∧ W = w') := fun W => many_i 57 (n + 1 - kk) _ _ W rfl (by omega) (by omega)
        obtain ⟨B1, hB1⟩ : ∃ B1, B1 = mk (List.replicate kk sy) := ⟨_, rfl⟩
        obtain ⟨B2, hB2⟩ : ∃ B2, B2 = mk (List.replicate (n + 1 - kk) 57) := ⟨_, rfl⟩
        rw [← hB1] at HM1
        rw [← hB2] at HM2
        have hB1s : B1.size ≤ 10 := by rw [hB1, mk_size, List.length_replicate]; omega
        have hB2s : B2.size ≤ 10 := by rw [hB2, mk_size, List.length_replicate]; omega
        have HBD : Hid (B1 ++ B2 = mk (Pic.edBody n sg fm ab)) := by unfold Hid; rw [hB1, hB2, mk_app, HKK.out, HSYE.out]; rfl
        obtain ⟨BD, hBD⟩ : ∃ BD, BD = B1 ++ B2 := ⟨_, rfl⟩
        have hBDs : BD.size ≤ 20 := by rw [hBD, ByteArray.size_append]; omega
        clear hB1 hB2
        have n1 := fun wx : World => run_string_add_sum (P := Tryz.prog) wx B1 B2 (by omega)
        go_wp2_with fail
        refine (HM1.out _).mono ?_
        rintro e w1 ⟨rfl, rfl⟩
        go_wp2_with fail
        refine (HM2.out _).mono ?_
        rintro e w1 ⟨rfl, rfl⟩
        go_upto_block 0 with fail
        rw [← hBD]
        have HBD2 : Hid (BD = mk (Pic.edBody n sg fm ab)) := by unfold Hid; rw [hBD, HBD.out]
        clear hBD n1 HM1 HM2 HBD
        have c5 := (HE.out.sh.cells).2.2.2.2.2.1
        have f5 : W.frozen? ⟨w.heap.size + 1 + 1, 5, none⟩ = false := frozen_of_row W _ 5 _ _ HE.out.sh
        have hlt := HE.out.sh.lt
        obtain ⟨WH, hWH⟩ : ∃ WH, WH = mk (Pic.edWhole n sg fm ab) := ⟨_, rfl⟩
        have HWH := hide hWH
        clear hWH
        go_cut [15] (fun s15 wx => s15 = .string WH ∧ Hid (EdW w K Wh S G F n m a ⟨#[]⟩ S1 0 wx))
        case first => as_aux_lemma =>
          have q36 : (SY.toList == [36]) = decide (sy = 36) := by rw [HSY.out]; exact sy_eq sy 36
          have q43 : (SY.toList == [43]) = decide (sy = 43) := by rw [HSY.out]; exact sy_eq sy 43
          have q45 : (SY.toList == [45]) = decide (sy = 45) := by rw [HSY.out]; exact sy_eq sy 45
          by_cases h36 : sy = 36
          · have t36 : (SY.toList == [36]) = true := by rw [q36, decide_eq_true h36]
            clear q36 q43 q45
            have HX : Hid (⟨#[36]⟩ ++ BD = WH) := by unfold Hid; rw [HWH.out, HBD2.out]; unfold Pic.edWhole; rw [← HSYE.out, if_pos h36, show (⟨#[36]⟩ : ByteArray) = mk [36] from rfl, mk_app]; rfl
            have HS : Hid (S0 = S1) := by unfold Hid; rw [HS1.out, HS0.out]; unfold Pic.edSigned; rw [← HSYE.out, h36]; simp
            have HH := hide h36
            clear h36
            go_wp2_with fail
            go_meet
            exact ⟨by rw [HX.out], by rw [← HS.out]; exact HE.out⟩
          · have t36 : (SY.toList == [36]) = false := by rw [q36, decide_eq_false h36]
            by_cases h43 : sy = 43
            · have t43 : (SY.toList == [43]) = true := by rw [q43, decide_eq_true h43]
              clear q36 q43 q45
              have HX : Hid (SY ++ BD = WH) := by unfold Hid; rw [HWH.out, HBD2.out, HSY.out]; unfold Pic.edWhole; rw [← HSYE.out, if_neg h36, if_pos (.inl h43), mk_app]; rfl
              have HS : Hid (true = S1) := by unfold Hid; rw [HS1.out]; unfold Pic.edSigned; rw [← HSYE.out, h43]; simp
              have HST : Hid (EdW w K Wh S G F n m a ⟨#[]⟩ true 0 (W.setCell ⟨w.heap.size + 1 + 1, 5, none⟩ (.bool true))) := HE.out.set 5 _ _ _ _ rfl
              have HH := hide h43
              clear h36 h43
              go_wp2_with fail
              go_meet
              exact ⟨by rw [HX.out], by rw [← HS.out]; exact HST.out⟩
            · have t43 : (SY.toList == [43]) = false := by rw [q43, decide_eq_false h43]
              by_cases h45 : sy = 45
              · have t45 : (SY.toList == [45]) = true := by rw [q45, decide_eq_true h45]
                clear q36 q43 q45
                have HX : Hid (SY ++ BD = WH) := by unfold Hid; rw [HWH.out, HBD2.out, HSY.out]; unfold Pic.edWhole; rw [← HSYE.out, if_neg h36, if_pos (.inr h45), mk_app]; rfl
                have HS : Hid (true = S1) := by unfold Hid; rw [HS1.out]; unfold Pic.edSigned; rw [← HSYE.out, h45]; simp
                have HST : Hid (EdW w K Wh S G F n m a ⟨#[]⟩ true 0 (W.setCell ⟨w.heap.size + 1 + 1, 5, none⟩ (.bool true))) := HE.out.set 5 _ _ _ _ rfl
                have HH := hide h45
                clear h36 h43 h45
                go_wp2_with fail
                go_meet
                exact ⟨by rw [HX.out], by rw [← HS.out]; exact HST.out⟩
              · have t45 : (SY.toList == [45]) = false := by rw [q45, decide_eq_false h45]
                clear q36 q43 q45
                have HS : Hid (S0 = S1) := by
                  have e : Pic.edSigned sg fm = (Pic.edSg sg || (sy == 43) || (sy == 45)) := by rw [HSYE.out]; rfl
                  unfold Hid
                  rw [HS1.out, HS0.out, e, beq_eq_false_iff_ne.2 h43, beq_eq_false_iff_ne.2 h45]
                  simp
                by_cases h2 : fm = 2
                · have t2 : ((F : Int) % 8 == 2) = true := by rw [HF8.out, h2]; rfl
                  have HX : Hid (⟨#[36]⟩ ++ BD = WH) := by unfold Hid; rw [HWH.out, HBD2.out]; unfold Pic.edWhole; rw [← HSYE.out, if_neg h36, if_neg (fun h => h.elim h43 h45), if_pos h2, show (⟨#[36]⟩ : ByteArray) = mk [36] from rfl, mk_app]; rfl
                  have HH := hide h2
                  clear h36 h43 h45 h2 hfm8
                  go_wp2_with fail
                  go_meet
                  exact ⟨by rw [HX.out], by rw [← HS.out]; exact HE.out⟩
                · have t2 : ((F : Int) % 8 == 2) = false := by rw [HF8.out, beq_eq_false_iff_ne]; omega
                  by_cases h6 : fm = 6
                  · have t6 : ((F : Int) % 8 == 6) = true := by rw [HF8.out, h6]; rfl
                    have HX : Hid (⟨#[48]⟩ ++ BD = WH) := by unfold Hid; rw [HWH.out, HBD2.out]; unfold Pic.edWhole; rw [← HSYE.out, if_neg h36, if_neg (fun h => h.elim h43 h45), if_neg h2, if_pos h6, show (⟨#[48]⟩ : ByteArray) = mk [48] from rfl, mk_app]; rfl
                    have HH := hide h6
                    clear h36 h43 h45 h2 h6 hfm8
                    go_wp2_with fail
                    go_meet
                    exact ⟨by rw [HX.out], by rw [← HS.out]; exact HE.out⟩
                  · have t6 : ((F : Int) % 8 == 6) = false := by rw [HF8.out, beq_eq_false_iff_ne]; omega
                    have HX : Hid (BD = WH) := by unfold Hid; rw [HWH.out, HBD2.out]; unfold Pic.edWhole; rw [← HSYE.out, if_neg h36, if_neg (fun h => h.elim h43 h45), if_neg h2, if_neg h6]
                    clear h36 h43 h45 h2 h6 hfm8
                    go_wp2_with fail
                    go_meet
                    exact ⟨by rw [HX.out], by rw [← HS.out]; exact HE.out⟩
        case rest =>
          obtain ⟨rfl, hE⟩ := hcut
          obtain ⟨W7, rfl⟩ : ∃ W, W = wc := ⟨_, rfl⟩
          obtain ⟨ws, hws⟩ : ∃ ws, ws = Pic.edWhole n sg fm ab := ⟨_, rfl⟩
          have hWHs : WH.size = ws.length := by rw [HWH.out, hws, mk_size]
          have hwsl : ws.length ≤ 12 := by have := whole_len n sg fm ab; rw [hws]; omega
          have HWS := hide hws
          have HWM : Hid (WH = mk ws) := by unfold Hid; rw [HWH.out, hws]
          have hFRl : (Pic.edFront sg).length ≤ 1 := by rw [← mk_size, ← HFR.out]; exact hFs
          clear hws c5 f5 hlt hB1s hB2s hBDs HBD2 HE
          go_wp2_with fail
          go_loopw [16, 17] (fun pv iv wr => ∃ i : Nat, pv = .string (mk (Pic.edFront sg ++ Pic.wv (ws.take i) bs)) ∧ iv = .int .i64 (i : Int) ∧ i ≤ ws.length ∧ Hid (EdW w K Wh S G F n m a ⟨#[]⟩ S1 0 wr)) (fun _ iv _ => 20 - (intOf iv).toNat)
          case atStart => exact ⟨0, by rw [HFR.out]; simp [Pic.wv], rfl, by omega, hE.out⟩
          case round =>
            obtain ⟨i, rfl, rfl, hi, hE⟩ := hrel
            obtain ⟨W, rfl⟩ : ∃ W, W = wr := ⟨_, rfl⟩
            obtain ⟨P, hP⟩ : ∃ P, P = mk (Pic.edFront sg ++ Pic.wv (ws.take i) bs) := ⟨_, rfl⟩
            have hPs : P.size ≤ 30 := by rw [hP, mk_size, List.length_append]; have := wv_len (ws.take i) bs; rw [List.length_take] at this; omega
            rw [← hP]
            have c5 := (hE.out.par.cells).2.2.2.2.2
            rw [HAA.out] at c5
            have HP := hide hP
            clear hP
            by_cases hlt : i < ws.length
            · have hlt2 : i < WH.size := by rw [hWHs]; exact hlt
              obtain ⟨c, hc⟩ : ∃ c, ws[i]? = some c := ⟨ws[i], List.getElem?_eq_getElem hlt⟩
              have HEXT : Hid (WH.extract i (i + 1) = mk [c]) := by
                unfold Hid
                rw [HWM.out, extract_mk, mk_data, show i + 1 - i = 1 by omega, List.drop_eq_getElem_cons hlt]
                congr 1
                rw [List.take_succ_cons, List.take_zero]
                congr 1
                exact (List.getElem?_eq_some_iff.1 hc).2
              have HT := hide (wv_take ws bs i c hc)
              have hXs : (WH.extract i (i + 1)).size = 1 := by rw [HEXT.out]; rfl
              have n1 := fun wx : World => run_string_add_sum (P := Tryz.prog) wx P (WH.extract i (i + 1)) (by omega)
              clear hc
              by_cases h0 : 0 < i
              · by_cases h1 : i - 1 < bs.length
                · have hsl := HSLI.out
                  rcases hsl with hsl | ⟨ab', ao, hAA, hab', hcl⟩
                  · rw [hsl] at h1; simp at h1
                  · obtain ⟨b, hb⟩ : ∃ b, bs[i - 1]? = some b := ⟨bs[i - 1], List.getElem?_eq_getElem h1⟩
                    have cb : W.cell? ⟨ab', ao + (i - 1), none⟩ = some (.int .u8 (b.toNat : Int)) := by
                      rw [World.cell?_of_block (hE.out.bel.block ab' hab')]
                      exact hcl _ _ hb
                    rw [hAA] at c5
                    have d1 : decide ((i : Int) - 1 < (bs.length : Int)) = true := decide_eq_true (by omega)
                    have hI : insAt bs i = Pic.insB b := by unfold insAt; rw [if_neg (by omega), hb]
                    have hltb : ab' < W.heap.size := by have := hE.out.bel.size; omega
                    by_cases h4 : b.toNat % 5 < 4
                    · have d4 : decide ((b.toNat : Int) % 5 < 4) = true := decide_eq_true (by omega)
                      have HINS := hide (insSym b h4)
                      have hIs : ((⟨#[66, 48, 47, 44]⟩ : ByteArray).extract (b.toNat % 5) (b.toNat % 5 + 1)).size = 1 := by
                        rw [HINS.out, mk_size]; unfold Pic.insB; rw [if_pos h4]; rfl
                      have HI := hide hI
                      have HH := hide hb
                      clear hI hcl hb
                      have n0 := fun wx : World => run_string_add_sum (P := Tryz.prog) wx P ((⟨#[66, 48, 47, 44]⟩ : ByteArray).extract (b.toNat % 5) (b.toNat % 5 + 1)) (by omega)
                      have n2 := fun wx : World => run_string_add_sum (P := Tryz.prog) wx (P ++ (⟨#[66, 48, 47, 44]⟩ : ByteArray).extract (b.toNat % 5) (b.toNat % 5 + 1)) (WH.extract i (i + 1)) (by rw [ByteArray.size_append]; omega)
                      have HQ : Hid (P ++ (⟨#[66, 48, 47, 44]⟩ : ByteArray).extract (b.toNat % 5) (b.toNat % 5 + 1) ++ WH.extract i (i + 1) = mk (Pic.edFront sg ++ Pic.wv (ws.take (i + 1)) bs)) := by
                        unfold Hid; rw [HEXT.out, HINS.out, HP.out, HT.out, HI.out, mk_app, mk_app]; simp
                      clear n1
                      go_wp2_with fail
                      go_quiet (fail)
                      have hE2 := hide (hE.out.below (below_drewN' (Below.refl _ W) nq))
                      go_wp2_with fail
                      exact ⟨⟨i + 1, by rw [HQ.out], by first | rfl | go_num | trivial, by omega, hE2.out⟩, by simp [intOf]; omega⟩
                    · have d4 : decide ((b.toNat : Int) % 5 < 4) = false := decide_eq_false (by omega)
                      have HQ : Hid (P ++ WH.extract i (i + 1) = mk (Pic.edFront sg ++ Pic.wv (ws.take (i + 1)) bs)) := by
                        unfold Hid; rw [HEXT.out, HP.out, HT.out, hI, insNo b h4, mk_app]; simp
                      have HH := hide hb
                      clear hI hcl hb
                      go_wp2_with fail
                      exact ⟨⟨i + 1, by rw [HQ.out], by first | rfl | go_num | trivial, by omega, hE.out⟩, by simp [intOf]; omega⟩
                · have d1 : decide ((i : Int) - 1 < (bs.length : Int)) = false := decide_eq_false (by omega)
                  have HQ : Hid (P ++ WH.extract i (i + 1) = mk (Pic.edFront sg ++ Pic.wv (ws.take (i + 1)) bs)) := by
                    unfold Hid; rw [HEXT.out, HP.out, HT.out, mk_app]; unfold insAt; rw [if_neg (by omega), List.getElem?_eq_none (by omega)]; simp
                  go_wp2_with fail
                  exact ⟨⟨i + 1, by rw [HQ.out], by first | rfl | go_num | trivial, by omega, hE.out⟩, by simp [intOf]; omega⟩
              · have d0 : decide ((0 : Int) < (i : Int)) = false := decide_eq_false (by omega)
                have HQ : Hid (P ++ WH.extract i (i + 1) = mk (Pic.edFront sg ++ Pic.wv (ws.take (i + 1)) bs)) := by
                  unfold Hid; rw [HEXT.out, HP.out, HT.out, mk_app]; unfold insAt; rw [if_pos (by omega)]; simp
                go_wp2_with fail
                exact ⟨⟨i + 1, by rw [HQ.out], by first | rfl | go_num | trivial, by omega, hE.out⟩, by simp [intOf]; omega⟩
            · obtain rfl : i = ws.length := by omega
              have HPW : Hid (P = mk (Pic.edFront sg ++ Pic.wv ws bs)) := by unfold Hid; rw [HP.out, List.take_length]
              have hnl : ¬ ws.length < WH.size := by omega
              clear HP hlt
              obtain ⟨P2, hP2⟩ : ∃ P2, P2 = mk (Pic.edFront sg ++ Pic.wv ws bs ++ Pic.edMid m sg fm ab bb) := ⟨_, rfl⟩
              have hml : (Pic.edMid m sg fm ab bb).length ≤ 6 := by unfold Pic.edMid; split <;> simp <;> omega
              have hP2s : P2.size ≤ 36 := by
                rw [hP2, mk_size, List.length_append]
                have := congrArg ByteArray.size HPW.out
                rw [mk_size] at this
                omega
              have HP2 := hide hP2
              clear hP2 hml
              go_upto_if 157 with fail
              go_cut [16] (fun s16 wx => s16 = .string P2 ∧ Hid (EdW w K Wh S G F n m a ⟨#[]⟩ S1 0 wx))
              case first => as_aux_lemma =>
                by_cases hm0 : 0 < m
                · have c4 := (hE.out.par.cells).2.2.2.2.1
                  have hlt0 : w.heap.size < W.heap.size := (Array.getElem?_eq_some_iff.1 hE.out.par).1
                  have hFCs : FC.size = 1 := by rw [HFC.out]; rfl
                  obtain ⟨MF, hMF⟩ : ∃ MF, MF = mk (List.replicate m (if ab = 1 then sy else 57)) := ⟨_, rfl⟩
                  have hMFs : MF.size = m := by rw [hMF, mk_size, List.length_replicate]
                  have HM3 : Hid (∀ W : World, Calls Tryz.prog 10 #[.string FC, .int .i64 (m : Int)] W fun e w' => e = .returned (.string MF) ∧ W = w') := fun W => by
                    rw [hMF]; exact many_i _ m _ _ W HFC.out rfl (by omega)
                  have HMF := hide hMF
                  clear hMF
                  obtain ⟨PT, hPT⟩ : ∃ PT, PT = mk [if bb = 1 then 86 else 46] := ⟨_, rfl⟩
                  have hA4 : ([.string ⟨#[46]⟩, .string ⟨#[86]⟩] : List Value)[bb]'(by exact hbb2) = .string PT := by
                    rw [hPT]; exact two_at bb hbb2
                  have hPTs : PT.size = 1 := by rw [hPT]; rfl
                  have HV : Hid (P ++ PT ++ MF = P2) := by
                    unfold Hid
                    rw [HPW.out, HMF.out, hPT, mk_app, mk_app, HP2.out]
                    unfold Pic.edMid
                    rw [if_pos hm0, ← HSYE.out]
                    simp
                  have n1 := fun wx : World => run_string_add_sum (P := Tryz.prog) wx P PT (by omega)
                  have n2 := fun wx : World => run_string_add_sum (P := Tryz.prog) wx (P ++ PT) MF (by rw [ByteArray.size_append]; omega)
                  have hE16 : (F : Int) / 16 % 2 = (bb : Int) := by have := HBB.out; omega
                  have hwp : IntKind.u8.wrap ((F : Int) / 16) = (F : Int) / 16 := IntWalk.u8_in _ (by omega)
                  have htm : ((F : Int) / 16).tmod 2 = (bb : Int) := by rw [Int.tmod_eq_emod_of_nonneg (by omega)]; exact hE16
                  have hbI : (bb : Int) < 2 := by omega
                  clear hPT
                  go_upto_region 32 with fail
                  go_region_with (go_at_call 10; refine (HM3.out _).mono ?_; rintro e w9 ⟨rfl, rfl⟩)
                  all_goals (go_wp2_with fail; go_meet; exact ⟨by rw [HV.out], hE.out.below (below1 W _).drew⟩)
                · have HV : Hid (P = P2) := by
                    unfold Hid
                    rw [HPW.out, HP2.out]
                    unfold Pic.edMid
                    rw [if_neg hm0, List.append_nil]
                  go_wp2_with fail
                  go_meet
                  exact ⟨by rw [HV.out], hE.out⟩
              case rest =>
                obtain ⟨rfl, hE⟩ := hcut
                obtain ⟨W8, rfl⟩ : ∃ W, W = wc := ⟨_, rfl⟩
                obtain ⟨P3, hP3⟩ : ∃ P3, P3 = P2 ++ TL := ⟨_, rfl⟩
                have hP3s : P3.size ≤ 38 := by rw [hP3, ByteArray.size_append]; omega
                have HP3 : Hid (P3 = mk (Pic.edFront sg ++ Pic.wv ws bs ++ Pic.edMid m sg fm ab bb ++ Pic.edTail sg)) := by unfold Hid; rw [hP3, HP2.out, HTL.out, mk_app]
                have n1 := fun wx : World => run_string_add_sum (P := Tryz.prog) wx P2 TL (by omega)
                obtain ⟨CS, hCS⟩ : ∃ CS, CS = ((sy == 57) && (fm != 2) && !S1) := ⟨_, rfl⟩
                have HCS := hide hCS
                have hP4 := HP4E.out
                have HP4 : Hid (P4 = if CS = true then P3 ++ ⟨#[47]⟩ else P3) := by
                  unfold Hid
                  rw [hP4, HP3.out, hCS]
                  unfold Pic.edP Pic.edRest Pic.edSl
                  rw [← HWS.out, ← HSYE.out, ← HS1.out, show (⟨#[47]⟩ : ByteArray) = mk [47] from rfl, mk_app]
                  by_cases h1 : sy = 57 ∧ fm ≠ 2 ∧ S1 = false
                  · obtain ⟨h1, h2, h3⟩ := h1
                    rw [if_pos ⟨h1, h2, h3⟩, if_pos (by simp [h1, h2, h3])]
                    simp
                  · rw [if_neg h1, if_neg (by
                      intro h
                      simp only [Bool.and_eq_true, beq_iff_eq, bne_iff_ne, ne_eq, Bool.not_eq_true'] at h
                      exact h1 ⟨h.1.1, h.1.2, h.2⟩)]
                    simp
                have hP4s : P4.size ≤ 39 := by
                  rw [HP4.out]
                  split
                  · rw [ByteArray.size_append]; show P3.size + 1 ≤ 39; omega
                  · omega
                have hP4l : P4.size = (Pic.edP n m sg fm ab bb bs).length := by rw [hP4, mk_size]
                have HP4L := hide hP4l
                have q57 : (SY.toList == [57]) = (sy == 57) := by rw [HSY.out, sy_eq, Bool.eq_iff_iff, decide_eq_true_eq, beq_iff_eq]
                clear hCS hP4 hP4l
                go_upto_region 34 with fail
                rw [← hP3]
                clear hP3 n1
                have c5 := (hE.out.sh.cells).2.2.2.2.2.1
                have hlt2 := hE.out.sh.lt
                go_cut [184] (fun s184 wx => s184 = .bool CS ∧ W8 = wx)
                case first => as_aux_lemma =>
                  by_cases h57 : sy = 57
                  · have t57 : (SY.toList == [57]) = true := by rw [q57]; exact beq_iff_eq.2 h57
                    by_cases h2 : fm = 2
                    · have t2 : ((F : Int) % 8 != 2) = false := by rw [HF8.out, h2]; rfl
                      have HC : Hid (CS = false) := by unfold Hid; rw [HCS.out, h2]; simp
                      have HH := hide h57
                      have HH2 := hide h2
                      clear h57 h2 hfm8 q57
                      go_wp2_with fail
                      go_meet
                      exact ⟨by rw [HC.out], rfl⟩
                    · have t2 : ((F : Int) % 8 != 2) = true := by rw [HF8.out, bne_iff_ne]; omega
                      have HC : Hid (CS = !S1) := by unfold Hid; rw [HCS.out, h57]; simp [h2]
                      have HH := hide h57
                      clear h57 h2 hfm8 q57
                      go_wp2_with fail
                      go_meet
                      exact ⟨by rw [HC.out], rfl⟩
                  · have t57 : (SY.toList == [57]) = false := by rw [q57]; exact beq_eq_false_iff_ne.2 h57
                    have HC : Hid (CS = false) := by unfold Hid; rw [HCS.out]; simp [h57]
                    clear h57 q57
                    go_wp2_with fail
                    go_meet
                    exact ⟨by rw [HC.out], rfl⟩
                case rest =>
                  obtain ⟨rfl, rfl⟩ := hcut
                  clear c5 q57
                  go_upto_if 184 with fail
                  go_cut [16] (fun s16 wx => s16 = .string P4 ∧ W8 = wx)
                  case first => as_aux_lemma =>
                    cases CS with
                    | true =>
                      have HX : Hid (P3 ++ ⟨#[47]⟩ = P4) := by unfold Hid; rw [HP4.out]; rfl
                      go_wp2_with fail
                      go_meet
                      exact ⟨by rw [HX.out], rfl⟩
                    | false =>
                      have HX : Hid (P3 = P4) := by unfold Hid; rw [HP4.out]; rfl
                      go_wp2_with fail
                      go_meet
                      exact ⟨by rw [HX.out], rfl⟩
                  case rest =>
                    obtain ⟨rfl, rfl⟩ := hcut
                    have c2 := (hE.out.sh.cells).2.2.1
                    have f2 : W8.frozen? ⟨w.heap.size + 1 + 1, 2, none⟩ = false := frozen_of_row W8 _ 2 _ _ hE.out.sh
                    go_upto_region 37 with fail
                    obtain ⟨W9, hW9⟩ : ∃ W9, W9 = W8.setCell ⟨w.heap.size + 1 + 1, 2, none⟩ (.string P4) := ⟨_, rfl⟩
                    have hE9 : EdW w K Wh S G F n m a P4 S1 0 W9 := by rw [hW9]; exact hE.out.set 2 _ _ _ _ rfl
                    with_reducible rw [← hW9]
                    have HE9 := hide hE9
                    clear c2 f2 hlt2 hW9 hE9 hE
                    have hlt2 := HE9.out.sh.lt
                    have c10 := (HE9.out.sh.cells).2.2.2.2.2.2.2.2.2.2
                    have f10 : W9.frozen? ⟨w.heap.size + 1 + 1, 10, none⟩ = false := frozen_of_row W9 _ 10 _ _ HE9.out.sh
                    go_upto_region 38 with fail
                    obtain ⟨WA, hWA⟩ : ∃ WA, WA = W9.setCell ⟨w.heap.size + 1 + 1, 10, none⟩ (.int .i64 (P4.size : Int)) := ⟨_, rfl⟩
                    have hEA : EdW w K Wh S G F n m a P4 S1 (P4.size : Int) WA := by rw [hWA]; exact HE9.out.set 10 _ _ _ _ rfl
                    with_reducible rw [← hWA]
                    have HEA := hide hEA
                    clear c10 f10 hlt2 hWA hEA HE9
                    have hlt2 := HEA.out.sh.lt
                    have hlt0 : w.heap.size < WA.heap.size := by omega
                    have c4 := (HEA.out.par.cells).2.2.2.2.1
                    have hvl := edV_le n m sg fm ab bb bs
                    obtain ⟨D, hD⟩ : ∃ D : Int, D = (n : Int) + 1 + (m : Int) := ⟨_, rfl⟩
                    have HPST : Hid (∀ sz : Int, sz = (P4.size : Int) - (Pic.edV m bb : Int) → (.agg (shpV (Pic.edS n m sg fm bb (Pic.edP n m sg fm ab bb bs).length) P4) : Value) = .agg (shpC 5 P4 ((n : Int) + 1 + (m : Int)) (m : Int) S1 sz)) := by
                      intro sz hsz
                      unfold shpV Pic.edS
                      rw [hsz, HP4L.out, HS1.out, Int.ofNat_sub hvl]
                      rfl
                    clear hvl hD
                    by_cases hvb : 0 < m ∧ bb = 1
                    · obtain ⟨hm0, hb1⟩ := hvb
                      have t16 : ((F : Int) / 16 % 2 == 1) = true := by rw [beq_iff_eq]; have := HBB.out; omega
                      have HV1 : Hid (Pic.edV m bb = 1) := if_pos ⟨hm0, hb1⟩
                      have HH := hide hb1
                      have hp4 : 1 ≤ P4.size := by rw [HP4L.out]; exact edP_pos n m sg fm ab bb bs
                      clear hb1 hbb2
                      have c10 := (HEA.out.sh.cells).2.2.2.2.2.2.2.2.2.2
                      have f10 : WA.frozen? ⟨w.heap.size + 1 + 1, 10, none⟩ = false := frozen_of_row WA _ 10 _ _ HEA.out.sh
                      go_upto_region 40 with fail
                      obtain ⟨WB, hWB⟩ : ∃ WB, WB = WA.setCell ⟨w.heap.size + 1 + 1, 10, none⟩ (.int .i64 ((P4.size : Int) - 1)) := ⟨_, rfl⟩
                      have hEB : EdW w K Wh S G F n m a P4 S1 ((P4.size : Int) - 1) WB := by rw [hWB]; exact HEA.out.set 10 _ _ _ _ rfl
                      with_reducible rw [← hWB]
                      have HEB := hide hEB
                      have HPS := hide (HPST.out ((P4.size : Int) - 1) (by rw [HV1.out]; rfl))
                      obtain ⟨sz, hsz⟩ : ∃ sz : Int, sz = (P4.size : Int) - 1 := ⟨_, rfl⟩
                      rw [← hsz] at HEB HPS
                      clear hsz c10 f10 hlt2 hlt0 c4 hWB hEB HEA HPST t16 hp4
                      have hl := HEB.out.sh.lt
                      obtain ⟨c0, c1, c2, c3, c4, c5, c6, c7, c8, c9, c10⟩ := HEB.out.sh.cells
                      go_still_tail 3, (by kernel_rfl)
                      change wpList _ _ _ _ _ WB.drew
                      obtain ⟨WD, hWD⟩ : ∃ WD, WD = WB.drew := ⟨_, rfl⟩
                      have HRD : Hid (ShpB WD (w.heap.size + 1) (shpC 0 ⟨#[]⟩ 0 0 false 0)) := by unfold Hid; rw [hWD]; exact HEB.out.res.drew
                      have HBD : Hid (Below w.heap.size w WD) := by unfold Hid; rw [hWD]; exact HEB.out.bel.drew
                      rw [← hWD]
                      clear hWD c0 c1 c2 c3 c4 c5 c6 c7 c8 c9 c10 hl
                      go_wp2_with (refine wpList_store_row rfl 28 _ _ rfl (w.heap.size + 1) (shpC 5 P4 ((n : Int) + 1 + (m : Int)) (m : Int) S1 sz) rfl rfl 28 _ HRD.out (shp_info _ _ _ _ _ _) rfl (shp_one _ _ _ _ _ _) ?_)
                      obtain ⟨WF, hWF⟩ : ∃ WF, WF = WD.setRow (w.heap.size + 1) (shpC 5 P4 ((n : Int) + 1 + (m : Int)) (m : Int) S1 sz) := ⟨_, rfl⟩
                      have hsh : ShpB WF (w.heap.size + 1) (shpC 5 P4 ((n : Int) + 1 + (m : Int)) (m : Int) S1 sz) := by rw [hWF]; exact HRD.out.set _
                      have hbf : Below w.heap.size w WF := by rw [hWF]; exact below_setRow HBD.out (by omega) _
                      obtain ⟨d0, d1, d2, d3, d4, d5, d6, d7, d8, d9, d10⟩ := hsh.cells
                      with_reducible rw [← hWF]
                      clear hWF
                      refine bodyPost_ret (v := .tuple #[.string P4, .agg (shpC 5 P4 ((n : Int) + 1 + (m : Int)) (m : Int) S1 sz)]) (by simp [results, Tryz.results12, go_sem, d0, d1, d2, d3, d4, d5, d6, d7, d8, d9, d10, shpC]) rfl ⟨by rw [HPS.out], hbf⟩
                    · have HV0 : Hid (Pic.edV m bb = 0) := if_neg hvb
                      have HPS := hide (HPST.out (P4.size : Int) (by rw [HV0.out]; simp))
                      obtain ⟨sz, hsz⟩ : ∃ sz : Int, sz = (P4.size : Int) := ⟨_, rfl⟩
                      rw [← hsz] at HEA HPS
                      by_cases hm0 : 0 < m
                      · have hb1 : bb ≠ 1 := fun h => hvb ⟨hm0, h⟩
                        have t16 : ((F : Int) / 16 % 2 == 1) = false := by rw [beq_eq_false_iff_ne]; have := HBB.out; omega
                        have HH := hide hb1
                        clear hvb hb1 hbb2 hsz HPST
                        go_upto_region 40 with fail
                        clear hlt2 hlt0 c4 t16
                        have hl := HEA.out.sh.lt
                        obtain ⟨c0, c1, c2, c3, c4, c5, c6, c7, c8, c9, c10⟩ := HEA.out.sh.cells
                        go_still_tail 3, (by kernel_rfl)
                        change wpList _ _ _ _ _ WA.drew
                        obtain ⟨WD, hWD⟩ : ∃ WD, WD = WA.drew := ⟨_, rfl⟩
                        have HRD : Hid (ShpB WD (w.heap.size + 1) (shpC 0 ⟨#[]⟩ 0 0 false 0)) := by unfold Hid; rw [hWD]; exact HEA.out.res.drew
                        have HBD : Hid (Below w.heap.size w WD) := by unfold Hid; rw [hWD]; exact HEA.out.bel.drew
                        rw [← hWD]
                        clear hWD c0 c1 c2 c3 c4 c5 c6 c7 c8 c9 c10 hl
                        go_wp2_with (refine wpList_store_row rfl 28 _ _ rfl (w.heap.size + 1) (shpC 5 P4 ((n : Int) + 1 + (m : Int)) (m : Int) S1 sz) rfl rfl 28 _ HRD.out (shp_info _ _ _ _ _ _) rfl (shp_one _ _ _ _ _ _) ?_)
                        obtain ⟨WF, hWF⟩ : ∃ WF, WF = WD.setRow (w.heap.size + 1) (shpC 5 P4 ((n : Int) + 1 + (m : Int)) (m : Int) S1 sz) := ⟨_, rfl⟩
                        have hsh : ShpB WF (w.heap.size + 1) (shpC 5 P4 ((n : Int) + 1 + (m : Int)) (m : Int) S1 sz) := by rw [hWF]; exact HRD.out.set _
                        have hbf : Below w.heap.size w WF := by rw [hWF]; exact below_setRow HBD.out (by omega) _
                        obtain ⟨d0, d1, d2, d3, d4, d5, d6, d7, d8, d9, d10⟩ := hsh.cells
                        with_reducible rw [← hWF]
                        clear hWF
                        refine bodyPost_ret (v := .tuple #[.string P4, .agg (shpC 5 P4 ((n : Int) + 1 + (m : Int)) (m : Int) S1 sz)]) (by simp [results, Tryz.results12, go_sem, d0, d1, d2, d3, d4, d5, d6, d7, d8, d9, d10, shpC]) rfl ⟨by rw [HPS.out], hbf⟩
                      · clear hvb hsz HPST c4
                        go_upto_region 40 with fail
                        clear hlt2 hlt0
                        have hl := HEA.out.sh.lt
                        obtain ⟨c0, c1, c2, c3, c4, c5, c6, c7, c8, c9, c10⟩ := HEA.out.sh.cells
                        go_still_tail 3, (by kernel_rfl)
                        change wpList _ _ _ _ _ WA.drew
                        obtain ⟨WD, hWD⟩ : ∃ WD, WD = WA.drew := ⟨_, rfl⟩
                        have HRD : Hid (ShpB WD (w.heap.size + 1) (shpC 0 ⟨#[]⟩ 0 0 false 0)) := by unfold Hid; rw [hWD]; exact HEA.out.res.drew
                        have HBD : Hid (Below w.heap.size w WD) := by unfold Hid; rw [hWD]; exact HEA.out.bel.drew
                        rw [← hWD]
                        clear hWD c0 c1 c2 c3 c4 c5 c6 c7 c8 c9 c10 hl
                        go_wp2_with (refine wpList_store_row rfl 28 _ _ rfl (w.heap.size + 1) (shpC 5 P4 ((n : Int) + 1 + (m : Int)) (m : Int) S1 sz) rfl rfl 28 _ HRD.out (shp_info _ _ _ _ _ _) rfl (shp_one _ _ _ _ _ _) ?_)
                        obtain ⟨WF, hWF⟩ : ∃ WF, WF = WD.setRow (w.heap.size + 1) (shpC 5 P4 ((n : Int) + 1 + (m : Int)) (m : Int) S1 sz) := ⟨_, rfl⟩
                        have hsh : ShpB WF (w.heap.size + 1) (shpC 5 P4 ((n : Int) + 1 + (m : Int)) (m : Int) S1 sz) := by rw [hWF]; exact HRD.out.set _
                        have hbf : Below w.heap.size w WF := by rw [hWF]; exact below_setRow HBD.out (by omega) _
                        obtain ⟨d0, d1, d2, d3, d4, d5, d6, d7, d8, d9, d10⟩ := hsh.cells
                        with_reducible rw [← hWF]
                        clear hWF
                        refine bodyPost_ret (v := .tuple #[.string P4, .agg (shpC 5 P4 ((n : Int) + 1 + (m : Int)) (m : Int) S1 sz)]) (by simp [results, Tryz.results12, go_sem, d0, d1, d2, d3, d4, d5, d6, d7, d8, d9, d10, shpC]) rfl ⟨by rw [HPS.out], hbf⟩
end Go.Proofs.YteceealibfemjaaGreatDoor
