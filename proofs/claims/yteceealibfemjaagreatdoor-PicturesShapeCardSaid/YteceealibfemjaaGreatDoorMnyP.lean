/-
  CONTRACTS of law 06's many and number (layer 6, pictures).
-/
import Derived.Test.YteceealibfemjaaGreatDoorShaE
import Derived.Test.YteceealibfemjaaGreatDoorShpP
import Derived.Deep.Cut
import Derived.Deep.CutBlock
import Derived.Deep.DeepCutAuto
namespace Go.Proofs.YteceealibfemjaaGreatDoor
open Go.RowKit Go.Shelf

theorem mk_size (l : List UInt8) : (mk l).size = l.length := by show l.toArray.size = _; rw [List.size_toArray]
theorem mk_app (a b : List UInt8) : mk a ++ mk b = mk (a ++ b) := by
  apply ByteArray.ext
  simp [mk]
set_option maxRecDepth 100000 in
theorem many_c (c : UInt8) (n : Nat) (w : World) (hn : n ≤ 1000) :
    Calls Tryz.prog 10 #[.string (mk [c]), .int .i64 (n : Int)] w fun e w' => e = .returned (.string (mk (List.replicate n c))) ∧ w = w' := by
  obtain ⟨C, hC⟩ : ∃ C, C = mk [c] := ⟨_, rfl⟩
  have hCs : C.size = 1 := by rw [hC]; rfl
  have HC := hide hC
  rw [← hC]
  clear hC
  go_enter Tryz.func10, Tryz.ntmps10
  go_wp2_with fail
  go_loopw [5, 6] (fun sv iv wr => ∃ k : Nat, sv = .string (mk (List.replicate k c)) ∧ iv = .int .i64 (k : Int) ∧ k ≤ n ∧ w = wr) (fun _ iv _ => n - (intOf iv).toNat)
  case atStart => exact ⟨0, rfl, rfl, by omega, rfl⟩
  case round =>
    obtain ⟨k, rfl, rfl, hk, rfl⟩ := hrel
    obtain ⟨D, hD⟩ : ∃ D, D = mk (List.replicate k c) := ⟨_, rfl⟩
    rw [← hD]
    have hDs : D.size = k := by rw [hD, mk_size, List.length_replicate]
    by_cases h : k < n
    · have HDC : Hid (D ++ C = mk (List.replicate (k + 1) c)) := by unfold Hid; rw [hD, HC.out, mk_app, List.replicate_succ']
      clear hD
      go_wp2_with fail
      exact ⟨⟨k + 1, by rw [HDC.out], by first | rfl | go_num, by omega, by first | rfl | trivial⟩, by simp [intOf]; omega⟩
    · obtain rfl : k = n := by omega
      have HD := hide hD
      clear hD
      go_wp2_with fail
      go_ret
      rw [HD.out]
      exact ⟨rfl, rfl⟩
/-- a P as the model holds it -/
def prtA (K Wh S G F : Nat) (a : Value) : Array Value := #[.int .u8 (K : Int), .int .u8 (Wh : Int), .int .u8 (S : Int), .int .u8 (G : Int), .int .u8 (F : Int), a]
def PrB (w : World) (b K Wh S G F : Nat) (a : Value) : Prop := w.heap[b]? = some (.cells (prtA K Wh S G F a) 24 (0, 0))
theorem PrB.cells {w : World} {b K Wh S G F : Nat} {a : Value} (h : PrB w b K Wh S G F a) : w.cell? ⟨b, 0, none⟩ = some (.int .u8 (K : Int)) ∧ w.cell? ⟨b, 1, none⟩ = some (.int .u8 (Wh : Int)) ∧ w.cell? ⟨b, 2, none⟩ = some (.int .u8 (S : Int)) ∧ w.cell? ⟨b, 3, none⟩ = some (.int .u8 (G : Int)) ∧ w.cell? ⟨b, 4, none⟩ = some (.int .u8 (F : Int)) ∧ w.cell? ⟨b, 5, none⟩ = some a :=
  ⟨cell_of_row w b 0 _ _ _ h, cell_of_row w b 1 _ _ _ h, cell_of_row w b 2 _ _ _ h, cell_of_row w b 3 _ _ _ h, cell_of_row w b 4 _ _ _ h, cell_of_row w b 5 _ _ _ h⟩
theorem PrB.below {w w' : World} {b K Wh S G F : Nat} {a : Value} (h : PrB w b K Wh S G F a) (hb : Below w.heap.size w w') : PrB w' b K Wh S G F a := (hb.block b (Array.getElem?_eq_some_iff.1 h).1).trans h
theorem many_i (c : UInt8) (n : Nat) (C : ByteArray) (i : Int) (w : World) (hC : C = mk [c]) (hi : i = (n : Int)) (hn : n ≤ 1000) :
    Calls Tryz.prog 10 #[.string C, .int .i64 i] w fun e w' => e = .returned (.string (mk (List.replicate n c))) ∧ w = w' := by
  subst hC; subst hi
  exact many_c c n w hn
def nuB (n m fm : Nat) : List UInt8 := if fm < 3 then (if 0 < m then List.replicate (n + 1) 57 ++ 86 :: List.replicate m 57 else List.replicate (n + 1) 57) else if fm = 3 then List.replicate (m + 1) 80 ++ List.replicate (n + 1) 57 else if fm = 4 then List.replicate (n + 1) 57 ++ List.replicate (m + 1) 80 ++ [86] else 86 :: List.replicate (n + 1) 57
theorem numP_B (n m sg fm : Nat) : Pic.numP n m sg fm = if sg = 1 then 83 :: nuB n m fm else nuB n m fm := rfl
theorem nuB_len (n m fm : Nat) (hn : n < 10) (hm : m < 6) : (nuB n m fm).length ≤ 30 := by
  unfold nuB
  split
  · split
    · simp only [List.length_append, List.length_cons, List.length_replicate]; omega
    · simp only [List.length_replicate]; omega
  · split
    · simp only [List.length_append, List.length_replicate]; omega
    · split
      · simp only [List.length_append, List.length_cons, List.length_replicate, List.length_nil]; omega
      · simp only [List.length_cons, List.length_replicate]; omega
theorem res_new (w : World) (o : Obj) (cs : Array Value) : ShpB ((w.alloc o).alloc (.cells cs 28)) (w.heap.size + 1) cs := by
  have := heap_alloc_new (w.alloc o) (.cells cs 28)
  rw [World.size_alloc] at this
  exact this
theorem ShpB.alloc {w : World} {b : Nat} {cs : Array Value} (h : ShpB w b cs) (o : Obj) : ShpB (w.alloc o) b cs := (heap_alloc_old w o h.lt).trans h
theorem ShpB.drew {w : World} {b : Nat} {cs : Array Value} (h : ShpB w b cs) : ShpB w.drew b cs := h
theorem below3 (w : World) (a b c : Obj) : Below w.heap.size w (((w.alloc a).alloc b).alloc c) :=
  (((Below.refl _ w).alloc (Nat.le_refl _) a).alloc (by simp) b).alloc (by simp; omega) c
set_option maxRecDepth 100000 in
set_option maxHeartbeats 4000000 in
theorem number_c (K Wh S G F n m : Nat) (a : Value) (w : World) (hF : F < 256) (hG : G < 256) (hn : n < 10) (hm : m < 6) :
    Calls Tryz.prog 11 #[.agg (prtA K Wh S G F a), .int .i64 (n : Int), .int .i64 (m : Int)] w fun e w' => e = .returned (.tuple #[.string (mk (Pic.numP n m (G % 2) (F % 6))), .agg (shpV (Pic.numS n m (G % 2) (F % 6)) (mk (Pic.numP n m (G % 2) (F % 6))))]) ∧ Below w.heap.size w w' := by
  obtain ⟨sg, hsg⟩ : ∃ sg, sg = G % 2 := ⟨_, rfl⟩
  obtain ⟨fm, hfm⟩ : ∃ fm, fm = F % 6 := ⟨_, rfl⟩
  obtain ⟨T, hT⟩ : ∃ T, T = decide (sg = 1) := ⟨_, rfl⟩
  obtain ⟨R, hR⟩ : ∃ R, R = mk (Pic.numP n m sg fm) := ⟨_, rfl⟩
  obtain ⟨D, hD⟩ : ∃ D : Int, D = (Pic.numD n m fm : Int) := ⟨_, rfl⟩
  obtain ⟨C, hC⟩ : ∃ C : Int, C = Pic.numC n m fm := ⟨_, rfl⟩
  have hb1 : ((G : Int) % 2 == 1) = T := by rw [hT, hsg, Bool.eq_iff_iff, beq_iff_eq, decide_eq_true_eq]; omega
  have hf6 : (F : Int) % 6 = (fm : Int) := by rw [hfm]; omega
  have hfl : fm < 6 := by rw [hfm]; omega
  have HF6 := hide hf6
  have hpost : (.agg (shpV (Pic.numS n m sg fm) R) : Value) = .agg (shpC 4 R D C T D) := by rw [hD, hC, hT]; rfl
  rw [← hsg, ← hfm, ← hR, hpost]
  have HR : Hid (R = mk (if T = true then 83 :: nuB n m fm else nuB n m fm)) := by unfold Hid; rw [hR, numP_B, hT]; simp
  have HBL := hide (nuB_len n m fm hn hm)
  have HD := hide hD
  have HC := hide hC
  clear hR hD hC hT hsg hfm hpost hf6
  unfold prtA
  go_enter Tryz.func11, Tryz.ntmps11
  go_wp2_with fail
  refine (many_i 57 (n + 1) _ _ _ rfl (by omega) (by omega)).mono ?_
  rintro e w1 ⟨rfl, rfl⟩
  obtain ⟨N9, hN9⟩ : ∃ N9, N9 = mk (List.replicate (n + 1) 57) := ⟨_, rfl⟩
  have hN9s : N9.size = n + 1 := by rw [hN9, mk_size, List.length_replicate]
  rw [← hN9]
  have HN9 := hide hN9
  clear hN9
  go_upto_block 0 with fail
  go_cut [9] (fun s9 wx => s9 = .string (mk (nuB n m fm)) ∧ wx = ((w.alloc (.cells #[.int .u8 (K : Int), .int .u8 (Wh : Int), .int .u8 (S : Int), .int .u8 (G : Int), .int .u8 (F : Int), a] 24)).alloc (.cells #[.int .u8 0, .int .u8 0, .string ⟨#[]⟩, .int .i64 0, .int .i64 0, .bool false, .bool false, .bool false, .bool false, .bool false, .int .i64 0] 28)).alloc (.cells #[.int .u8 4, .int .u8 0, .string ⟨#[]⟩, .int .i64 D, .int .i64 C, .bool T, .bool false, .bool false, .bool false, .bool false, .int .i64 D] 28))
  case first =>
    by_cases h3 : fm < 3
    · have HDV : Hid (D = (n : Int) + 1 + (m : Int)) := by unfold Hid; rw [HD.out]; unfold Pic.numD; rw [if_pos h3]; omega
      have HCV : Hid (C = (m : Int)) := by unfold Hid; rw [HC.out]; unfold Pic.numC; rw [if_pos h3]
      by_cases hm0 : 0 < m
      · have hmt : decide ((0 : Int) < (m : Int)) = true := decide_eq_true (by omega)
        have HP0 : Hid (nuB n m fm = List.replicate (n + 1) 57 ++ 86 :: List.replicate m 57) := by unfold Hid nuB; rw [if_pos h3, if_pos hm0]
        have hm1 := hm0
        obtain ⟨M9, hM9⟩ : ∃ M9, M9 = mk (List.replicate m 57) := ⟨_, rfl⟩
        have hM9s : M9.size = m := by rw [hM9, mk_size, List.length_replicate]
        have HM9 := hide hM9
        have HV : Hid (N9 ++ ⟨#[86]⟩ ++ M9 = mk (nuB n m fm)) := by unfold Hid; rw [HP0.out, HN9.out, HM9.out, show (⟨#[86]⟩ : ByteArray) = mk [86] from rfl, mk_app, mk_app]; simp
        have HMN : Hid (∀ W : World, Calls Tryz.prog 10 #[.string ⟨#[57]⟩, .int .i64 (m : Int)] W fun e w' => e = .returned (.string M9) ∧ W = w') := fun W => by
          rw [HM9.out]; exact many_i 57 m _ _ W rfl rfl (by omega)
        clear hM9 hm0
        rcases (show fm = 0 ∨ fm = 1 ∨ fm = 2 by omega) with h | h | h
        · have t0 : ((F : Int) % 6 == 0) = true := by rw [HF6.out, h]; rfl
          have HH := hide h
          clear h h3 hfl
          go_wp2_with fail
          refine (HMN.out _).mono ?_
          rintro e w2 ⟨rfl, rfl⟩
          go_wp2_with fail
          go_meet
          exact ⟨by rw [HV.out], by rw [HDV.out, HCV.out]⟩
        · have t0 : ((F : Int) % 6 == 0) = false := by rw [HF6.out, h]; rfl
          have t1 : ((F : Int) % 6 == 1) = true := by rw [HF6.out, h]; rfl
          have HH := hide h
          clear h h3 hfl
          go_wp2_with fail
          refine (HMN.out _).mono ?_
          rintro e w2 ⟨rfl, rfl⟩
          go_wp2_with fail
          go_meet
          exact ⟨by rw [HV.out], by rw [HDV.out, HCV.out]⟩
        · have t0 : ((F : Int) % 6 == 0) = false := by rw [HF6.out, h]; rfl
          have t1 : ((F : Int) % 6 == 1) = false := by rw [HF6.out, h]; rfl
          have t2 : ((F : Int) % 6 == 2) = true := by rw [HF6.out, h]; rfl
          have HH := hide h
          clear h h3 hfl
          go_wp2_with fail
          refine (HMN.out _).mono ?_
          rintro e w2 ⟨rfl, rfl⟩
          go_wp2_with fail
          go_meet
          exact ⟨by rw [HV.out], by rw [HDV.out, HCV.out]⟩
      · have hmt : decide ((0 : Int) < (m : Int)) = false := decide_eq_false (by omega)
        have HP0 : Hid (mk (nuB n m fm) = N9) := by unfold Hid nuB; rw [if_pos h3, if_neg hm0, HN9.out]
        have hmz : m = 0 := by omega
        have HDW : Hid (D = (n : Int) + 1) := by unfold Hid; rw [HDV.out, hmz]; simp
        have HCW : Hid (C = 0) := by unfold Hid; rw [HCV.out, hmz]; rfl
        clear HDV HCV
        have HZ := hide hmz
        clear hmz
        rcases (show fm = 0 ∨ fm = 1 ∨ fm = 2 by omega) with h | h | h
        · have t0 : ((F : Int) % 6 == 0) = true := by rw [HF6.out, h]; rfl
          have HH := hide h
          clear h h3 hfl
          go_wp2_with fail
          go_meet
          exact ⟨by rw [HP0.out], by rw [HDW.out, HCW.out]⟩
        · have t0 : ((F : Int) % 6 == 0) = false := by rw [HF6.out, h]; rfl
          have t1 : ((F : Int) % 6 == 1) = true := by rw [HF6.out, h]; rfl
          have HH := hide h
          clear h h3 hfl
          go_wp2_with fail
          go_meet
          exact ⟨by rw [HP0.out], by rw [HDW.out, HCW.out]⟩
        · have t0 : ((F : Int) % 6 == 0) = false := by rw [HF6.out, h]; rfl
          have t1 : ((F : Int) % 6 == 1) = false := by rw [HF6.out, h]; rfl
          have t2 : ((F : Int) % 6 == 2) = true := by rw [HF6.out, h]; rfl
          have HH := hide h
          clear h h3 hfl
          go_wp2_with fail
          go_meet
          exact ⟨by rw [HP0.out], by rw [HDW.out, HCW.out]⟩
    · have HDV : Hid (D = (n : Int) + 1) := by unfold Hid; rw [HD.out]; unfold Pic.numD; rw [if_neg h3]; omega
      have t0 : ((F : Int) % 6 == 0) = false := by rw [HF6.out, beq_eq_false_iff_ne]; omega
      have t1 : ((F : Int) % 6 == 1) = false := by rw [HF6.out, beq_eq_false_iff_ne]; omega
      have t2 : ((F : Int) % 6 == 2) = false := by rw [HF6.out, beq_eq_false_iff_ne]; omega
      by_cases h33 : fm = 3
      · have HCV : Hid (C = (n : Int) + 1 + (m : Int) + 1) := by unfold Hid; rw [HC.out]; unfold Pic.numC; rw [if_neg h3, if_pos h33]; omega
        have HP0 : Hid (nuB n m fm = List.replicate (m + 1) 80 ++ List.replicate (n + 1) 57) := by unfold Hid nuB; rw [if_neg h3, if_pos h33]
        have t3 : ((F : Int) % 6 == 3) = true := by rw [HF6.out, h33]; rfl
        obtain ⟨M9, hM9⟩ : ∃ M9, M9 = mk (List.replicate (m + 1) 80) := ⟨_, rfl⟩
        have hM9s : M9.size = m + 1 := by rw [hM9, mk_size, List.length_replicate]
        have HM9 := hide hM9
        have HV : Hid (M9 ++ N9 = mk (nuB n m fm)) := by unfold Hid; rw [HP0.out, HN9.out, HM9.out, mk_app]
        have HMN : Hid (∀ W : World, Calls Tryz.prog 10 #[.string ⟨#[80]⟩, .int .i64 ((m : Int) + 1)] W fun e w' => e = .returned (.string M9) ∧ W = w') := fun W => by
          rw [HM9.out]; exact many_i 80 (m + 1) _ _ W rfl (by omega) (by omega)
        have HH := hide h33
        clear hM9 h3 h33 hfl
        go_wp2_with fail
        refine (HMN.out _).mono ?_
        rintro e w2 ⟨rfl, rfl⟩
        go_wp2_with fail
        go_meet
        exact ⟨by rw [HV.out], by rw [HDV.out, HCV.out]⟩
      · have t3 : ((F : Int) % 6 == 3) = false := by rw [HF6.out, beq_eq_false_iff_ne]; omega
        by_cases h4 : fm = 4
        · have HCV : Hid (C = -(m : Int) - 1) := by unfold Hid; rw [HC.out]; unfold Pic.numC; rw [if_neg h3, if_neg h33, if_pos h4]; omega
          have HP0 : Hid (nuB n m fm = List.replicate (n + 1) 57 ++ List.replicate (m + 1) 80 ++ [86]) := by unfold Hid nuB; rw [if_neg h3, if_neg h33, if_pos h4]
          have t4 : ((F : Int) % 6 == 4) = true := by rw [HF6.out, h4]; rfl
          obtain ⟨M9, hM9⟩ : ∃ M9, M9 = mk (List.replicate (m + 1) 80) := ⟨_, rfl⟩
          have hM9s : M9.size = m + 1 := by rw [hM9, mk_size, List.length_replicate]
          have HM9 := hide hM9
          have HV : Hid (N9 ++ M9 ++ ⟨#[86]⟩ = mk (nuB n m fm)) := by unfold Hid; rw [HP0.out, HN9.out, HM9.out, show (⟨#[86]⟩ : ByteArray) = mk [86] from rfl, mk_app, mk_app]
          have HMN : Hid (∀ W : World, Calls Tryz.prog 10 #[.string ⟨#[80]⟩, .int .i64 ((m : Int) + 1)] W fun e w' => e = .returned (.string M9) ∧ W = w') := fun W => by
            rw [HM9.out]; exact many_i 80 (m + 1) _ _ W rfl (by omega) (by omega)
          have HH := hide h4
          clear hM9 h3 h33 h4 hfl
          go_wp2_with fail
          refine (HMN.out _).mono ?_
          rintro e w2 ⟨rfl, rfl⟩
          go_wp2_with fail
          go_meet
          exact ⟨by rw [HV.out], by rw [HDV.out, HCV.out]⟩
        · have HCV : Hid (C = (n : Int) + 1) := by unfold Hid; rw [HC.out]; unfold Pic.numC; rw [if_neg h3, if_neg h33, if_neg h4]; omega
          have HP0 : Hid (nuB n m fm = 86 :: List.replicate (n + 1) 57) := by unfold Hid nuB; rw [if_neg h3, if_neg h33, if_neg h4]
          have t4 : ((F : Int) % 6 == 4) = false := by rw [HF6.out, beq_eq_false_iff_ne]; omega
          have HV : Hid (⟨#[86]⟩ ++ N9 = mk (nuB n m fm)) := by unfold Hid; rw [HP0.out, HN9.out, show (⟨#[86]⟩ : ByteArray) = mk [86] from rfl, mk_app]; rfl
          clear h3 h33 h4 hfl
          go_wp2_with fail
          go_meet
          exact ⟨by rw [HV.out], by rw [HDV.out, HCV.out]⟩
  case rest =>
    obtain ⟨rfl, rfl⟩ := hcut
    obtain ⟨Q, hQ⟩ : ∃ Q, Q = mk (nuB n m fm) := ⟨_, rfl⟩
    have hQs : Q.size ≤ 30 := by rw [hQ, mk_size]; exact HBL.out
    rw [← hQ]
    have HQ := hide hQ
    clear hQ hb1 hfl hN9s
    cases T with
    | true =>
      have HRV : Hid (⟨#[83]⟩ ++ Q = R) := by unfold Hid; rw [HR.out, HQ.out, if_pos rfl, show (⟨#[83]⟩ : ByteArray) = mk [83] from rfl, mk_app]; rfl
      go_wp2_with fail
      go_region_with (fail)
      rw [HRV.out]
      obtain ⟨WF, hWF⟩ : ∃ WF, WF = (((w.alloc (.cells #[.int .u8 (K : Int), .int .u8 (Wh : Int), .int .u8 (S : Int), .int .u8 (G : Int), .int .u8 (F : Int), a] 24)).alloc (.cells #[.int .u8 4, .int .u8 0, .string R, .int .i64 D, .int .i64 C, .bool true, .bool false, .bool false, .bool false, .bool false, .int .i64 D] 28)).alloc (.cells #[.int .u8 4, .int .u8 0, .string R, .int .i64 D, .int .i64 C, .bool true, .bool false, .bool false, .bool false, .bool false, .int .i64 D] 28)).drew := ⟨_, rfl⟩
      have hsh : ShpB WF (w.heap.size + 1) (shpC 4 R D C true D) := by rw [hWF]; exact ((res_new w _ _).alloc _).drew
      have hbf : Below w.heap.size w WF := by rw [hWF]; exact (below3 w _ _ _).drew
      obtain ⟨d0, d1, d2, d3, d4, d5, d6, d7, d8, d9, d10⟩ := hsh.cells
      with_reducible rw [← hWF]
      clear hWF
      go_wp2_with fail
      refine bodyPost_ret (v := .tuple #[.string R, .agg (shpC 4 R D C true D)]) (by simp [results, Tryz.results11, go_sem, d0, d1, d2, d3, d4, d5, d6, d7, d8, d9, d10, shpC]) rfl ⟨rfl, hbf⟩
    | false =>
      have HRV : Hid (Q = R) := by unfold Hid; rw [HR.out, HQ.out, if_neg (by simp)]
      go_wp2_with fail
      go_region_with (fail)
      rw [HRV.out]
      obtain ⟨WF, hWF⟩ : ∃ WF, WF = (((w.alloc (.cells #[.int .u8 (K : Int), .int .u8 (Wh : Int), .int .u8 (S : Int), .int .u8 (G : Int), .int .u8 (F : Int), a] 24)).alloc (.cells #[.int .u8 4, .int .u8 0, .string R, .int .i64 D, .int .i64 C, .bool false, .bool false, .bool false, .bool false, .bool false, .int .i64 D] 28)).alloc (.cells #[.int .u8 4, .int .u8 0, .string R, .int .i64 D, .int .i64 C, .bool false, .bool false, .bool false, .bool false, .bool false, .int .i64 D] 28)).drew := ⟨_, rfl⟩
      have hsh : ShpB WF (w.heap.size + 1) (shpC 4 R D C false D) := by rw [hWF]; exact ((res_new w _ _).alloc _).drew
      have hbf : Below w.heap.size w WF := by rw [hWF]; exact (below3 w _ _ _).drew
      obtain ⟨d0, d1, d2, d3, d4, d5, d6, d7, d8, d9, d10⟩ := hsh.cells
      with_reducible rw [← hWF]
      clear hWF
      go_wp2_with fail
      refine bodyPost_ret (v := .tuple #[.string R, .agg (shpC 4 R D C false D)]) (by simp [results, Tryz.results11, go_sem, d0, d1, d2, d3, d4, d5, d6, d7, d8, d9, d10, shpC]) rfl ⟨rfl, hbf⟩
end Go.Proofs.YteceealibfemjaaGreatDoor
