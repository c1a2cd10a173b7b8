/-
  CONTRACT of the reference's Expand (layer 6, pictures).
-/
import Derived.Test.YthdggnkpncoikaaGreatDoorInR
namespace Go.Proofs.YthdggnkpncoikaaGreatDoor
open Go.RowKit Go.Shelf

theorem take_rep (out : List UInt8) (k : Nat) (c : UInt8) (h : ((out ++ List.replicate k c).take 257).length < 257) : (out ++ List.replicate k c).take 257 ++ [c] = (out ++ List.replicate (k + 1) c).take 257 := by
  rw [List.length_take, List.length_append, List.length_replicate] at h
  rw [List.take_of_length_le (by rw [List.length_append, List.length_replicate]; omega), List.take_of_length_le (by rw [List.length_append, List.length_replicate]; omega), List.append_assoc, List.replicate_succ']
theorem take_full (out : List UInt8) (k m : Nat) (c : UInt8) (hk : k ≤ m) (h : ¬ ((out ++ List.replicate k c).take 257).length < 257) : (out ++ List.replicate k c).take 257 = (out ++ List.replicate m c).take 257 := by
  rw [List.length_take, List.length_append, List.length_replicate] at h
  rw [show List.replicate m c = List.replicate k c ++ List.replicate (m - k) c by rw [List.replicate_append_replicate]; congr 1; omega, ← List.append_assoc]
  exact (List.take_append_of_le_length (by rw [List.length_append, List.length_replicate]; omega)).symm
theorem take_snoc (l : List UInt8) (d : Nat) (x : UInt8) (h : l[d]? = some x) : l.take (d + 1) = l.take d ++ [x] := by
  obtain ⟨h1, h2⟩ := List.getElem?_eq_some_iff.1 h
  rw [List.take_succ_eq_append_getElem h1, h2]
theorem dig_lt (x : UInt8) (h : Pic.isDig x = false) (h2 : 48 ≤ x.toNat) : 57 < x.toNat := by
  rcases Nat.lt_or_ge 57 x.toNat with h3 | h3
  · exact h3
  · have := (Pic.isDig_iff x).2 ⟨h2, h3⟩
    rw [h] at this; cases this
set_option maxRecDepth 100000 in
set_option maxHeartbeats 8000000 in
theorem refExpand_c (s : ByteArray) (w : World) (hs : s.size ≤ 300) :
    Calls Tryz.prog 8 #[.string s] w fun e w' => e = .returned (.tuple #[.string (mk (Pic.expL s.data.toList).1), .int .i64 (Pic.expL s.data.toList).2]) ∧ Below w.heap.size w w' := by
  obtain ⟨L, hL⟩ : ∃ L, L = s.data.toList := ⟨_, rfl⟩
  obtain ⟨X, hX⟩ : ∃ X, X = Pic.expL s.data.toList := ⟨_, rfl⟩
  rw [← hX]
  have hLs : L.length = s.size := by rw [hL]; exact len_data s
  have HX0 : Hid (X = refR (Pic.refG L.length [] 0 (L.drop 0))) := by unfold Hid; rw [hX, ← hL, List.drop_zero, refR_exp]
  have HAT : Hid (∀ (j : Nat) (h : j < s.size) (x : UInt8), s[j] = x → L[j]? = some x) := fun j h x hx => by rw [hL]; exact byteAt s j h x hx
  have HEX : Hid (∀ (i : Nat) (c : UInt8), L[i]? = some c → s.extract i (i + 1) = mk [c]) := fun i c hc => by
    rw [extract_mk, ← hL, drop_cons L i c hc, show i + 1 - i = 1 by omega]; rfl
  have HIN : Hid (∀ (c : UInt8) (W : World), Calls Tryz.prog 17 #[.int .u8 (c.toNat : Int), .string ⟨#[65, 88, 57, 83, 86, 80, 90, 42, 43, 45, 46, 44, 36, 66, 48, 47, 67, 82, 68]⟩] W fun e w' => e = .returned (.bool (Pic.isSym c)) ∧ W = w') := fun c W => in_c c _ W (by decide)
  have HLS := hide hLs
  clear hX hL hLs
  go_enter Tryz.func8, Tryz.ntmps8
  go_wp2_with fail
  go_loopw [4, 5, 6] (fun ov nv iv wr => ∃ (out : List UInt8) (n i f : Nat), ov = .string (mk out) ∧ nv = .int .i64 (n : Int) ∧ iv = .int .i64 (i : Int) ∧ i ≤ s.size ∧ out.length ≤ 257 ∧ n ≤ 100000 * i ∧ Hid (s.size - i ≤ f) ∧ Hid (X = refR (Pic.refG f out n (L.drop i))) ∧ Hid (Below w.heap.size w wr)) (fun _ _ iv _ => s.size - (intOf iv).toNat)
  case atStart => exact ⟨[], 0, 0, L.length, rfl, rfl, rfl, by omega, by decide, by omega, by unfold Hid; rw [HLS.out]; omega, HX0.out, Below.refl _ _⟩
  case round =>
    obtain ⟨out, n, i, f, rfl, rfl, rfl, hi, ho, hn, hf, hx, hb⟩ := hrel
    obtain ⟨W, rfl⟩ : ∃ W, W = wr := ⟨_, rfl⟩
    obtain ⟨D, hD⟩ : ∃ D, D = mk out := ⟨_, rfl⟩
    have hDs : D.size = out.length := by rw [hD, mk_sz]
    rw [← hD]
    by_cases hlt : i < s.size
    · obtain ⟨c, hc⟩ : ∃ c, s[i] = c := ⟨_, rfl⟩
      have HLc := hide (HAT.out i hlt c hc)
      obtain ⟨f', hf'⟩ : ∃ f', f = f' + 1 := ⟨f - 1, by have := hf.out; omega⟩
      have HF : Hid (s.size - (i + 1) ≤ f') := by unfold Hid; have := hf.out; omega
      have HX1 : Hid (X = refR (if Pic.isSym c then match Pic.repL (L.drop (i + 1)) with
          | none => none
          | some (m, b) => Pic.refG f' ((out ++ List.replicate m c).take 257) (n + m) b else none)) := by unfold Hid; rw [hx.out, hf', drop_cons L i c HLc.out, refG_cons]; rfl
      have HC := hide (HIN.out c)
      obtain ⟨Y, hY⟩ : ∃ Y, Y = s.extract i (i + 1) := ⟨_, rfl⟩
      have HY : Hid (Y = mk [c]) := by unfold Hid; rw [hY]; exact HEX.out i c HLc.out
      have hYs : Y.size = 1 := by rw [HY.out]; rfl
      have HD := hide hD
      clear hf hx hf' hD HX0
      cases hsym : Pic.isSym c with
      | false =>
        have HXN : Hid (X = ([], 4)) := by unfold Hid; rw [HX1.out, hsym]; rfl
        rw [hsym] at HC
        go_wp2_with fail
        refine (HC.out _).mono ?_
        rintro e w' ⟨rfl, rfl⟩
        go_wp2_with fail
        go_ret2
        exact ⟨by rw [HXN.out]; rfl, hb.out⟩
      | true =>
        rw [hsym] at HC HX1
        have HX2 : Hid (X = refR (match Pic.repL (L.drop (i + 1)) with
          | none => none
          | some (m, b) => Pic.refG f' ((out ++ List.replicate m c).take 257) (n + m) b)) := HX1.out
        clear HX1
        by_cases hlt1 : i + 1 < s.size
        · obtain ⟨x, hx1⟩ : ∃ x, s[i + 1] = x := ⟨_, rfl⟩
          have HLx := hide (HAT.out (i + 1) hlt1 x hx1)
          have hlt1' : (i : Int) + 1 < (s.size : Int) := by omega
          have hge1' : (0 : Int) ≤ (i : Int) + 1 := by omega
          cases h40 : ((x.toNat : Int) == 40) with
          | false =>
            have HRP : Hid (Pic.repL (L.drop (i + 1)) = some (1, L.drop (i + 1))) := by
              unfold Hid
              rw [drop_cons L (i + 1) x HLx.out]
              refine Pic.repL_one _ ?_
              simp only [List.head?_cons, ne_eq, Option.some.injEq]
              intro h; rw [h] at h40; revert h40; decide
            go_wp2_with fail
            refine (HC.out _).mono ?_
            rintro e w' ⟨rfl, rfl⟩
            go_wp2_with fail
            have HXM : Hid (X = refR (Pic.refG f' ((out ++ List.replicate 1 c).take 257) (n + 1) (L.drop (i + 1)))) := by unfold Hid; rw [HX2.out, HRP.out]
            go_loopw [4, 10] (fun ov kv wr => ∃ (O : List UInt8) (k : Nat), ov = .string (mk O) ∧ kv = .int .i64 (k : Int) ∧ k ≤ 1 ∧ O.length ≤ 257 ∧ Hid (O = (out ++ List.replicate k c).take 257) ∧ Hid (Below w.heap.size w wr)) (fun _ kv _ => 1 - (intOf kv).toNat)
            case atStart => exact ⟨out, 0, by rw [HD.out], rfl, by omega, ho, by unfold Hid; rw [List.replicate_zero, List.append_nil, List.take_of_length_le ho], hb.out⟩
            case round =>
              obtain ⟨O, k, rfl, rfl, hk, hO, hOe, hbk⟩ := hrel
              obtain ⟨Z, rfl⟩ : ∃ Z, Z = wr := ⟨_, rfl⟩
              obtain ⟨E, hE⟩ : ∃ E, E = mk O := ⟨_, rfl⟩
              have hEs : E.size = O.length := by rw [hE, mk_sz]
              rw [← hE]
              have HE := hide hE
              clear hE
              by_cases hkm : k < 1
              · by_cases hO2 : O.length < 257
                · have HEY : Hid (E ++ s.extract i (i + 1) = mk (O ++ [c])) := by unfold Hid; rw [HE.out, HEX.out i c HLc.out, app_mk]
                  have HON : Hid (O ++ [c] = (out ++ List.replicate (k + 1) c).take 257) := by
                    unfold Hid
                    rw [hOe.out]
                    exact take_rep out k c (by rw [← hOe.out]; exact hO2)
                  have hd1 : decide ((k : Int) < ((1 : Nat) : Int)) = true := decide_eq_true (by omega)
                  go_wp2_with fail
                  exact ⟨⟨O ++ [c], k + 1, by rw [HEY.out], rfl, by omega, by rw [List.length_append]; simp; omega, HON.out, hbk.out⟩, by simp [intOf]; omega⟩
                · have HOM : Hid (O = (out ++ List.replicate 1 c).take 257) := by
                    unfold Hid
                    rw [hOe.out]
                    exact take_full out k _ c hk (by rw [← hOe.out]; exact hO2)
                  go_wp2_with fail
                  exact ⟨⟨O, n + 1, i + 1, f', by rw [HE.out], by go_num, by go_num, by omega, hO, by omega, by unfold Hid; have := HF.out; omega, by unfold Hid; rw [HOM.out]; exact HXM.out, hbk.out⟩, by simp [intOf]; omega⟩
              · have hkm2 : k = 1 := by omega
                have HOM : Hid (O = (out ++ List.replicate 1 c).take 257) := by
                  unfold Hid
                  rw [hOe.out, hkm2]
                clear hkm2
                go_wp2_with fail
                exact ⟨⟨O, n + 1, i + 1, f', by rw [HE.out], by go_num, by go_num, by omega, hO, by omega, by unfold Hid; have := HF.out; omega, by unfold Hid; rw [HOM.out]; exact HXM.out, hbk.out⟩, by simp [intOf]; omega⟩
          | true =>
            have hx40 : x = 40 := by
              have := eq_of_beq h40
              apply UInt8.toNat_inj.1
              show x.toNat = 40
              omega
            obtain ⟨R, hR⟩ : ∃ R, R = L.drop (i + 2) := ⟨_, rfl⟩
            have HD1 : Hid (L.drop (i + 1) = 40 :: R) := by unfold Hid; rw [drop_cons L (i + 1) x HLx.out, hx40, hR]
            have HRs : Hid (∀ d, R[d]? = L[i + 2 + d]?) := fun d => by rw [hR, List.getElem?_drop]
            have HRd : Hid (∀ d, R.drop d = L.drop (i + 2 + d)) := fun d => by rw [hR, List.drop_drop]
            have HRl : Hid (R.length = s.size - (i + 2)) := by unfold Hid; rw [hR, List.length_drop, HLS.out]
            rw [HD1.out] at HX2
            clear hR hx40
            go_wp2_with fail
            refine (HC.out _).mono ?_
            rintro e w' ⟨rfl, rfl⟩
            go_wp2_with fail
            go_loopw [6, 8, 9] (fun iv mv dv wr => ∃ (d j M : Nat), iv = .int .i64 (j : Int) ∧ mv = .int .i64 (M : Int) ∧ dv = .int .i64 (d : Int) ∧ d ≤ 6 ∧ j = i + 2 + d ∧ j ≤ s.size ∧ M ≤ 999999 ∧ Hid ((R.take d).all Pic.isDig = true) ∧ Hid (M = Pic.natF (R.take d)) ∧ Hid (Below w.heap.size w wr)) (fun iv _ _ _ => s.size - (intOf iv).toNat)
            case atStart => exact ⟨0, i + 2, 0, by go_num, rfl, rfl, by omega, by omega, by omega, by omega, rfl, rfl, hb.out⟩
            case round =>
              obtain ⟨d, j, M, rfl, rfl, rfl, hd6, hj, hjs, hM, hdig, hnat, hb⟩ := hrel
              obtain ⟨V, rfl⟩ : ∃ V, V = wr := ⟨_, rfl⟩
              have HJ := hide hj
              by_cases hjl : j < s.size
              · obtain ⟨y, hy⟩ : ∃ y, s[j] = y := ⟨_, rfl⟩
                have HLy : Hid (R[d]? = some y) := by unfold Hid; rw [HRs.out d, ← hj]; exact HAT.out j hjl y hy
                by_cases hy48 : y.toNat < 48
                · have hyb : decide ((48 : Int) ≤ (y.toNat : Int)) = false := decide_eq_false (by omega)
                  have hyn : Pic.isDig y = false := by
                    rw [Bool.eq_false_iff]; intro h; have := (Pic.isDig_iff y).1 h; omega
                  have HNO : Hid (¬ (1 ≤ d ∧ d ≤ 5 ∧ Pic.natF (R.take d) ≠ 0 ∧ R[d]? = some 41) → X = ([], 4)) := fun h => by
                    rw [HX2.out, Pic.repL_no R d (by rw [HRl.out]; omega) hdig.out (.inr (fun c' hc' => by rw [HLy.out] at hc'; cases hc'; exact hyn)) h]; rfl
                  clear hyn hj
                  by_cases hd1 : d < 1
                  · have hd1b : decide ((d : Int) < 1) = true := decide_eq_true (by omega)
                    have HXN : Hid (X = ([], 4)) := HNO.out (fun h => by omega)
                    go_wp2_with fail
                    go_ret2
                    exact ⟨by rw [HXN.out]; rfl, hb.out⟩
                  · have hd1b : decide ((d : Int) < 1) = false := decide_eq_false (by omega)
                    by_cases hd5 : 5 < d
                    · have hd5b : decide ((5 : Int) < (d : Int)) = true := decide_eq_true (by omega)
                      have HXN : Hid (X = ([], 4)) := HNO.out (fun h => by omega)
                      go_wp2_with fail
                      go_ret2
                      exact ⟨by rw [HXN.out]; rfl, hb.out⟩
                    · have hd5b : decide ((5 : Int) < (d : Int)) = false := decide_eq_false (by omega)
                      by_cases hm0 : M = 0
                      · have hm0b : ((M : Int) == 0) = true := by rw [hm0]; rfl
                        have HXN : Hid (X = ([], 4)) := HNO.out (fun h => by exact h.2.2.1 (hnat.out.symm.trans hm0))
                        have HM0 := hide hm0
                        clear hm0
                        go_wp2_with fail
                        go_ret2
                        exact ⟨by rw [HXN.out]; rfl, hb.out⟩
                      · have hm0b : ((M : Int) == 0) = false := by rw [beq_eq_false_iff_ne]; omega
                        have hjn : ((j : Int) == (s.size : Int)) = false := by rw [beq_eq_false_iff_ne]; omega
                        cases hy41 : ((y.toNat : Int) != 41) with
                        | true =>
                          have HXN : Hid (X = ([], 4)) := HNO.out (fun h => by have h2 := HLy.out.symm.trans h.2.2.2; cases h2; revert hy41; decide)
                          go_wp2_with fail
                          go_ret2
                          exact ⟨by rw [HXN.out]; rfl, hb.out⟩
                        | false =>
                          have hye : y = 41 := by
                            have h2 : ¬ ((y.toNat : Int) ≠ 41) := by rw [← bne_iff_ne]; rw [hy41]; simp
                            apply UInt8.toNat_inj.1
                            show y.toNat = 41
                            omega
                          have HRP : Hid (Pic.repL (40 :: R) = some (M, L.drop (j + 1))) := by
                            unfold Hid
                            rw [Pic.repL_yes R d hdig.out (by omega) (by omega) (by rw [← hnat.out]; exact hm0) (by rw [HLy.out, hye]), ← hnat.out, HRd.out, HJ.out]
                            rfl
                          have hM5 : M ≤ 99999 := by
                            rw [hnat.out]
                            have h1 := Pic.natF_lt (R.take d) hdig.out
                            have h2 : (R.take d).length ≤ 5 := by rw [List.length_take]; omega
                            have h3 : 10 ^ (R.take d).length ≤ 10 ^ 5 := Nat.pow_le_pow_right (by omega) h2
                            omega
                          have hij : i + 1 ≤ j := by have := HJ.out; omega
                          clear hye
                          go_wp2_with fail
                          have HXM : Hid (X = refR (Pic.refG f' ((out ++ List.replicate M c).take 257) (n + M) (L.drop (j + 1)))) := by unfold Hid; rw [HX2.out, HRP.out]
                          go_loopw [4, 10] (fun ov kv wr => ∃ (O : List UInt8) (k : Nat), ov = .string (mk O) ∧ kv = .int .i64 (k : Int) ∧ k ≤ M ∧ O.length ≤ 257 ∧ Hid (O = (out ++ List.replicate k c).take 257) ∧ Hid (Below w.heap.size w wr)) (fun _ kv _ => M - (intOf kv).toNat)
                          case atStart => exact ⟨out, 0, by rw [HD.out], rfl, by omega, ho, by unfold Hid; rw [List.replicate_zero, List.append_nil, List.take_of_length_le ho], hb.out⟩
                          case round =>
                            obtain ⟨O, k, rfl, rfl, hk, hO, hOe, hbk⟩ := hrel
                            obtain ⟨Z, rfl⟩ : ∃ Z, Z = wr := ⟨_, rfl⟩
                            obtain ⟨E, hE⟩ : ∃ E, E = mk O := ⟨_, rfl⟩
                            have hEs : E.size = O.length := by rw [hE, mk_sz]
                            rw [← hE]
                            have HE := hide hE
                            clear hE
                            by_cases hkm : k < M
                            · by_cases hO2 : O.length < 257
                              · have HEY : Hid (E ++ s.extract i (i + 1) = mk (O ++ [c])) := by unfold Hid; rw [HE.out, HEX.out i c HLc.out, app_mk]
                                have HON : Hid (O ++ [c] = (out ++ List.replicate (k + 1) c).take 257) := by
                                  unfold Hid
                                  rw [hOe.out]
                                  exact take_rep out k c (by rw [← hOe.out]; exact hO2)
                                have hd1 : decide ((k : Int) < ((M : Nat) : Int)) = true := decide_eq_true (by omega)
                                go_wp2_with fail
                                exact ⟨⟨O ++ [c], k + 1, by rw [HEY.out], rfl, by omega, by rw [List.length_append]; simp; omega, HON.out, hbk.out⟩, by simp [intOf]; omega⟩
                              · have HOM : Hid (O = (out ++ List.replicate M c).take 257) := by
                                  unfold Hid
                                  rw [hOe.out]
                                  exact take_full out k _ c hk (by rw [← hOe.out]; exact hO2)
                                go_wp2_with fail
                                exact ⟨⟨O, n + M, j + 1, f', by rw [HE.out], by go_num, by go_num, by omega, hO, by omega, by unfold Hid; have := HF.out; omega, by unfold Hid; rw [HOM.out]; exact HXM.out, hbk.out⟩, by simp [intOf]; omega⟩
                            · have hkm2 : k = M := by omega
                              have HOM : Hid (O = (out ++ List.replicate M c).take 257) := by
                                unfold Hid
                                rw [hOe.out, hkm2]
                              clear hkm2
                              go_wp2_with fail
                              exact ⟨⟨O, n + M, j + 1, f', by rw [HE.out], by go_num, by go_num, by omega, hO, by omega, by unfold Hid; have := HF.out; omega, by unfold Hid; rw [HOM.out]; exact HXM.out, hbk.out⟩, by simp [intOf]; omega⟩
                · by_cases hy57 : 57 < y.toNat
                  · have hyb : decide ((48 : Int) ≤ (y.toNat : Int)) = true := decide_eq_true (by omega)
                    have hyc : decide ((y.toNat : Int) ≤ 57) = false := decide_eq_false (by omega)
                    have hyn : Pic.isDig y = false := by
                      rw [Bool.eq_false_iff]; intro h; have := (Pic.isDig_iff y).1 h; omega
                    have HXN : Hid (X = ([], 4)) := by
                      unfold Hid
                      rw [HX2.out, Pic.repL_no R d (by rw [HRl.out]; omega) hdig.out (.inr (fun c' hc' => by rw [HLy.out] at hc'; cases hc'; exact hyn)) (fun h => by have h2 := HLy.out.symm.trans h.2.2.2; cases h2; revert hy57; decide)]; rfl
                    have hy41 : ((y.toNat : Int) != 41) = true := by rw [bne_iff_ne]; omega
                    clear hyn hj
                    by_cases hd1 : d < 1
                    · have hd1b : decide ((d : Int) < 1) = true := decide_eq_true (by omega)
                      go_wp2_with fail
                      go_ret2
                      exact ⟨by rw [HXN.out]; rfl, hb.out⟩
                    · have hd1b : decide ((d : Int) < 1) = false := decide_eq_false (by omega)
                      by_cases hd5 : 5 < d
                      · have hd5b : decide ((5 : Int) < (d : Int)) = true := decide_eq_true (by omega)
                        go_wp2_with fail
                        go_ret2
                        exact ⟨by rw [HXN.out]; rfl, hb.out⟩
                      · have hd5b : decide ((5 : Int) < (d : Int)) = false := decide_eq_false (by omega)
                        by_cases hm0 : M = 0
                        · have hm0b : ((M : Int) == 0) = true := by rw [hm0]; rfl
                          have HM0 := hide hm0
                          clear hm0
                          go_wp2_with fail
                          go_ret2
                          exact ⟨by rw [HXN.out]; rfl, hb.out⟩
                        · have hm0b : ((M : Int) == 0) = false := by rw [beq_eq_false_iff_ne]; omega
                          have hjn : ((j : Int) == (s.size : Int)) = false := by rw [beq_eq_false_iff_ne]; omega
                          go_wp2_with fail
                          go_ret2
                          exact ⟨by rw [HXN.out]; rfl, hb.out⟩
                  · have hyb : decide ((48 : Int) ≤ (y.toNat : Int)) = true := decide_eq_true (by omega)
                    have hyc : decide ((y.toNat : Int) ≤ 57) = true := decide_eq_true (by omega)
                    by_cases hd : d = 6
                    · have hdb : decide ((d : Int) < 6) = false := decide_eq_false (by omega)
                      have HXN : Hid (X = ([], 4)) := by
                        unfold Hid
                        rw [HX2.out, Pic.repL_no R d (by rw [HRl.out]; omega) hdig.out (.inl hd) (fun h => by omega)]; rfl
                      have hd1 : decide ((d : Int) < 1) = false := decide_eq_false (by omega)
                      have hd5 : decide ((5 : Int) < (d : Int)) = true := decide_eq_true (by omega)
                      have H6 := hide hd
                      clear hd hj
                      go_wp2_with fail
                      go_ret2
                      exact ⟨by rw [HXN.out]; rfl, hb.out⟩
                    · have hdb : decide ((d : Int) < 6) = true := decide_eq_true (by omega)
                      have hyd : Pic.isDig y = true := (Pic.isDig_iff y).2 ⟨by omega, by omega⟩
                      have hts := take_snoc R d y HLy.out
                      have HDG : Hid ((R.take (d + 1)).all Pic.isDig = true) := by unfold Hid; rw [hts, List.all_append, hdig.out]; simp [hyd]
                      have HNT : Hid (M * 10 + (y.toNat - 48) = Pic.natF (R.take (d + 1))) := by unfold Hid; rw [hts, Pic.natF_snoc, ← hnat.out]
                      have hM6 : M * 10 + (y.toNat - 48) ≤ 999999 := by
                        rw [HNT.out]
                        have h1 := Pic.natF_lt (R.take (d + 1)) HDG.out
                        have h2 : (R.take (d + 1)).length ≤ 6 := by rw [List.length_take]; omega
                        have h3 : 10 ^ (R.take (d + 1)).length ≤ 10 ^ 6 := Nat.pow_le_pow_right (by omega) h2
                        omega
                      have hwr : IntKind.u8.wrap ((y.toNat : Int) - 48) = (y.toNat : Int) - 48 := by
                        have : y.toNat < 256 := UInt8.toNat_lt y
                        unfold IntKind.wrap
                        simp [IntKind.signed, IntKind.bits]
                        omega
                      have HMI : Hid ((10 : Int) * (M : Int) + ((y.toNat : Int) - 48) = ((M * 10 + (y.toNat - 48) : Nat) : Int)) := by unfold Hid; omega
                      clear hyd hts hj
                      go_wp2_with fail
                      exact ⟨⟨d + 1, j + 1, M * 10 + (y.toNat - 48), rfl, by first | rw [← HMI.out] | go_num, rfl, by omega, by have := HJ.out; omega, by omega, hM6, HDG.out, HNT.out, hb.out⟩, by simp [intOf]; omega⟩
              · have hje : j = s.size := by omega
                have HXN : Hid (X = ([], 4)) := by
                  unfold Hid
                  have hnone : R[d]? = none := List.getElem?_eq_none (by rw [HRl.out]; omega)
                  rw [HX2.out, Pic.repL_no R d (by rw [HRl.out]; omega) hdig.out (.inr (fun c' hc' => by rw [hnone] at hc'; cases hc')) (fun h => by rw [hnone] at h; cases h.2.2.2)]; rfl
                have hjeb : ((j : Int) == (s.size : Int)) = true := by rw [hje]; exact beq_self_eq_true _
                have HJE := hide hje
                clear hje hj
                by_cases hd1 : d < 1
                · have hd1b : decide ((d : Int) < 1) = true := decide_eq_true (by omega)
                  go_wp2_with fail
                  go_ret2
                  exact ⟨by rw [HXN.out]; rfl, hb.out⟩
                · have hd1b : decide ((d : Int) < 1) = false := decide_eq_false (by omega)
                  by_cases hd5 : 5 < d
                  · have hd5b : decide ((5 : Int) < (d : Int)) = true := decide_eq_true (by omega)
                    go_wp2_with fail
                    go_ret2
                    exact ⟨by rw [HXN.out]; rfl, hb.out⟩
                  · have hd5b : decide ((5 : Int) < (d : Int)) = false := decide_eq_false (by omega)
                    by_cases hm0 : M = 0
                    · have hm0b : ((M : Int) == 0) = true := by rw [hm0]; rfl
                      have HM0 := hide hm0
                      clear hm0
                      go_wp2_with fail
                      go_ret2
                      exact ⟨by rw [HXN.out]; rfl, hb.out⟩
                    · have hm0b : ((M : Int) == 0) = false := by rw [beq_eq_false_iff_ne]; omega
                      go_wp2_with fail
                      go_ret2
                      exact ⟨by rw [HXN.out]; rfl, hb.out⟩
        · have HRP : Hid (Pic.repL (L.drop (i + 1)) = some (1, L.drop (i + 1))) := by
            unfold Hid
            rw [List.drop_of_length_le (by rw [HLS.out]; omega)]; rfl
          have hlt1' : ¬ (i : Int) + 1 < (s.size : Int) := by omega
          have hdl1 : decide ((i : Int) + 1 < (s.size : Int)) = false := decide_eq_false hlt1'
          go_wp2_with fail
          refine (HC.out _).mono ?_
          rintro e w' ⟨rfl, rfl⟩
          go_wp2_with fail
          have HXM : Hid (X = refR (Pic.refG f' ((out ++ List.replicate 1 c).take 257) (n + 1) (L.drop (i + 1)))) := by unfold Hid; rw [HX2.out, HRP.out]
          go_loopw [4, 10] (fun ov kv wr => ∃ (O : List UInt8) (k : Nat), ov = .string (mk O) ∧ kv = .int .i64 (k : Int) ∧ k ≤ 1 ∧ O.length ≤ 257 ∧ Hid (O = (out ++ List.replicate k c).take 257) ∧ Hid (Below w.heap.size w wr)) (fun _ kv _ => 1 - (intOf kv).toNat)
          case atStart => exact ⟨out, 0, by rw [HD.out], rfl, by omega, ho, by unfold Hid; rw [List.replicate_zero, List.append_nil, List.take_of_length_le ho], hb.out⟩
          case round =>
            obtain ⟨O, k, rfl, rfl, hk, hO, hOe, hbk⟩ := hrel
            obtain ⟨Z, rfl⟩ : ∃ Z, Z = wr := ⟨_, rfl⟩
            obtain ⟨E, hE⟩ : ∃ E, E = mk O := ⟨_, rfl⟩
            have hEs : E.size = O.length := by rw [hE, mk_sz]
            rw [← hE]
            have HE := hide hE
            clear hE
            by_cases hkm : k < 1
            · by_cases hO2 : O.length < 257
              · have HEY : Hid (E ++ s.extract i (i + 1) = mk (O ++ [c])) := by unfold Hid; rw [HE.out, HEX.out i c HLc.out, app_mk]
                have HON : Hid (O ++ [c] = (out ++ List.replicate (k + 1) c).take 257) := by
                  unfold Hid
                  rw [hOe.out]
                  exact take_rep out k c (by rw [← hOe.out]; exact hO2)
                have hd1 : decide ((k : Int) < ((1 : Nat) : Int)) = true := decide_eq_true (by omega)
                go_wp2_with fail
                exact ⟨⟨O ++ [c], k + 1, by rw [HEY.out], rfl, by omega, by rw [List.length_append]; simp; omega, HON.out, hbk.out⟩, by simp [intOf]; omega⟩
              · have HOM : Hid (O = (out ++ List.replicate 1 c).take 257) := by
                  unfold Hid
                  rw [hOe.out]
                  exact take_full out k _ c hk (by rw [← hOe.out]; exact hO2)
                go_wp2_with fail
                exact ⟨⟨O, n + 1, i + 1, f', by rw [HE.out], by go_num, by go_num, by omega, hO, by omega, by unfold Hid; have := HF.out; omega, by unfold Hid; rw [HOM.out]; exact HXM.out, hbk.out⟩, by simp [intOf]; omega⟩
            · have hkm2 : k = 1 := by omega
              have HOM : Hid (O = (out ++ List.replicate 1 c).take 257) := by
                unfold Hid
                rw [hOe.out, hkm2]
              clear hkm2
              go_wp2_with fail
              exact ⟨⟨O, n + 1, i + 1, f', by rw [HE.out], by go_num, by go_num, by omega, hO, by omega, by unfold Hid; have := HF.out; omega, by unfold Hid; rw [HOM.out]; exact HXM.out, hbk.out⟩, by simp [intOf]; omega⟩
    · have hie : i = s.size := by omega
      have HXE : Hid (X = if n = 0 then ([], 4) else if 256 < n then ([], 3) else (out, 0)) := by
        unfold Hid
        rw [hx.out, List.drop_of_length_le (by rw [HLS.out]; omega), refG_nil]; rfl
      have HD := hide hD
      have HIE := hide hie
      clear hie hx hD
      by_cases hn0 : n = 0
      · have HXN : Hid (X = ([], 4)) := by unfold Hid; rw [HXE.out, if_pos hn0]
        go_wp2_with fail
        go_ret2
        exact ⟨by rw [HXN.out]; rfl, hb.out⟩
      · by_cases hn2 : 256 < n
        · have HXN : Hid (X = ([], 3)) := by unfold Hid; rw [HXE.out, if_neg hn0, if_pos hn2]
          go_wp2_with fail
          go_ret2
          exact ⟨by rw [HXN.out]; rfl, hb.out⟩
        · have HXN : Hid (X = (out, 0)) := by unfold Hid; rw [HXE.out, if_neg hn0, if_neg hn2]
          go_wp2_with fail
          go_ret2
          exact ⟨by rw [HXN.out, HD.out]; rfl, hb.out⟩
end Go.Proofs.YthdggnkpncoikaaGreatDoor
