/-
  THE LAW TokensText, walked (layer 3, tokens).
-/
import Derived.Test.YtcooailmlmobeaaGreatDoorTxtC
import Derived.Deep.Cut
import Derived.Deep.DeepCutAuto
namespace Go.Proofs.YtcooailmlmobeaaGreatDoor
open Go.RowKit Go.Shelf

/-- quotes doubled -/
def dbl (l : List UInt8) : List UInt8 := l.flatMap fun c => if c = 34 then [34, 34] else [c]
theorem replaceK_ne (c : UInt8) (r : List UInt8) (h : c ≠ 34) (k : Nat) : Lib.replaceK [34] [34, 34] k (c :: r) = c :: Lib.replaceK [34] [34, 34] k r := by
  cases k with
  | zero => rfl
  | succ k =>
    have hb : (c == (34 : UInt8)) = false := by simpa using h
    have hi : Lib.index (c :: r) [34] = if Lib.index r [34] == -1 then -1 else Lib.index r [34] + 1 := by
      rw [Lib.index_one, Lib.index_one, Lib.indexByte, hb]; rfl
    have hge := Lib.index_ge r [34]
    unfold Lib.replaceK
    by_cases hm : Lib.index r [34] = -1
    · have h1 : (Lib.index r [34] == -1) = true := by simpa using hm
      rw [hi, if_pos h1, if_pos h1]; rfl
    · have h1 : ¬ (Lib.index r [34] == -1) = true := by simpa using hm
      obtain ⟨i, hii⟩ : ∃ i : Nat, Lib.index r [34] = i := ⟨(Lib.index r [34]).toNat, by omega⟩
      rw [hi, if_neg h1, if_neg h1, if_neg (by simp; omega), hii]
      rw [show ((i : Int) + 1).toNat = i + 1 by omega, show ((i : Int)).toNat = i by omega]
      simp
theorem replaceK_dbl (x : List UInt8) : Lib.replaceK [34] [34, 34] (Lib.count x [34]) x = dbl x := by
  induction x with
  | nil => rfl
  | cons c r ih =>
    by_cases hc : c = 34
    · subst hc
      rw [Lib.count_cons_eq, Nat.add_comm, Lib.replaceK_hit [34] [34, 34] _ _ 0 (by rw [Lib.index_one]; rfl)]
      rw [show (0 + [(34 : UInt8)].length) = 1 from rfl, List.drop_one, List.tail_cons, ih]
      simp [dbl]
    · rw [Lib.count_cons_ne c 34 r hc, replaceK_ne c r hc, ih]
      simp [dbl, hc]
theorem replaceAll_dbl (x : List UInt8) : Lib.replaceAll x [34] [34, 34] = dbl x := by
  unfold Lib.replaceAll Lib.replace
  rw [if_neg (by decide)]
  have h1 : Lib.replaceNum x [34] (-1) = Lib.count x [34] := by unfold Lib.replaceNum; rw [if_pos (.inl (by decide))]
  rw [h1, replaceK_dbl]
theorem dbl_snoc (x : List UInt8) (j : Nat) (h : j < x.length) : dbl (x.take (j + 1)) = dbl (x.take j) ++ if x[j] = 34 then [34, 34] else [x[j]] := by
  rw [List.take_succ_eq_append_getElem h]
  unfold dbl
  rw [List.flatMap_append]
  simp
theorem dbl_le (x : List UInt8) : (dbl x).length ≤ 2 * x.length := by
  induction x with
  | nil => simp [dbl]
  | cons c r ih =>
    have : dbl (c :: r) = (if c = 34 then [34, 34] else [c]) ++ dbl r := rfl
    rw [this, List.length_append, List.length_cons]
    split <;> simp <;> omega
theorem mk_app (a b : List UInt8) : mk a ++ mk b = mk (a ++ b) := by
  apply ByteArray.ext
  apply Array.toList_inj.1
  rw [append_data, mk_data, mk_data, mk_data]

/-- what stands before token k -/
def preL (ts : List TokL) (k : Nat) : List UInt8 := if k = 0 then [] else textL (ts.take k) ++ [32]
theorem joinTail_snoc (r : List (List UInt8)) (y : List UInt8) : Lib.joinTail [32] (r ++ [y]) = Lib.joinTail [32] r ++ ([32] ++ y) := by
  unfold Lib.joinTail
  simp
theorem join_snoc (xs : List (List UInt8)) (y : List UInt8) : Lib.join (xs ++ [y]) [32] = if xs = [] then y else Lib.join xs [32] ++ [32] ++ y := by
  cases xs with
  | nil => simp [Lib.join_one]
  | cons x r =>
    rw [if_neg (by simp), List.cons_append, Lib.join_cons, Lib.join_cons, joinTail_snoc]
    simp
theorem text_snoc (ts : List TokL) (k : Nat) (h : k < ts.length) : textL (ts.take (k + 1)) = preL ts k ++ wrtL ts[k].kind ts[k].text := by
  rw [List.take_succ_eq_append_getElem h]
  unfold textL preL
  rw [List.map_append, List.map_cons, List.map_nil, join_snoc]
  by_cases h0 : k = 0
  · subst h0; simp
  · have hne : (ts.take k).map (fun t => wrtL t.kind t.text) ≠ [] := by
      intro e
      have := congrArg List.length e
      rw [List.length_map, List.length_take, List.length_nil] at this
      omega
    rw [if_neg hne, if_neg h0]
    rfl
theorem text_len (ts : List TokL) (k : Nat) (hk : k ≤ 60) (h : ∀ t ∈ ts.take k, t.text.length ≤ 100) : (textL (ts.take k)).length ≤ 18180 := by
  have h1 := join_len ((ts.take k).map fun t => wrtL t.kind t.text) 302 (fun x hx => by
    obtain ⟨t, ht, rfl⟩ := List.mem_map.1 hx
    have h1 := h t ht
    have h2 := wrt_len t.kind t.text
    omega)
  rw [List.length_map, List.length_take] at h1
  unfold textL
  have : min k ts.length ≤ 60 := by omega
  have := Nat.mul_le_mul_right 303 this
  omega

set_option maxRecDepth 100000 in
theorem TextLaw_far (A : Option Addr) (n cap : Nat) (w : World) (h : 60 < n) (hn : n ≤ maxLen) (hm : MaxI w) :
    Calls Tryz.prog 9 #[.slice A n cap] w fun e w' => e = .returned (.bool true) ∧ Below w.heap.size w w' := by
  unfold maxLen at hn
  have HL := hide (livesT_c w hm)
  clear hm
  go_enter Tryz.func9, Tryz.ntmps9
  go_wp2_with fail
  refine HL.out.mono ?_
  rintro e w1 ⟨rfl, hb⟩
  go_wp2_with fail
  go_ret
  exact ⟨rfl, hb⟩

set_option maxRecDepth 100000 in
set_option maxHeartbeats 2000000 in
theorem TextLaw_near (ts : List TokL) (A : Option Addr) (cap : Nat) (w : World) (hts : TokIn w w.heap.size A ts) (hn : ts.length ≤ 60) (hlen : ∀ t ∈ ts, t.text.length ≤ maxLen) (hm : MaxI w) :
    Calls Tryz.prog 9 #[.slice A ts.length cap] w fun e w' => e = .returned (.bool true) ∧ Below w.heap.size w w' := by
  have HL : Hid (∀ w1, Below w.heap.size w w1 → Calls Tryz.prog 15 #[] w1 fun e w' => e = .returned (.bool true) ∧ Below w1.heap.size w1 w') := fun w1 hb => livesT_c w1 (hm.below hb)
  have HT : Hid ((∀ j (h : j < ts.length), ts[j].text.length ≤ 100) → ∀ w1, Below w.heap.size w w1 → Calls Tryz.prog 26 #[.slice A ts.length cap] w1 fun e w' => e = .returned (.string (mk (textL ts))) ∧ Below w1.heap.size w1 w') := fun h w1 hb =>
    Text_c ts A cap w.heap.size w1 (hts.below hb _ (Nat.le_refl _)) hb.size (by omega) (fun t ht => by
      obtain ⟨j, hj, rfl⟩ := List.mem_iff_getElem.1 ht
      have := h j hj
      omega) (hm.below hb)
  have HTS := hide hts
  have HLEN := hide hlen
  clear hts hlen hm
  go_enter Tryz.func9, Tryz.ntmps9
  go_wp2_with fail
  go_loopw [3, 4] (fun v3 v4 wr => ∃ k : Nat, k ≤ ts.length ∧ v4 = .int .i64 (k : Int) ∧ v3 = .string (mk (textL (ts.take k))) ∧ (∀ j (h : j < ts.length), j < k → ts[j].text.length ≤ 100) ∧ Below w.heap.size w wr) (fun _ v4 _ => ts.length - (intOf v4).toNat)
  case atStart => exact ⟨0, Nat.zero_le _, rfl, rfl, fun j _ h => by omega, Below.refl _ _⟩
  case round =>
    obtain ⟨k, hk, rfl, rfl, hC, hb⟩ := hrel
    by_cases hlt : k < ts.length
    · obtain ⟨b, off, rfl, hbl, q0, q1, -⟩ := HTS.out.at_ k hlt
      have k0 : wr.cell? ⟨b, off + k * 5, none⟩ = some (.int .u8 ts[k].kind) := (World.cell?_of_block (hb.block b hbl)).trans q0
      have k1 : wr.cell? ⟨b, off + k * 5 + 1, none⟩ = some (.string (mk ts[k].text)) := (World.cell?_of_block (hb.block b hbl)).trans q1
      have hxl := HLEN.out ts[k] (List.getElem_mem hlt)
      unfold maxLen at hxl
      have hsn := text_snoc ts k hlt
      have hpl := text_len ts k (by omega) (fun t ht => by
        obtain ⟨j, hj, rfl⟩ := List.mem_iff_getElem.1 ht
        rw [List.length_take] at hj
        rw [List.getElem_take]
        exact hC j (by omega) (by omega))
      have hC1 : ts[k].text.length ≤ 100 → ∀ j (h : j < ts.length), j < k + 1 → ts[j].text.length ≤ 100 := fun hk j hj hjk => by
        by_cases e : j = k
        · subst e; exact hk
        · exact hC j hj (by omega)
      obtain ⟨t, ht⟩ : ∃ t, t = ts[k] := ⟨_, rfl⟩
      rw [← ht] at k0 k1 hxl hsn hC1
      obtain ⟨X, hX⟩ : ∃ X, X = mk t.text := ⟨_, rfl⟩
      have hXs : X.size = t.text.length := by rw [hX, mk_size]
      rw [← hXs] at hxl hC1
      rw [← hX] at k1
      obtain ⟨P, hP⟩ : ∃ P, P = mk (textL (ts.take k)) := ⟨_, rfl⟩
      have hPs : P.size ≤ 18180 := by rw [hP, mk_size]; exact hpl
      rw [← hP]
      have HB := hide hb
      have HSN := hide hsn
      have HC1 := hide hC1
      have HP := hide hP
      have HX := hide hX
      have HXS := hide hXs
      clear hC hsn hC1 hP hX hXs hb q0 q1 hpl ht
      by_cases h100 : 100 < X.size
      · go_wp2_with fail
        refine (HL.out _ HB.out).mono ?_
        rintro e w2 ⟨rfl, hb2⟩
        have HB2 := hide (HB.out.trans (hb2.mono HB.out.size))
        clear hb2
        go_wp2_with fail
        go_ret
        exact ⟨rfl, HB2.out⟩
      · have HC2 := hide (HC1.out (by omega))
        obtain ⟨Q, hQ⟩ : ∃ Q, Q = mk (preL ts k) := ⟨_, rfl⟩
        have hQs : Q.size ≤ 18181 := by
          rw [hQ, mk_size]; unfold preL
          split
          · simp
          · have := hPs; rw [HP.out, mk_size] at this; simp; omega
        have HQ := hide hQ
        clear hQ
        go_upto_if 25 with fail
        go_cut [3] (fun s3 wx => s3 = .string Q ∧ wr = wx)
        case first =>
          by_cases h0 : 0 < k
          · have hQe : Hid (Q = P ++ ⟨#[32]⟩) := by
              unfold Hid; rw [HQ.out, HP.out]; unfold preL; rw [if_neg (by omega)]
              exact (mk_app _ [32]).symm
            go_wp2_with fail
            go_meet
            exact ⟨by rw [hQe.out], rfl⟩
          · have hQe : Hid (Q = P) := by
              unfold Hid; rw [HQ.out, HP.out]; unfold preL
              obtain rfl : k = 0 := by omega
              rfl
            go_wp2_with fail
            go_meet
            exact ⟨by rw [hQe.out], rfl⟩
        case rest =>
          obtain ⟨rfl, rfl⟩ := hcut
          have hbw : b < wr.heap.size := by have := HB.out.size; omega
          obtain ⟨K, hK⟩ : ∃ K, K = t.kind := ⟨_, rfl⟩
          rw [← hK] at k0
          have HN : Hid (mk (textL (ts.take (k + 1))) = mk (preL ts k ++ wrtL K X.data.toList)) := by
            unfold Hid; rw [HSN.out, hK, HX.out, mk_data]
          clear hK
          by_cases h3 : K = 3
          · have HN3 : Hid (mk (textL (ts.take (k + 1))) = mk (preL ts k ++ 34 :: dbl X.data.toList) ++ ⟨#[34]⟩) := by
              unfold Hid; rw [HN.out]; unfold wrtL; rw [if_pos h3, replaceAll_dbl]
              refine Eq.trans ?_ (mk_app _ [34]).symm
              rw [List.append_assoc]; rfl
            subst h3
            obtain ⟨W1, rfl⟩ : ∃ W, W = wr := ⟨_, rfl⟩
            go_wp2_with fail
            go_loopw [3, 5] (fun v3 v5 wr => ∃ j : Nat, j ≤ X.size ∧ v5 = .int .i64 (j : Int) ∧ v3 = .string (mk (preL ts k ++ 34 :: dbl (X.data.toList.take j))) ∧ Below W1.heap.size W1 wr) (fun _ v5 _ => X.size - (intOf v5).toNat)
            case atStart => exact ⟨0, Nat.zero_le _, rfl, by rw [HQ.out]; exact congrArg Value.string (mk_app _ [34]), Below.refl _ _⟩
            case round =>
              obtain ⟨j, hj, rfl, rfl, hb⟩ := hrel
              obtain ⟨W2, rfl⟩ : ∃ W, W = wr := ⟨_, rfl⟩
              have k2 : W2.cell? ⟨b, off + k * 5 + 1, none⟩ = some (.string X) := (World.cell?_of_block (hb.block b hbw)).trans k1
              have HB2 := hide hb
              obtain ⟨V, hV⟩ : ∃ V, V = mk (preL ts k ++ 34 :: dbl (X.data.toList.take j)) := ⟨_, rfl⟩
              have hVs : V.size ≤ 18400 := by
                rw [hV, mk_size, List.length_append, List.length_cons]
                have h1 := hQs
                rw [HQ.out, mk_size] at h1
                have h2 := dbl_le (X.data.toList.take j)
                rw [List.length_take, len_data] at h2
                omega
              rw [← hV]
              have HV := hide hV
              clear hb hV k1
              by_cases hl : j < X.size
              · have hcb := X[j].toNat_lt
                have HS : Hid (mk (preL ts k ++ 34 :: dbl (X.data.toList.take (j + 1))) = V ++ mk (if X[j] = 34 then [34, 34] else [X[j]])) := by
                  unfold Hid
                  rw [HV.out, mk_app, dbl_snoc _ j (by rw [len_data]; exact hl)]
                  congr 1
                  rw [List.append_assoc]; rfl
                have HE : Hid (X.extract j (j + 1) = mk [X[j]]) := by
                  unfold Hid
                  rw [ext_mk, show j + 1 - j = 1 by omega, List.drop_eq_getElem_cons (by rw [len_data]; exact hl)]
                  rfl
                by_cases hc : X[j] = 34
                · have hb34 : ((X[j].toNat : Int) == 34) = true := by rw [hc]; rfl
                  have HS2 : Hid (mk (preL ts k ++ 34 :: dbl (X.data.toList.take (j + 1))) = V ++ X.extract j (j + 1) ++ ⟨#[34]⟩) := by
                    unfold Hid; rw [HS.out, HE.out, if_pos hc, hc, ByteArray.append_assoc]
                    exact congrArg (V ++ ·) (mk_app [34] [34]).symm
                  clear hc
                  go_wp2_with fail
                  go_roundw
                  case rel => exact ⟨j + 1, hl, by go_num, by rw [HS2.out], HB2.out⟩
                  case measure => simp [intOf]; omega
                · have hb34 : ((X[j].toNat : Int) == 34) = false := by rw [show (34 : Int) = ((34 : UInt8).toNat : Int) from rfl, byte_beq]; simpa using hc
                  have HS2 : Hid (mk (preL ts k ++ 34 :: dbl (X.data.toList.take (j + 1))) = V ++ X.extract j (j + 1)) := by
                    unfold Hid; rw [HS.out, HE.out, if_neg hc]
                  clear hc
                  go_wp2_with fail
                  go_roundw
                  case rel => exact ⟨j + 1, hl, by go_num, by rw [HS2.out], HB2.out⟩
                  case measure => simp [intOf]; omega
              · have HV2 : Hid (mk (textL (ts.take (k + 1))) = V ++ ⟨#[34]⟩) := by
                  unfold Hid; rw [HN3.out, HV.out, List.take_of_length_le (by rw [len_data]; omega)]
                have HB3 := hide (HB.out.trans (HB2.out.mono HB.out.size))
                go_wp2_with fail
                go_roundw
                case rel => exact ⟨k + 1, hlt, by go_num, by rw [HV2.out], HC2.out, HB3.out⟩
                case measure => simp [intOf]; omega
          · have hk3 : (K == 3) = false := by simpa using h3
            by_cases h6 : K = 6
            · have HN6 : Hid (mk (textL (ts.take (k + 1))) = Q ++ ⟨#[46]⟩) := by
                unfold Hid; rw [HN.out, HQ.out]; unfold wrtL; rw [if_neg h3, if_pos h6]; exact (mk_app _ [46]).symm
              subst h6
              clear h3
              go_wp2_with fail
              go_roundw
              case rel => exact ⟨k + 1, hlt, by go_num, by rw [HN6.out], HC2.out, HB.out⟩
              case measure => simp [intOf]; omega
            · have hk6 : (K == 6) = false := by simpa using h6
              by_cases h7 : K = 7
              · have HN7 : Hid (mk (textL (ts.take (k + 1))) = Q ++ ⟨#[61, 61]⟩) := by
                  unfold Hid; rw [HN.out, HQ.out]; unfold wrtL; rw [if_neg h3, if_neg h6, if_pos h7]; exact (mk_app _ [61, 61]).symm
                subst h7
                clear h3 h6
                go_wp2_with fail
                go_roundw
                case rel => exact ⟨k + 1, hlt, by go_num, by rw [HN7.out], HC2.out, HB.out⟩
                case measure => simp [intOf]; omega
              · have hk7 : (K == 7) = false := by simpa using h7
                have HN9 : Hid (mk (textL (ts.take (k + 1))) = Q ++ X) := by
                  unfold Hid; rw [HN.out, HQ.out]; unfold wrtL; rw [if_neg h3, if_neg h6, if_neg h7]; exact (mk_app _ X.data.toList).symm
                clear h3 h6 h7
                go_wp2_with fail
                go_roundw
                case rel => exact ⟨k + 1, hlt, by go_num, by rw [HN9.out], HC2.out, HB.out⟩
                case measure => simp [intOf]; omega
    · obtain rfl : k = ts.length := by omega
      obtain ⟨R, hR⟩ : ∃ R, R = mk (textL ts) := ⟨_, rfl⟩
      have HT2 := hide (HT.out (fun j hj => hC j hj hj))
      rw [List.take_length, ← hR]
      have HB := hide hb
      rw [← hR] at HT2
      clear hC hb hR HT
      go_wp2_with fail
      refine (HT2.out _ HB.out).mono ?_
      rintro e w2 ⟨rfl, hb2⟩
      have HB2 := hide (HB.out.trans (hb2.mono HB.out.size))
      clear hb2
      go_wp2_with fail
      refine (HL.out _ HB2.out).mono ?_
      rintro e w3 ⟨rfl, hb3⟩
      have HB3 := hide (HB2.out.trans (hb3.mono HB2.out.size))
      clear hb3
      go_wp2_with fail
      go_ret
      exact ⟨rfl, HB3.out⟩
end Go.Proofs.YtcooailmlmobeaaGreatDoor
