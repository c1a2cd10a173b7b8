/-
  WHERE TOKENS STAND (layer 3, tokens): plain facts for TokensPlaces.
-/
import Derived.Test.YtcooailmlmobeaaGreatDoorTkD
import Derived.Test.YtcooailmlmobeaaGreatDoorMrkQ
namespace Go.Proofs.YtcooailmlmobeaaGreatDoor
open Go.RowKit Go.Shelf

theorem getD_take (l : List UInt8) (n : Nat) (h : 0 < n) : (l.take n).getD 0 0 = l.getD 0 0 := by
  cases l with
  | nil => simp
  | cons c r => cases n with
    | zero => omega
    | succ n => simp
theorem getD_map (l : List UInt8) (h : l ≠ []) : (l.map up).getD 0 0 = up (l.getD 0 0) := by
  cases l with
  | nil => exact absurd rfl h
  | cons c r => simp
theorem drop_getD (l : List UInt8) (j : Nat) : (l.drop j).getD 0 0 = l.getD j 0 := by
  simp [List.getD_eq_getElem?_getD]
theorem prefix_getD {l p : List UInt8} (h : Lib.hasPrefix l p = true) (hp : p ≠ []) : l.getD 0 0 = p.getD 0 0 := by
  cases p with
  | nil => exact absurd rfl hp
  | cons a p =>
    cases l with
    | nil => simp [Lib.hasPrefix, List.isPrefixOf] at h
    | cons b l =>
      simp only [Lib.hasPrefix, List.isPrefixOf, Bool.and_eq_true, beq_iff_eq] at h
      simp [h.1]
theorem cut_take (l s : List UInt8) : ∃ n, (Lib.cut l s).1 = l.take n := by
  unfold Lib.cut
  split
  · exact ⟨_, rfl⟩
  · exact ⟨l.length, (List.take_length).symm⟩
theorem lenL_first (l cs : List UInt8) (h : 0 < lenL l cs) : cs.contains (l.getD 0 0) = true := by
  cases l with
  | nil => simp [lenL] at h
  | cons c r =>
    have := lenL_take (c :: r) cs c (by
      cases hn : lenL (c :: r) cs with
      | zero => omega
      | succ n => simp)
    simpa using this
theorem replace_ne (l : List UInt8) (h : l ≠ []) : Lib.replaceAll l [34, 34] [34] ≠ [] := by
  unfold Lib.replaceAll Lib.replace
  rw [if_neg (by decide)]
  cases Lib.replaceNum l [34, 34] (-1) with
  | zero => exact h
  | succ k =>
    unfold Lib.replaceK
    split
    · exact h
    · simp
theorem up_dig (b : UInt8) (h : digS.contains b = true) : up b = b := by
  have : b ∈ digS := by simpa using h
  revert this
  unfold digS up
  simp only [List.mem_cons, List.not_mem_nil, or_false]
  intro h
  rcases h with rfl | rfl | rfl | rfl | rfl | rfl | rfl | rfl | rfl | rfl <;> decide
theorem index_mem (l : List UInt8) (c : UInt8) (h : 0 ≤ Lib.indexByte l c) : c ∈ l := by
  induction l with
  | nil => simp [Lib.indexByte] at h
  | cons b r ih =>
    unfold Lib.indexByte at h
    split at h
    · rename_i e; have : b = c := by simpa using e
      rw [this]; exact List.mem_cons_self
    · split at h
      · omega
      · rename_i h1 h2
        have : Lib.indexByte r c ≠ -1 := by simpa using h2
        have := Lib.indexByte_ge r c
        exact List.mem_cons_of_mem _ (ih (by omega))
theorem up_sign (b : UInt8) (h : b ∈ signS) : up b = b := by
  revert h
  unfold signS up
  simp only [List.mem_cons, List.not_mem_nil, or_false]
  intro h
  rcases h with rfl | rfl | rfl | rfl | rfl | rfl | rfl | rfl | rfl | rfl <;> decide
theorem numN_first (l : List UInt8) (sep : Bool) (h : 0 < numN l sep) : up (l.getD 0 0) = l.getD 0 0 := by
  unfold numN at h
  obtain ⟨first, hf⟩ : ∃ first, first = (if sep && (l.getD 0 0 == 43 || l.getD 0 0 == 45) then 1 else 0) := ⟨_, rfl⟩
  simp only [← hf] at h
  by_cases h1 : (sep && (l.getD 0 0 == 43 || l.getD 0 0 == 45)) = true
  · simp only [Bool.and_eq_true, Bool.or_eq_true, beq_iff_eq] at h1
    rcases h1.2 with e | e <;> (rw [e]; decide)
  · rw [if_neg h1] at hf
    subst hf
    simp only [List.drop_zero, Nat.zero_add] at h
    split at h
    · omega
    · by_cases hd : 0 < lenL l digS
      · exact up_dig _ (lenL_first l digS hd)
      · have h0 : lenL l digS = 0 := by omega
        simp only [h0, List.drop_zero, Nat.zero_add] at h
        split at h
        · rename_i hfr
          by_cases hp : Lib.hasPrefix l [46] = true
          · rw [prefix_getD hp (by simp)]; decide
          · exact absurd hfr hp
        · split at h <;> omega
/-- the first character of a token -/
theorem next_first {ts : List TokL} {t : List UInt8} {j : Nat} {k : Int} {x : List UInt8} {n : Nat} (hj : j < t.length) (h : nextL ts t j = .ok (k, x, n)) : x ≠ [] ∧ (k = 3 → t.getD j 0 = 34) ∧ (k ≠ 3 → x.getD 0 0 = up (t.getD j 0)) := by
  obtain ⟨rest, hr⟩ : ∃ rest, rest = t.drop j := ⟨_, rfl⟩
  have hrn : rest ≠ [] := by rw [hr]; intro e; have := congrArg List.length e; rw [List.length_drop] at this; simp at this; omega
  have hg : t.getD j 0 = rest.getD 0 0 := by rw [hr, drop_getD]
  have hlen : 0 < rest.length := List.length_pos_iff.2 hrn
  rw [hg]
  unfold nextL at h
  simp only [← hr] at h
  split at h
  · unfold pictureL at h
    obtain ⟨g, hgd⟩ : ∃ g, g = (if lastIn (Lib.cut rest [32]).1 then (Lib.cut rest [32]).1.take ((Lib.cut rest [32]).1.length - 1) else (Lib.cut rest [32]).1) := ⟨_, rfl⟩
    have hgt : ∃ m, g = rest.take m := by
      obtain ⟨m, hm⟩ := cut_take rest [32]
      rw [hgd, hm]
      split
      · rw [List.take_take]; exact ⟨_, rfl⟩
      · exact ⟨m, rfl⟩
    simp only [← hgd] at h
    split at h
    · cases h
    · rename_i hne
      split at h
      · cases h
      · split at h
        · cases h
        · injection h with h; injection h with h1 h; injection h with h2 h3
          obtain ⟨m, hm⟩ := hgt
          have hm0 : 0 < m := by
            rcases Nat.eq_zero_or_pos m with e | e
            · rw [e] at hm; exact absurd hm hne
            · exact e
          refine ⟨by rw [← h2]; simpa using hne, fun e => by omega, fun _ => ?_⟩
          rw [← h2, getD_map _ hne, hm, getD_take _ _ hm0]
  · split at h
    · rename_i h34
      unfold quoteL at h
      split at h
      · cases h
      · cases h
      · rename_i m hq
        injection h with h; injection h with h1 h; injection h with h2 h3
        have hl := qEnd_lt _ _ hq
        refine ⟨by rw [← h2]; exact replace_ne _ (fun e => by have := congrArg List.length e; rw [List.length_take] at this; simp at this hl; omega), fun _ => h34, fun e => absurd h1.symm e⟩
    · split at h
      · rename_i hp
        rw [Bool.and_eq_true] at hp
        injection h with h; injection h with h1 h; injection h with h2 h3
        refine ⟨by rw [← h2]; simp, fun e => by omega, fun _ => ?_⟩
        rw [← h2, prefix_getD hp.1 (by simp)]; decide
      · split at h
        · rename_i hp
          injection h with h; injection h with h1 h; injection h with h2 h3
          refine ⟨by rw [← h2]; simp, fun e => by omega, fun _ => ?_⟩
          rw [← h2, prefix_getD hp (by simp)]; decide
        · split at h
          · rename_i hn
            unfold numberL at h
            split at h
            · cases h
            · split at h
              · cases h
              · injection h with h; injection h with h1 h; injection h with h2 h3
                refine ⟨by rw [← h2]; simp; exact ⟨by omega, hrn⟩, fun e => by omega, fun _ => ?_⟩
                rw [← h2, getD_take _ _ hn]
                exact (numN_first rest _ hn).symm
          · split at h
            · rename_i hn
              unfold wordL at h
              split at h
              · cases h
              · split at h
                · split at h
                  · cases h
                  · injection h with h; injection h with h1 h; injection h with h2 h3
                    have hne : rest.take (lenL rest wrdS) ≠ [] := by simp; exact ⟨by omega, hrn⟩
                    refine ⟨by rw [← h2]; simpa using hne, fun e => by omega, fun _ => ?_⟩
                    rw [← h2, getD_map _ hne, getD_take _ _ hn.1]
                · cases h
            · unfold signL at h
              split at h
              · rename_i p hp
                have h1 := List.find?_some hp
                have h2 := List.mem_of_find?_eq_some hp
                injection h with h; injection h with h5 h; injection h with h6 h7
                have hpn : p ≠ [] ∧ up (p.getD 0 0) = p.getD 0 0 := by
                  simp only [twoL, List.mem_cons, List.not_mem_nil, or_false] at h2
                  rcases h2 with rfl | rfl | rfl | rfl <;> exact ⟨by simp, by decide⟩
                refine ⟨by rw [← h6]; exact hpn.1, fun e => by omega, fun _ => ?_⟩
                rw [← h6, prefix_getD h1 hpn.1]; exact hpn.2.symm
              · split at h
                · cases h
                · rename_i hx
                  injection h with h; injection h with h5 h; injection h with h6 h7
                  refine ⟨by rw [← h6]; simp; exact hrn, fun e => by omega, fun _ => ?_⟩
                  rw [← h6, getD_take _ _ (by omega)]
                  exact (up_sign _ (index_mem _ _ (by omega))).symm
/-- a token that begins at a place of a card -/
structure TokFrom (c : CardL) (t : TokL) (k : Nat) : Prop where
  laidF ::
  lt : k < c.text.length
  pos : (t.line, t.col) = posL c k
  left : t.left = decide (t.col < 12)
  sp : c.text.getD k 0 ≠ 32
  ne : t.text ≠ []
  q : t.kind = 3 → c.text.getD k 0 = 34
  f : t.kind ≠ 3 → t.text.getD 0 0 = up (c.text.getD k 0)
  kd : 1 ≤ t.kind ∧ t.kind ≤ 7
theorem goL_from (c : CardL) (fuel : Nat) (ts ts' : List TokL) (i : Nat) (h : goL c fuel ts i = .ok ts') :
    ∃ new : List (TokL × Nat), ts' = ts ++ new.map (·.1) ∧ (∀ x ∈ new, TokFrom c x.1 x.2 ∧ i ≤ x.2) ∧ new.Pairwise (fun a b => a.2 < b.2) := by
  induction fuel generalizing ts i with
  | zero =>
    injection h with h; subst h
    exact ⟨[], by simp, by simp, List.Pairwise.nil⟩
  | succ n ih =>
    rw [goL_head] at h
    unfold headL at h
    split at h
    · injection h with h; subst h
      exact ⟨[], by simp, by simp, List.Pairwise.nil⟩
    · rename_i hlt
      split at h
      · cases h
      · rename_i k x m hn
        split at h
        · cases h
        · obtain ⟨new, h1, h2, h3⟩ := ih _ _ h
          have hf := next_first (by omega) hn
          have hs := next_size (by omega) hn
          refine ⟨(_, i + skipN ts (c.text.drop i)) :: new, by rw [h1, List.append_assoc]; rfl, fun y hy => ?_, List.pairwise_cons.2 ⟨fun y hy => ?_, h3⟩⟩
          · rcases List.mem_cons.1 hy with rfl | hy
            · exact ⟨⟨by omega, rfl, rfl, skipN_stop' ts c.text i (by omega), hf.1, hf.2.1, hf.2.2, hs.2.2⟩, Nat.le_add_right _ _⟩
            · obtain ⟨h4, h5⟩ := h2 y hy
              exact ⟨h4, by omega⟩
          · obtain ⟨_, h5⟩ := h2 y hy
            show i + skipN ts (c.text.drop i) < y.2
            omega
theorem scan_from (cs : List CardL) (ts ts' : List TokL) (h : scanT cs ts = .ok ts') :
    ∃ new : List (TokL × Nat × Nat), ts' = ts ++ new.map (·.1) ∧ (∀ x ∈ new, ∃ hi : x.2.1 < cs.length, TokFrom cs[x.2.1] x.1 x.2.2) ∧ new.Pairwise (fun a b => a.2.1 < b.2.1 ∨ (a.2.1 = b.2.1 ∧ a.2.2 < b.2.2)) := by
  induction cs generalizing ts with
  | nil =>
    injection h with h; subst h
    exact ⟨[], by simp, by simp, List.Pairwise.nil⟩
  | cons c r ih =>
    rw [scanT] at h
    split at h
    · cases h
    · rename_i ts1 hc
      obtain ⟨new2, h1, h2, h3⟩ := ih _ h
      unfold cardT at hc
      split at hc
      · obtain ⟨new1, g1, g2, g3⟩ := goL_from c _ _ _ _ hc
        refine ⟨new1.map (fun x => (x.1, 0, x.2)) ++ new2.map (fun x => (x.1, x.2.1 + 1, x.2.2)), ?_, fun x hx => ?_, ?_⟩
        · rw [h1, g1]; simp [Function.comp_def]
        · rcases List.mem_append.1 hx with hx | hx
          · obtain ⟨y, hy, rfl⟩ := List.mem_map.1 hx
            exact ⟨by simp, (g2 y hy).1⟩
          · obtain ⟨y, hy, rfl⟩ := List.mem_map.1 hx
            obtain ⟨hi, ht⟩ := h2 y hy
            exact ⟨by simpa using hi, by simpa using ht⟩
        · rw [List.pairwise_append]
          refine ⟨List.pairwise_map.2 (g3.imp fun h => .inr ⟨rfl, h⟩), List.pairwise_map.2 (h3.imp fun h => ?_), fun a ha b hb => ?_⟩
          · rcases h with h | ⟨h4, h5⟩
            · exact .inl (by simpa using h)
            · exact .inr ⟨by simpa using h4, h5⟩
          · obtain ⟨y, _, rfl⟩ := List.mem_map.1 ha
            obtain ⟨z, _, rfl⟩ := List.mem_map.1 hb
            exact .inl (by simp)
      · cases hc
theorem ltP_trans {a b c : Int × Int} (h : ltP a b) (k : ltP b c) : ltP a c := by
  unfold ltP at *
  omega
theorem asc_lt {ls : List (List UInt8)} {n : Nat} {c : CardL} (h : CardW ls n c) (k d : Nat) (hk : k + d + 1 < c.text.length) : ltP (posL c (k : Int)) (posL c ((k + d + 1 : Nat) : Int)) := by
  induction d with
  | zero => exact h.asc k (by omega)
  | succ d ih => exact ltP_trans (ih (by omega)) (h.asc (k + d + 1) (by omega))
theorem pos_lt (debug : Bool) (l : List UInt8) (cs : List CardL) (h : readL debug l = .ok cs) (i k i' k' : Nat) (hi : i < cs.length) (hi' : i' < cs.length) (hk : k < cs[i].text.length) (hk' : k' < cs[i'].text.length) (hlt : i < i' ∨ (i = i' ∧ k < k')) :
    ltP (posL cs[i] (k : Int)) (posL cs[i'] (k' : Int)) := by
  obtain ⟨hall, hpw⟩ := readL_marks debug l cs h
  have hw := (hall _ (List.getElem_mem hi)).1
  have hw' := (hall _ (List.getElem_mem hi')).1
  rcases hlt with hlt | ⟨rfl, hlt⟩
  · have hb : befC cs[i] cs[i'] := List.pairwise_iff_getElem.1 hpw i i' hi hi' hlt
    have h1 : ltP (posL cs[i] (k : Int)) (posL cs[i'] ((0 : Nat) : Int)) := by
      by_cases he : k = cs[i].text.length - 1
      · rw [he]; exact .inl hb
      · have := asc_lt hw k (cs[i].text.length - 1 - k - 1) (by omega)
        rw [show k + (cs[i].text.length - 1 - k - 1) + 1 = cs[i].text.length - 1 by omega] at this
        exact ltP_trans this (.inl hb)
    by_cases h0 : k' = 0
    · rw [h0]; exact h1
    · have := asc_lt hw' 0 (k' - 1) (by omega)
      rw [show 0 + (k' - 1) + 1 = k' by omega] at this
      exact ltP_trans h1 this
  · have := asc_lt hw k (k' - k - 1) (by omega)
    rw [show k + (k' - k - 1) + 1 = k' by omega] at this
    exact this
/-- what the law asks of one token -/
structure TokOk (ls : List (List UInt8)) (t : TokL) : Prop where
  laidO ::
  l1 : 1 ≤ t.line
  l2 : t.line ≤ ls.length
  c1 : 8 ≤ t.col
  c2 : t.col ≤ (ls.getD (t.line - 1).toNat []).length
  left : t.left = decide (t.col ≤ 11)
  ne : t.text ≠ []
  q : t.kind = 3 → (ls.getD (t.line - 1).toNat []).getD (t.col - 1).toNat 32 = 34
  f : t.kind ≠ 3 → t.text.getD 0 0 = up ((ls.getD (t.line - 1).toNat []).getD (t.col - 1).toNat 32)
  kd : 1 ≤ t.kind ∧ t.kind ≤ 7
theorem tok_ok (debug : Bool) (l : List UInt8) (cs : List CardL) (h : readL debug l = .ok cs) (t : TokL) (i k : Nat) (hi : i < cs.length) (ht : TokFrom cs[i] t k) : TokOk (splitNL l) t := by
  have hb := byte_ok debug l cs h i k hi ht.lt
  have hp := ht.pos
  have e1 : t.line = (posL cs[i] (k : Int)).1 := congrArg Prod.fst hp
  have e2 : t.col = (posL cs[i] (k : Int)).2 := congrArg Prod.snd hp
  have hg : cs[i].text.getD k 0 = cs[i].text[k]'ht.lt := by rw [List.getD_eq_getElem?_getD, List.getElem?_eq_getElem ht.lt]; rfl
  have hbyte := hb.byte
  rw [← e1, ← e2] at hbyte
  have hsp := ht.sp
  rw [hg] at hsp
  refine ⟨by rw [e1]; exact hb.l1, by rw [e1]; exact hb.l2, by rw [e2]; exact hb.c1, ?_, ?_, ht.ne, fun hq => ?_, fun hf => ?_, ht.kd⟩
  · have hc1 := hb.c1
    rw [← e2] at hc1
    rcases Nat.lt_or_ge (t.col - 1).toNat ((splitNL l).getD (t.line - 1).toNat []).length with h1 | h1
    · omega
    · exfalso
      rw [List.getD_eq_getElem?_getD (l := (splitNL l).getD (t.line - 1).toNat []), List.getElem?_eq_none h1] at hbyte
      exact hsp hbyte.symm
  · rw [ht.left, decide_eq_decide]; omega
  · have := ht.q hq
    rw [hg] at this
    rw [hbyte]; exact this
  · have := ht.f hf
    rw [hg] at this
    rw [hbyte]; exact this
theorem places_ok (debug : Bool) (l : List UInt8) (ts : List TokL) (h : sourceT debug l = .ok ts) :
    (∀ t ∈ ts, TokOk (splitNL l) t) ∧ ∀ j (hj : j + 1 < ts.length), ltP (ts[j].line, ts[j].col) (ts[j + 1].line, ts[j + 1].col) := by
  unfold sourceT at h
  split at h
  · cases h
  · rename_i cs hr
    have hrl : readL debug l = .ok cs := by
      unfold readT at hr
      split at hr
      · cases hr
      · exact hr
    obtain ⟨new, h1, h2, h3⟩ := scan_from cs [] ts h
    rw [List.nil_append] at h1
    subst h1
    refine ⟨fun t ht => ?_, fun j hj => ?_⟩
    · obtain ⟨x, hx, rfl⟩ := List.mem_map.1 ht
      obtain ⟨hi, hf⟩ := h2 x hx
      exact tok_ok debug l cs hrl x.1 _ _ hi hf
    · rw [List.length_map] at hj
      obtain ⟨hi, hf⟩ := h2 new[j] (List.getElem_mem (by omega))
      obtain ⟨hi', hf'⟩ := h2 new[j + 1] (List.getElem_mem hj)
      have := pos_lt debug l cs hrl _ _ _ _ hi hi' hf.lt hf'.lt (List.pairwise_iff_getElem.1 h3 j (j + 1) (by omega) hj (by omega))
      rw [← hf.pos, ← hf'.pos] at this
      simpa using this
end Go.Proofs.YtcooailmlmobeaaGreatDoor
