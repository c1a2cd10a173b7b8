/-
  WHAT THE MARKS OF READ'S CARDS SAY OF THE SOURCE (layer 2, columns): each byte of a card stands in the source where its position says; positions ascend. Plain facts on lists.
-/
import Derived.Test.YteceealibfemjaaDoorValP
import Derived.Test.YteceealibfemjaaDoorHlp
import Derived.Test.YteceealibfemjaaDoorBuf
namespace Go.Proofs.YteceealibfemjaaDoor
open Go.RowKit

theorem lastM_snoc (i : Int) (m : MarkL) (a : List MarkL) (x : MarkL) : lastM i m (a ++ [x]) = if x.1 ≤ i then x else lastM i m a := by
  induction a generalizing m with
  | nil => rfl
  | cons y r ih => simp only [List.cons_append, lastM, ih]
/-- the byte at a place of the source, a space behind a line -/
def srcB (ls : List (List UInt8)) (ln co : Int) : UInt8 := (ls.getD (ln - 1).toNat []).getD (co - 1).toNat 32
def ltP (a b : Int × Int) : Prop := a.1 < b.1 ∨ (a.1 = b.1 ∧ a.2 < b.2)
theorem marksOk_snoc (N : Int) (b : Int) (ms : List MarkL) (p : Int) (ln co : Int) (h : marksOk N b ms = true) (hb : b < N) (hp : 0 < p) (hx : inTextL ln co = true) : marksOk (N + p) b (ms ++ [(N, ln, co)]) = true := by
  induction ms generalizing b with
  | nil =>
    simp only [List.nil_append, marksOk]
    rw [if_neg (by omega), if_neg (by omega), if_pos hx]
  | cons m r ih =>
    simp only [List.cons_append, marksOk] at h ⊢
    split at h
    · cases h
    · split at h
      · cases h
      · split at h
        · rename_i h1 h2 h3
          rw [if_neg h1, if_neg (by omega), if_pos h3]
          exact ih m.1 h (by omega)
        · cases h
theorem lastM_end (N : Int) (b i j : Int) (m : MarkL) (ms : List MarkL) (h : marksOk N b ms = true) (hi : N ≤ i + 1) (hj : N ≤ j + 1) : lastM i m ms = lastM j m ms := by
  induction ms generalizing b m with
  | nil => rfl
  | cons x r ih =>
    simp only [marksOk] at h
    split at h
    · cases h
    · split at h
      · cases h
      · split at h
        · simp only [lastM]
          rw [if_pos (by omega), if_pos (by omega)]
          exact ih _ _ h
        · cases h
structure CardW (ls : List (List UInt8)) (n : Nat) (c : CardL) : Prop where
  none : c.text = [] → c.marks = []
  some : c.text ≠ [] → c.marks ≠ []
  head : (c.marks.getD 0 (0, 0, 0)).1 = 0
  ok : marksOk (c.text.length : Int) (-1) c.marks = true
  pos : ∀ (k : Nat) (h : k < c.text.length), 1 ≤ (posL c k).1 ∧ (posL c k).1 ≤ n ∧ 8 ≤ (posL c k).2 ∧ (posL c k).2 ≤ 72 ∧ srcB ls (posL c k).1 (posL c k).2 = c.text[k]
  asc : ∀ (k : Nat), k + 1 < c.text.length → ltP (posL c k) (posL c ((k + 1 : Nat) : Int))
theorem CardW.empty (ls : List (List UInt8)) (n : Nat) (left : Bool) : CardW ls n ⟨left, [], []⟩ := ⟨fun _ => rfl, fun h => absurd rfl h, rfl, rfl, fun k h => by simp at h, fun k h => by simp at h⟩
theorem CardW.mono {ls : List (List UInt8)} {n m : Nat} {c : CardL} (h : CardW ls n c) (hn : n ≤ m) : CardW ls m c :=
  ⟨h.none, h.some, h.head, h.ok, fun k hk => by obtain ⟨h1, h2, h3, h4, h5⟩ := h.pos k hk; exact ⟨h1, by omega, h3, h4, h5⟩, h.asc⟩
theorem getD_app (ms : List MarkL) (x : MarkL) (h : ms ≠ []) : (ms ++ [x]).getD 0 (0, 0, 0) = ms.getD 0 (0, 0, 0) := by
  cases ms with
  | nil => exact absurd rfl h
  | cons a r => rfl
theorem addC_pos (c : CardL) (p : List UInt8) (ln co i : Int) (hp : p ≠ []) (h1 : c.text = [] → c.marks = []) (h2 : c.text ≠ [] → c.marks ≠ []) (hi : 0 ≤ i) :
    posL (addC c p ln co) i = if (c.text.length : Int) ≤ i then (ln, co + i - c.text.length) else posL c i := by
  have e : (addC c p ln co).marks = c.marks ++ [((c.text.length : Int), ln, co)] := by unfold addC; simp only; rw [if_neg hp]
  unfold posL
  rw [e, lastM_snoc]
  by_cases ht : c.text = []
  · have hm := h1 ht
    simp only [ht, hm, List.length_nil, List.nil_append, lastM, List.getD_cons_zero]
    rw [if_pos (by omega), if_pos (by omega)]
  · rw [getD_app _ _ (h2 ht)]
    split
    · rfl
    · rfl
theorem CardW.add {ls : List (List UInt8)} {n : Nat} {c : CardL} (h : CardW ls n c) (p : List UInt8) (co : Nat) (h8 : 8 ≤ co) (h73 : co + p.length ≤ 73) (hp : ∀ (k : Nat) (hk : k < p.length), p[k] = (ls.getD n []).getD (co + k - 1) 32) :
    CardW ls (n + 1) (addC c p ((n + 1 : Nat) : Int) (co : Int)) := by
  by_cases hpe : p = []
  · have e : addC c p ((n + 1 : Nat) : Int) (co : Int) = c := by subst hpe; unfold addC; simp
    rw [e]; exact h.mono (by omega)
  · have hpl : 0 < p.length := List.length_pos_iff.2 hpe
    have hpos := fun (i : Nat) => addC_pos c p ((n + 1 : Nat) : Int) (co : Int) (i : Int) hpe h.none h.some (by omega)
    have em : (addC c p ((n + 1 : Nat) : Int) (co : Int)).marks = c.marks ++ [((c.text.length : Int), ((n + 1 : Nat) : Int), (co : Int))] := by unfold addC; simp only; rw [if_neg hpe]
    have et : (addC c p ((n + 1 : Nat) : Int) (co : Int)).text = c.text ++ p := rfl
    have hin : inTextL ((n + 1 : Nat) : Int) (co : Int) = true := by
      unfold inTextL
      simp only [Bool.and_eq_true, decide_eq_true_eq]
      exact ⟨by omega, by omega, by omega⟩
    refine ⟨fun ht => ?_, fun _ => by rw [em]; simp, ?_, ?_, ?_, ?_⟩
    · rw [et] at ht
      exact absurd (List.append_eq_nil_iff.1 ht).2 hpe
    · rw [em]
      by_cases ht : c.text = []
      · rw [h.none ht, ht]; rfl
      · rw [getD_app _ _ (h.some ht)]; exact h.head
    · rw [em, et, List.length_append]
      have := marksOk_snoc (c.text.length : Int) (-1) c.marks (p.length : Int) ((n + 1 : Nat) : Int) (co : Int) h.ok (by omega) (by omega) hin
      rw [Int.natCast_add]; exact this
    · intro k hk
      rw [hpos k]
      rw [et, List.length_append] at hk
      by_cases hlt : c.text.length ≤ k
      · rw [if_pos (by omega)]
        have hk2 := hp (k - c.text.length) (by omega)
        refine ⟨by simp only; omega, by simp only; omega, by simp only; omega, by simp only; omega, ?_⟩
        have e1 : (addC c p ((n + 1 : Nat) : Int) (co : Int)).text[k] = p[k - c.text.length]'(by omega) := by
          simp only [et]; rw [List.getElem_append_right hlt]
        rw [e1, hk2]
        unfold srcB
        simp only
        rw [show (((n + 1 : Nat) : Int) - 1).toNat = n by omega, show ((co : Int) + (k : Int) - (c.text.length : Int) - 1).toNat = co + (k - c.text.length) - 1 by omega]
      · rw [if_neg (by omega)]
        obtain ⟨h1, h2, h3, h4, h5⟩ := h.pos k (by omega)
        refine ⟨h1, by omega, h3, h4, ?_⟩
        rw [h5]
        simp only [et]; rw [List.getElem_append_left (by omega)]
    · intro k hk
      rw [hpos k, hpos (k + 1)]
      rw [et, List.length_append] at hk
      by_cases hlt : c.text.length ≤ k
      · rw [if_pos (by omega), if_pos (by omega)]
        exact .inr ⟨rfl, by simp only; omega⟩
      · rw [if_neg (by omega)]
        by_cases hlt2 : c.text.length ≤ k + 1
        · rw [if_pos (by omega)]
          obtain ⟨h1, h2, h3, h4, h5⟩ := h.pos k (by omega)
          exact .inl (by simp only; omega)
        · rw [if_neg (by omega)]
          exact h.asc k (by omega)
theorem tailL_pre (r t : List UInt8) : ∃ s, r = tailL r t ++ s := by
  unfold tailL
  split
  · exact ⟨[], by simp⟩
  · obtain ⟨n, hn⟩ := endL_split r
    exact ⟨_, hn⟩
theorem pre_get (X s r : List UInt8) (h : r = X ++ s) (k : Nat) (hk : k < X.length) : X[k] = r.getD k 0 := by
  rw [h, List.getD_eq_getElem?_getD, List.getElem?_append_left hk, List.getElem?_eq_getElem hk]; rfl
/-- the bytes of a part stand in the line -/
theorem tail_bytes (l t : List UInt8) (j : Nat) (k : Nat) (hk : k < (tailL ((textOf l).drop j) t).length) : (tailL ((textOf l).drop j) t)[k] = l.getD (j + 8 + k - 1) 32 := by
  obtain ⟨s, hs⟩ := tailL_pre ((textOf l).drop j) t
  have hl := textOf_length l
  have hlen := tailL_length ((textOf l).drop j) t
  rw [List.length_drop, hl] at hlen
  have h1 : (tailL ((textOf l).drop j) t)[k] = (textOf l).getD (j + k) 0 := by
    rw [pre_get _ s _ hs k hk, List.getD_eq_getElem?_getD, List.getD_eq_getElem?_getD, List.getElem?_drop]
  rw [h1]
  by_cases hin : j + k + 7 < l.length
  · rw [textOf_in l (j + k) (by omega) hin, show j + 8 + k - 1 = j + k + 7 by omega, List.getD_eq_getElem?_getD, List.getD_eq_getElem?_getD, List.getElem?_eq_getElem hin]; rfl
  · rw [textOf_out l (j + k) (by omega) (by omega), List.getD_eq_getElem?_getD, List.getElem?_eq_none (by omega)]; rfl
theorem CardW.part {ls : List (List UInt8)} {n : Nat} {c : CardL} (h : CardW ls n c) (l t : List UInt8) (j : Nat) (hl : ls.getD n [] = l) (hj : j ≤ 65) :
    CardW ls (n + 1) (addC c (tailL ((textOf l).drop j) t) ((n + 1 : Nat) : Int) ((j : Int) + 8)) := by
  have h1 := tailL_length ((textOf l).drop j) t
  rw [List.length_drop, textOf_length] at h1
  have := h.add (tailL ((textOf l).drop j) t) (j + 8) (by omega) (by omega) (fun k hk => by rw [tail_bytes l t j k hk, hl])
  rw [show (((j + 8 : Nat) : Int)) = (j : Int) + 8 by omega] at this
  exact this
/-- the last byte of one card stands in a line before the first one of another -/
def befC (c d : CardL) : Prop := (posL c ((c.text.length - 1 : Nat) : Int)).1 < (posL d 0).1
structure StW (ls : List (List UInt8)) (n : Nat) (st : RSt) : Prop where
  all : ∀ c ∈ st.pre ++ st.cur.toList, CardW ls n c ∧ c.text ≠ []
  pw : (st.pre ++ st.cur.toList).Pairwise befC
theorem StW.mono {ls : List (List UInt8)} {n m : Nat} {st : RSt} (h : StW ls n st) (hn : n ≤ m) : StW ls m st := ⟨fun c hc => ⟨(h.all c hc).1.mono hn, (h.all c hc).2⟩, h.pw⟩
/-- a new card -/
theorem StW.push {ls : List (List UInt8)} {n : Nat} {pre : List CardL} (h : ∀ c ∈ pre, CardW ls n c ∧ c.text ≠ []) (hp : pre.Pairwise befC) (left : Bool) (l : List UInt8) (hl : ls.getD n [] = l) (hf : firstN (textOf l) < 65) (ln co : Int) :
    StW ls (n + 1) ⟨pre, some (addC ⟨left, [], []⟩ (tailL ((textOf l).drop (firstN (textOf l))) []) ((n + 1 : Nat) : Int) ((firstN (textOf l) : Int) + 8)), ln, co⟩ := by
  have hne := tail_first l [] hf
  have hw := (CardW.empty ls n left).part l [] (firstN (textOf l)) hl (by omega)
  have ht : (addC ⟨left, [], []⟩ (tailL ((textOf l).drop (firstN (textOf l))) []) ((n + 1 : Nat) : Int) ((firstN (textOf l) : Int) + 8)).text ≠ [] := by
    rw [(addC_sizes _ _ _ _).1]; simpa using hne
  have h0 := addC_pos ⟨left, [], []⟩ (tailL ((textOf l).drop (firstN (textOf l))) []) ((n + 1 : Nat) : Int) ((firstN (textOf l) : Int) + 8) 0 hne (fun _ => rfl) (fun h => absurd rfl h) (Int.le_refl _)
  rw [if_pos (by simp)] at h0
  refine ⟨fun c hc => ?_, ?_⟩
  · rcases List.mem_append.1 hc with hc | hc
    · exact ⟨(h c hc).1.mono (by omega), (h c hc).2⟩
    · obtain rfl := List.mem_singleton.1 hc
      exact ⟨hw, ht⟩
  · show (pre ++ [_]).Pairwise befC
    rw [List.pairwise_append]
    refine ⟨hp, List.pairwise_singleton _ _, fun c hc d hd => ?_⟩
    obtain rfl := List.mem_singleton.1 hd
    obtain ⟨hcw, hct⟩ := h c hc
    have hlen : 0 < c.text.length := List.length_pos_iff.2 hct
    obtain ⟨h1, h2, _⟩ := hcw.pos (c.text.length - 1) (by omega)
    unfold befC
    rw [h0]
    simp only
    omega
theorem StW.more {ls : List (List UInt8)} {n : Nat} {pre : List CardL} {c : CardL} (h : ∀ d ∈ pre ++ [c], CardW ls n d ∧ d.text ≠ []) (hp : (pre ++ [c]).Pairwise befC) (l t : List UInt8) (j : Nat) (hl : ls.getD n [] = l) (hj : j ≤ 65) (ln co : Int) :
    StW ls (n + 1) ⟨pre, some (addC c (tailL ((textOf l).drop j) t) ((n + 1 : Nat) : Int) ((j : Int) + 8)), ln, co⟩ := by
  obtain ⟨hcw, hct⟩ := h c (by simp)
  have hw := hcw.part l t j hl hj
  have ht : (addC c (tailL ((textOf l).drop j) t) ((n + 1 : Nat) : Int) ((j : Int) + 8)).text ≠ [] := by
    rw [(addC_sizes _ _ _ _).1]; simp [hct]
  have hlen : 0 < c.text.length := List.length_pos_iff.2 hct
  have h0 : posL (addC c (tailL ((textOf l).drop j) t) ((n + 1 : Nat) : Int) ((j : Int) + 8)) 0 = posL c 0 := by
    by_cases hpe : tailL ((textOf l).drop j) t = []
    · rw [hpe]; unfold addC; simp
    · rw [addC_pos _ _ _ _ 0 hpe hcw.none hcw.some (Int.le_refl _), if_neg (by omega)]
  refine ⟨fun d hd => ?_, ?_⟩
  · rcases List.mem_append.1 hd with hd | hd
    · have := h d (List.mem_append_left _ hd)
      exact ⟨this.1.mono (by omega), this.2⟩
    · obtain rfl := List.mem_singleton.1 hd
      exact ⟨hw, ht⟩
  · show (pre ++ [_]).Pairwise befC
    have ha := List.pairwise_append.1 hp
    rw [List.pairwise_append]
    refine ⟨ha.1, List.pairwise_singleton _ _, fun d hd e he => ?_⟩
    obtain rfl := List.mem_singleton.1 he
    have := ha.2.2 d hd c (by simp)
    unfold befC at this ⊢
    rw [h0]; exact this
theorem StW.step {ls : List (List UInt8)} {n : Nat} {st st' : RSt} {debug : Bool} (h : StW ls n st) (l : List UInt8) (hl : ls.getD n [] = l) (hs : stepL debug st ((n + 1 : Nat) : Int) l = .ok st') (hpre : st.cur = none → st.pre = []) : StW ls (n + 1) st' ∧ (st'.cur = none → st'.pre = []) := by
  unfold stepL at hs
  split at hs
  · split at hs
    · rename_i hcnt
      have hf := counts_first debug l hcnt
      unfold takeL at hs
      cases hc : st.cur with
      | none =>
        rw [hc] at hs
        simp only at hs
        split at hs
        · cases hs
        · injection hs with hs; subst hs
          exact ⟨StW.push (by simp) List.Pairwise.nil _ l hl hf _ _, by simp⟩
      | some c =>
        rw [hc] at hs
        have ha := h.all
        have hp := h.pw
        rw [hc] at ha hp
        simp only [Option.toList] at ha hp
        simp only at hs
        split at hs
        · split at hs
          · cases hs
          · split at hs
            · injection hs with hs; subst hs
              exact ⟨StW.more ha hp l c.text (firstN (textOf l) + 1) hl (by omega) _ _, by simp⟩
            · injection hs with hs; subst hs
              exact ⟨StW.more ha hp l c.text (firstN (textOf l)) hl (by omega) _ _, by simp⟩
        · split at hs
          · cases hs
          · injection hs with hs; subst hs
            exact ⟨StW.push ha hp _ l hl hf _ _, by simp⟩
    · injection hs with hs; subst hs
      exact ⟨h.mono (by omega), hpre⟩
  · cases hs
theorem StW.run {ls : List (List UInt8)} {debug : Bool} (rest : List (List UInt8)) (n : Nat) (st st' : RSt) (hr : ls.drop n = rest) (h : StW ls n st) (hpre : st.cur = none → st.pre = []) (hs : runL debug st n rest = .ok st') : StW ls (n + rest.length) st' ∧ (st'.cur = none → st'.pre = []) := by
  induction rest generalizing n st with
  | nil =>
    simp only [runL] at hs
    injection hs with hs; subst hs
    exact ⟨h, hpre⟩
  | cons l r ih =>
    simp only [runL] at hs
    have hl : ls.getD n [] = l := by
      rw [List.getD_eq_getElem?_getD, ← Nat.add_zero n, ← List.getElem?_drop, hr]; rfl
    cases hst : stepL debug st ((n + 1 : Nat) : Int) l with
    | error f => rw [hst] at hs; cases hs
    | ok st1 =>
      rw [hst] at hs
      obtain ⟨h1, h2⟩ := h.step l hl hst hpre
      have := ih (n + 1) st1 (by rw [← List.drop_drop, hr]; rfl) h1 h2 hs
      rw [List.length_cons, show n + (r.length + 1) = n + 1 + r.length by omega]
      exact this
/-- what Read's cards say of the source -/
theorem readL_marks (debug : Bool) (l : List UInt8) (cs : List CardL) (h : readL debug l = .ok cs) :
    (∀ c ∈ cs, CardW ((chunks l).map stripL) ((chunks l).map stripL).length c ∧ c.text ≠ []) ∧ cs.Pairwise befC := by
  unfold readL at h
  cases hr : runL debug .ini 0 ((chunks l).map stripL) with
  | error f => rw [hr] at h; cases h
  | ok st =>
    rw [hr] at h
    obtain ⟨h1, h2⟩ := StW.run (ls := (chunks l).map stripL) ((chunks l).map stripL) 0 .ini st rfl ⟨by simp [RSt.ini], List.Pairwise.nil⟩ (fun _ => rfl) hr
    rw [Nat.zero_add] at h1
    unfold endL' at h
    simp only at h
    cases hc : st.cur with
    | none =>
      rw [hc] at h
      injection h with h; subst h
      exact ⟨by simp, List.Pairwise.nil⟩
    | some c =>
      rw [hc] at h
      have ha := h1.all
      have hp := h1.pw
      rw [hc] at ha hp
      simp only at h
      split at h
      · cases h
      · injection h with h; subst h
        exact ⟨ha, hp⟩
theorem CardW.valid {ls : List (List UInt8)} {n : Nat} {c : CardL} (h : CardW ls n c) (ht : c.text ≠ []) : validL c = true := by
  unfold validL
  have h1 : c.text.isEmpty = false := by simpa using ht
  have h2 : c.marks.isEmpty = false := by simpa using h.some ht
  rw [h1, h2, decide_eq_true h.head, h.ok]; rfl
theorem CardW.ends {ls : List (List UInt8)} {n : Nat} {c : CardL} (h : CardW ls n c) (ht : c.text ≠ []) : posL c (c.text.length : Int) = ((posL c ((c.text.length - 1 : Nat) : Int)).1, (posL c ((c.text.length - 1 : Nat) : Int)).2 + 1) := by
  have hlen : 0 < c.text.length := List.length_pos_iff.2 ht
  unfold posL
  rw [lastM_end (c.text.length : Int) (-1) (c.text.length : Int) ((c.text.length - 1 : Nat) : Int) _ _ h.ok (by omega) (by omega)]
  simp only [Prod.mk.injEq, true_and]
  omega
end Go.Proofs.YteceealibfemjaaDoor
