/-
  PLAIN FACTS for PicturesShape (layer 6, pictures): the pictures that are composed of the parts of the chapter, and that Parse's plain function describes them as they are composed.
-/
import Derived.Test.YteceealibfemjaaGreatDoorPicF
import Derived.Test.YteceealibfemjaaGreatDoorShtE
namespace Go.Proofs.YteceealibfemjaaGreatDoor
namespace Pic
/-- the symbol of a text picture by a byte -/
def txK (one : Bool) (b : UInt8) : Nat := if one then b.toNat % 6 % 3 else b.toNat % 6
def txS (one : Bool) (b : UInt8) : UInt8 := [65, 88, 57, 66, 48, 47].getD (txK one b) 65
def ofT (one : Bool) (bs : List UInt8) : List UInt8 := 88 :: bs.map (txS one)
def catT (one : Bool) (bs : List UInt8) : Nat := if bs.any (fun b => decide (2 < txK one b)) then 3 else 2
def numP (n m sg fm : Nat) : List UInt8 :=
  let p := List.replicate (n + 1) 57
  let q := if fm < 3 then (if 0 < m then p ++ 86 :: List.replicate m 57 else p) else if fm = 3 then List.replicate (m + 1) 80 ++ p else if fm = 4 then p ++ List.replicate (m + 1) 80 ++ [86] else 86 :: p
  if sg = 1 then 83 :: q else q
def numD (n m fm : Nat) : Nat := if fm < 3 then n + 1 + m else n + 1
def numC (n m fm : Nat) : Int := if fm < 3 then (m : Int) else if fm = 3 then ((n + 1 + m + 1 : Nat) : Int) else if fm = 4 then -((m + 1 : Nat) : Int) else ((n + 1 : Nat) : Int)
def numS (n m sg fm : Nat) : ShR := ⟨4, numD n m fm, numC n m fm, decide (sg = 1), numD n m fm⟩
def edFront (sg : Nat) : List UInt8 := if sg = 1 then [43] else if sg = 2 then [45] else []
def edTail (sg : Nat) : List UInt8 := if sg = 3 then [43] else if sg = 4 then [45] else if sg = 5 then [67, 82] else if sg = 6 then [68, 66] else []
def edSg (sg : Nat) : Bool := decide (1 ≤ sg) && decide (sg ≤ 6)
def edSym (sg fm : Nat) : UInt8 := if edSg sg && (fm == 4 || fm == 5) then 57 else [90, 42, 57, 36, 43, 45, 57, 57].getD fm 57
def edK (n a : Nat) : Nat := if a = 1 then n + 1 else n / 2 + 1
def edBody (n sg fm a : Nat) : List UInt8 := List.replicate (edK n a) (edSym sg fm) ++ List.replicate (n + 1 - edK n a) 57
def edWhole (n sg fm a : Nat) : List UInt8 :=
  let s := edSym sg fm
  if s = 36 then 36 :: edBody n sg fm a else if s = 43 ∨ s = 45 then s :: edBody n sg fm a else if fm = 2 then 36 :: edBody n sg fm a else if fm = 6 then 48 :: edBody n sg fm a else edBody n sg fm a
def edSigned (sg fm : Nat) : Bool := edSg sg || (edSym sg fm == 43) || (edSym sg fm == 45)
def insB (b : UInt8) : List UInt8 := if b.toNat % 5 < 4 then [[66, 48, 47, 44].getD (b.toNat % 5) 66] else []
def wvL : List UInt8 → List UInt8 → List UInt8
  | [], _ => []
  | c :: w, [] => c :: wvL w []
  | c :: w, b :: bs => insB b ++ c :: wvL w bs
def wv (w bs : List UInt8) : List UInt8 := match w with
  | [] => []
  | c :: w => c :: wvL w bs
def edMid (m sg fm a b : Nat) : List UInt8 := if 0 < m then (if b = 1 then 86 else 46) :: List.replicate m (if a = 1 then edSym sg fm else 57) else []
def edSl (sg fm : Nat) : List UInt8 := if edSym sg fm = 57 ∧ fm ≠ 2 ∧ edSigned sg fm = false then [47] else []
def edRest (m sg fm a b : Nat) : List UInt8 := edMid m sg fm a b ++ edTail sg ++ edSl sg fm
def edP (n m sg fm a b : Nat) (bs : List UInt8) : List UInt8 := edFront sg ++ wv (edWhole n sg fm a) bs ++ edRest m sg fm a b
def edV (m b : Nat) : Nat := if 0 < m ∧ b = 1 then 1 else 0
def edS (n m sg fm b : Nat) (len : Nat) : ShR := ⟨5, n + 1 + m, m, edSigned sg fm, len - edV m b⟩
/-- without an insertion symbol of At -/
def edO (n m sg fm a b : Nat) : List UInt8 := edFront sg ++ edWhole n sg fm a ++ edRest m sg fm a b
def kp (l : List UInt8) : List UInt8 := l.filter (fun c => !insOf c)
def edQ (n m sg fm a b : Nat) : List UInt8 := if sg = 6 then kp (edFront sg ++ edWhole n sg fm a ++ edMid m sg fm a b) ++ [68, 66] else kp (edO n m sg fm a b)
def okSym (c : UInt8) : Bool := isSym c && c != 65 && c != 88 && c != 83 && c != 80
def odd' (c : UInt8) : Bool := c != 57 && c != 86 && c != 80 && c != 35
def edChk (n m sg fm a b : Nat) : Bool :=
  let o := edO n m sg fm a b
  let r := reaL (edQ n m sg fm a b)
  r.1 && decide (r.2.sg ≤ 1) && decide (r.2.d = n + 1 + m) && decide (r.2.sc = m) && (decide (0 < r.2.sg) == edSigned sg fm) &&
  !(edWhole n sg fm a).isEmpty && o.all okSym && o.any odd' && decide (o.head? ≠ some 44) && decide (o.getLast? ≠ some 44) && (sg == 6 && (edSl sg fm).isEmpty || decide (o.getLast? ≠ some 66)) && decide (cnt 86 o = edV m b) && decide ((edWhole n sg fm a).length ≤ 12) && decide (o.length ≤ 40)
theorem edChk_a0 : ∀ fm, fm < 8 → ∀ sg, sg < 8 → ∀ n, n < 10 → ∀ m, m < 6 → ∀ b, b < 2 → edChk n m sg fm 0 b = true := by decide +kernel
theorem edChk_a1 : ∀ fm, fm < 8 → ∀ sg, sg < 8 → ∀ n, n < 10 → ∀ m, m < 6 → ∀ b, b < 2 → edChk n m sg fm 1 b = true := by decide +kernel
theorem leadN_alls (p : UInt8 → Bool) (l : List UInt8) (h : ∀ c ∈ l, p c = true) : leadN p l = l.length := by
  induction l with
  | nil => rfl
  | cons c r ih =>
    unfold leadN
    rw [if_pos (h c (List.mem_cons_self ..)), ih (fun x hx => h x (List.mem_cons_of_mem _ hx))]; rfl
theorem any_no (l : List UInt8) (h : ∀ c ∈ l, c ≠ 65 ∧ c ≠ 88) : Lib.containsAny l [65, 88] = false := by
  have : Lib.indexAny l [65, 88] = -1 := by
    induction l with
    | nil => rfl
    | cons c r ih =>
      have h1 := h c (List.mem_cons_self ..)
      have h2 := ih (fun x hx => h x (List.mem_cons_of_mem _ hx))
      unfold Lib.indexAny
      have hc : ([65, 88] : List UInt8).contains c = false := by
        simp [h1.1, h1.2]
      rw [hc, h2]; rfl
  unfold Lib.containsAny; rw [this]; rfl
theorem hasG_sub (f : Nat) (form s : List UInt8) (h : hasG f form s = true) : ∀ c ∈ s, c ∈ form := by
  induction f generalizing form s with
  | zero =>
    unfold hasG at h
    have : s = [] := by simpa using h
    subst this; simp
  | succ f ih =>
    unfold hasG at h
    cases form with
    | nil =>
      have : s = [] := by simpa using h
      subst this; simp
    | cons c r =>
      simp only [] at h
      have htr : ∀ x ∈ Lib.trimPrefix r [35], x ∈ r := fun x hx => by
        unfold Lib.trimPrefix at hx
        split at hx
        · exact List.mem_of_mem_drop hx
        · exact hx
      split at h
      · intro x hx
        have hl := ih _ _ h
        obtain ⟨hs, _⟩ := leadN_split c s
        rw [hs, List.mem_append] at hx
        rcases hx with hx | hx
        · rw [List.eq_of_mem_replicate hx]; exact List.mem_cons_self ..
        · exact List.mem_cons_of_mem _ (htr x (hl x hx))
      · split at h
        · cases h
        · rename_i h0
          intro x hx
          cases s with
          | nil => cases hx
          | cons y t =>
            have hy : y = c := by
              by_cases e : (y == c) = true
              · exact eq_of_beq e
              · exfalso; apply h0; unfold leadN; rw [if_neg e]
            rcases List.mem_cons.1 hx with rfl | hx
            · rw [hy]; exact List.mem_cons_self ..
            · exact List.mem_cons_of_mem _ (htr x (ih _ _ h x (by simpa using hx)))
theorem pre_one (l : List UInt8) (x : UInt8) (h : l.head? ≠ some x) : Lib.hasPrefix l [x] = false := by
  unfold Lib.hasPrefix
  cases l with
  | nil => rfl
  | cons y t =>
    have : y ≠ x := fun e => h (by rw [e]; rfl)
    simp [List.isPrefixOf, Ne.symm this]
theorem suf_one (l : List UInt8) (x : UInt8) (h : l.getLast? ≠ some x) : Lib.hasSuffix l [x] = false := by
  unfold Lib.hasSuffix
  cases hs : List.isSuffixOf [x] l with
  | false => rfl
  | true =>
    exfalso; apply h
    obtain ⟨t, rfl⟩ := List.isSuffixOf_iff_suffix.1 hs
    simp
theorem suf_two (l : List UInt8) (x y : UInt8) (h : l.getLast? ≠ some y) : Lib.hasSuffix l [x, y] = false := by
  unfold Lib.hasSuffix
  cases hs : List.isSuffixOf [x, y] l with
  | false => rfl
  | true =>
    exfalso; apply h
    obtain ⟨t, rfl⟩ := List.isSuffixOf_iff_suffix.1 hs
    simp
theorem numB_no (p : List UInt8) (h83 : ∀ c ∈ p, c ≠ 83) (hx : ∃ c ∈ p, odd' c = true) : numB p = false := by
  obtain ⟨c, hc, hod⟩ := hx
  have ht : Lib.trimPrefix p [83] = p := by
    unfold Lib.trimPrefix
    rw [pre_one p 83 (by
      cases p with
      | nil => simp
      | cons y t => intro e; injection e with e; exact h83 y (List.mem_cons_self ..) e)]
    rfl
  unfold numB
  rw [ht, List.any_eq_false]
  intro form hf
  cases h : hasL p form with
  | false => simp
  | true =>
    have hm := hasG_sub _ _ _ h c hc
    exfalso
    have : ∀ form ∈ forms, ∀ c ∈ form, odd' c = false := by decide
    rw [this form hf c hm] at hod; cases hod
theorem bar_no (l : List UInt8) (h : l.getLast? ≠ some 66) : barL l = kp l := by
  unfold barL Lib.trimSuffix
  rw [suf_two l 68 66 h]; simp [kp]
theorem bar_db (l : List UInt8) : barL (l ++ [68, 66]) = kp l ++ [68, 66] := by
  have : Lib.hasSuffix (l ++ [68, 66]) [68, 66] = true := by unfold Lib.hasSuffix; rw [List.isSuffixOf_iff_suffix]; exact List.suffix_append ..
  unfold barL Lib.trimSuffix
  rw [this]; simp [kp]
theorem kp_app (a b : List UInt8) : kp (a ++ b) = kp a ++ kp b := by unfold kp; exact List.filter_append ..
theorem cnt_app (c : UInt8) (a b : List UInt8) : cnt c (a ++ b) = cnt c a + cnt c b := by unfold cnt Lib.countByte; exact List.count_append ..
theorem cnt_no (c : UInt8) (l : List UInt8) (h : ∀ x ∈ l, x ≠ c) : cnt c l = 0 := by
  unfold cnt Lib.countByte
  rw [List.count_eq_zero]
  exact fun hm => h c hm rfl
theorem insB_ok (b : UInt8) : (∀ c ∈ insB b, okSym c = true) ∧ kp (insB b) = [] ∧ cnt 86 (insB b) = 0 ∧ (insB b).length ≤ 1 := by
  have H : ∀ k, k < 5 → let l : List UInt8 := if k < 4 then [[66, 48, 47, 44].getD k 66] else []
      (∀ c ∈ l, okSym c = true) ∧ kp l = [] ∧ cnt 86 l = 0 ∧ l.length ≤ 1 := by decide +kernel
  exact H (b.toNat % 5) (by omega)
theorem last_cons (c : UInt8) (l : List UInt8) : (c :: l).getLast? = some (l.getLast?.getD c) := List.getLast?_cons
theorem last_app (a : List UInt8) (c : UInt8) (l : List UInt8) : (a ++ c :: l).getLast? = (c :: l).getLast? := by
  rw [List.getLast?_append, last_cons]; rfl
theorem wvL_facts (w : List UInt8) : ∀ bs, kp (wvL w bs) = kp w ∧ cnt 86 (wvL w bs) = cnt 86 w ∧ (wvL w bs).getLast? = w.getLast? ∧ (wvL w bs).length ≤ 2 * w.length ∧ (∀ c ∈ wvL w bs, c ∈ w ∨ okSym c = true) ∧ (∀ c ∈ w, c ∈ wvL w bs) := by
  induction w with
  | nil => intro bs; cases bs <;> exact ⟨rfl, rfl, rfl, Nat.le_refl _, (fun c h => by cases h), (fun c h => by cases h)⟩
  | cons c w ih =>
    have K : ∀ (i : List UInt8) (bs : List UInt8), (∀ c ∈ i, okSym c = true) → kp i = [] → cnt 86 i = 0 → i.length ≤ 1 →
        kp (i ++ c :: wvL w bs) = kp (c :: w) ∧ cnt 86 (i ++ c :: wvL w bs) = cnt 86 (c :: w) ∧ (i ++ c :: wvL w bs).getLast? = (c :: w).getLast? ∧ (i ++ c :: wvL w bs).length ≤ 2 * (c :: w).length ∧ (∀ x ∈ i ++ c :: wvL w bs, x ∈ c :: w ∨ okSym x = true) ∧ (∀ x ∈ c :: w, x ∈ i ++ c :: wvL w bs) := by
      intro i bs h1 h2 h3 h4
      obtain ⟨g1, g2, g3, g4, g5, g6⟩ := ih bs
      refine ⟨?_, ?_, ?_, ?_, ?_, ?_⟩
      · rw [kp_app, h2, List.nil_append, show c :: wvL w bs = [c] ++ wvL w bs from rfl, kp_app, g1, ← kp_app]; rfl
      · rw [cnt_app, h3, show c :: wvL w bs = [c] ++ wvL w bs from rfl, cnt_app, g2, Nat.zero_add, ← cnt_app]; rfl
      · rw [last_app, last_cons, g3, last_cons]
      · simp only [List.length_append, List.length_cons] at g4 ⊢; omega
      · intro x hx
        rw [List.mem_append, List.mem_cons] at hx
        rcases hx with hx | hx | hx
        · exact .inr (h1 x hx)
        · exact .inl (by rw [hx]; exact List.mem_cons_self ..)
        · rcases g5 x hx with h | h
          · exact .inl (List.mem_cons_of_mem _ h)
          · exact .inr h
      · intro x hx
        rw [List.mem_append, List.mem_cons]
        rcases List.mem_cons.1 hx with hx | hx
        · exact .inr (.inl hx)
        · exact .inr (.inr (g6 x hx))
    intro bs
    cases bs with
    | nil => exact K [] [] (fun _ h => by cases h) rfl rfl (by simp)
    | cons b bs =>
      obtain ⟨h1, h2, h3, h4⟩ := insB_ok b
      exact K (insB b) bs h1 h2 h3 h4
theorem wv_facts (w bs : List UInt8) : kp (wv w bs) = kp w ∧ cnt 86 (wv w bs) = cnt 86 w ∧ (wv w bs).getLast? = w.getLast? ∧ (wv w bs).head? = w.head? ∧ (wv w bs).length ≤ 2 * w.length ∧ (∀ c ∈ wv w bs, c ∈ w ∨ okSym c = true) ∧ (∀ c ∈ w, c ∈ wv w bs) := by
  cases w with
  | nil => exact ⟨rfl, rfl, rfl, rfl, Nat.le_refl _, (fun c h => by cases h), (fun c h => by cases h)⟩
  | cons c w =>
    obtain ⟨g1, g2, g3, g4, g5, g6⟩ := wvL_facts w bs
    show kp (c :: wvL w bs) = _ ∧ cnt 86 (c :: wvL w bs) = _ ∧ (c :: wvL w bs).getLast? = _ ∧ _ ∧ (c :: wvL w bs).length ≤ _ ∧ (∀ x ∈ c :: wvL w bs, _) ∧ (∀ x ∈ c :: w, x ∈ c :: wvL w bs)
    refine ⟨?_, ?_, ?_, rfl, ?_, ?_, ?_⟩
    · rw [show c :: wvL w bs = [c] ++ wvL w bs from rfl, kp_app, g1, ← kp_app]; rfl
    · rw [show c :: wvL w bs = [c] ++ wvL w bs from rfl, cnt_app, g2, ← cnt_app]; rfl
    · rw [last_cons, g3, last_cons]
    · simp only [List.length_cons] at g4 ⊢; omega
    · intro x hx
      rcases List.mem_cons.1 hx with hx | hx
      · exact .inl (by rw [hx]; exact List.mem_cons_self ..)
      · rcases g5 x hx with h | h
        · exact .inl (List.mem_cons_of_mem _ h)
        · exact .inr h
    · intro x hx
      rcases List.mem_cons.1 hx with hx | hx
      · rw [hx]; exact List.mem_cons_self ..
      · exact List.mem_cons_of_mem _ (g6 x hx)
/-- a picture that Parse describes as x -/
structure PicOk (p : List UInt8) (x : ShR) : Prop where
  exp : expL p = (p, 0)
  sh : forL p = some x
  few : x.d + cnt 80 p ≤ 18
  cat : x.c ≠ 0 ∧ x.c ≤ 5
  num : x.c = 4 → 1 ≤ x.d ∧ x.n = x.d
  txt : x.c ≠ 4 → x.n = p.length - cnt 86 p
  len : p.length ≤ 60
theorem expL_self (p : List UInt8) (h : ∀ c ∈ p, isSym c = true) (h0 : p ≠ []) (h1 : p.length ≤ 60) : expL p = (p, 0) :=
  expL_of p p h0 (flat_id p (List.all_eq_true.2 h)) (by omega)
theorem PicOk.par {p : List UInt8} {x : ShR} (h : PicOk p x) (l : List UInt8) (hl : expL l = (p, 0)) : parL l = (0, x, p) := by
  unfold parL
  rw [hl]
  simp only [ne_eq, not_true_eq_false, if_false]
  rw [h.sh]
  simp only []
  rw [if_neg (by have := h.few; omega)]
def nmb (p : List UInt8) : List UInt8 := p.flatMap fun c => [c, 40, 49, 41]
theorem nmb_len (p : List UInt8) : (nmb p).length = 4 * p.length := by
  unfold nmb
  induction p with
  | nil => rfl
  | cons c r ih => rw [List.flatMap_cons, List.length_append, ih]; simp only [List.length_cons, List.length_nil]; omega
theorem flat_nmb (p : List UInt8) (hp : ∀ c ∈ p, isSym c = true) : ∀ f, (nmb p).length ≤ f → flatG f (nmb p) = some p := by
  induction p with
  | nil => intro f _; cases f <;> rfl
  | cons c r ih =>
    intro f hf
    have hn : nmb (c :: r) = c :: 40 :: 49 :: 41 :: nmb r := by unfold nmb; rw [List.flatMap_cons]; rfl
    rw [hn] at hf ⊢
    cases f with
    | zero => simp at hf
    | succ f =>
      have h1 : repL (40 :: 49 :: 41 :: nmb r) = some (1, nmb r) := repL_yes (49 :: 41 :: nmb r) 1 rfl (by omega) (by omega) (by show natF [49] ≠ 0; decide) rfl
      conv => lhs; unfold flatG
      simp only []
      rw [h1]
      simp only []
      rw [if_pos (hp c (List.mem_cons_self ..)), ih (fun x hx => hp x (List.mem_cons_of_mem _ hx)) f (by simp only [List.length_cons] at hf; omega)]
      rfl
theorem exp_nmb (p : List UInt8) (h : expL p = (p, 0)) : expL (nmb p) = (p, 0) := by
  obtain ⟨h0, _, _, h4, h5⟩ := expL_ok p p h
  refine expL_of (nmb p) p ?_ (flat_nmb p (List.all_eq_true.1 h5) _ (Nat.le_refl _)) h4
  intro e
  have := congrArg List.length e
  rw [nmb_len] at this
  have := List.length_pos_iff.2 h0
  simp at *
  omega
theorem okSym_iff (c : UInt8) (h : okSym c = true) : isSym c = true ∧ c ≠ 65 ∧ c ≠ 88 ∧ c ≠ 83 ∧ c ≠ 80 := by
  unfold okSym at h
  simp only [Bool.and_eq_true, bne_iff_ne, ne_eq] at h
  obtain ⟨⟨⟨⟨h1, h2⟩, h3⟩, h4⟩, h5⟩ := h
  exact ⟨h1, h2, h3, h4, h5⟩
theorem ed_ok (n m sg fm a b : Nat) (bs : List UInt8) (h : edChk n m sg fm a b = true) (hn : n < 10) (hm : m < 6) : PicOk (edP n m sg fm a b bs) (edS n m sg fm b (edP n m sg fm a b bs).length) := by
  unfold edChk at h
  simp only [Bool.and_eq_true, Bool.or_eq_true, decide_eq_true_eq, beq_iff_eq, Bool.not_eq_true', ne_eq] at h
  obtain ⟨⟨⟨⟨⟨⟨⟨⟨⟨⟨⟨⟨⟨h1, h2⟩, h3⟩, h4⟩, h5⟩, h6⟩, h7⟩, h8⟩, h9⟩, h10⟩, h11⟩, h12⟩, h13⟩, h14⟩ := h
  obtain ⟨g1, g2, g3, g4, g5, g6, g7⟩ := wv_facts (edWhole n sg fm a) bs
  obtain ⟨w, hw⟩ : ∃ w, w = edWhole n sg fm a := ⟨_, rfl⟩
  obtain ⟨v, hv⟩ : ∃ v, v = wv (edWhole n sg fm a) bs := ⟨_, rfl⟩
  obtain ⟨p, hp⟩ : ∃ p, p = edP n m sg fm a b bs := ⟨_, rfl⟩
  obtain ⟨o, ho⟩ : ∃ o, o = edO n m sg fm a b := ⟨_, rfl⟩
  have hpp : p = edFront sg ++ v ++ edRest m sg fm a b := by rw [hp, hv]; rfl
  have hoo : o = edFront sg ++ w ++ edRest m sg fm a b := by rw [ho, hw]; rfl
  rw [← hv, ← hw] at g1 g2 g3 g4 g5 g6 g7
  rw [← hw] at h6 h13
  rw [← ho] at h7 h8 h9 h10 h11 h12 h14
  rw [← hp]
  have hwn : w ≠ [] := by intro e; rw [e] at h6; cases h6
  have hvn : v ≠ [] := by
    intro e
    cases w with
    | nil => exact hwn rfl
    | cons c r => rw [e] at g4; cases g4
  have hmem : ∀ c ∈ p, okSym c = true := by
    intro c hc
    have ho' := List.all_eq_true.1 h7
    rw [hpp, List.mem_append, List.mem_append] at hc
    rw [hoo] at ho'
    rcases hc with (hc | hc) | hc
    · exact ho' c (List.mem_append_left _ (List.mem_append_left _ hc))
    · rcases g6 c hc with hc | hc
      · exact ho' c (List.mem_append_left _ (List.mem_append_right _ hc))
      · exact hc
    · exact ho' c (List.mem_append_right _ hc)
  have hodd : ∃ c ∈ p, odd' c = true := by
    obtain ⟨c, hc, hx⟩ := List.any_eq_true.1 h8
    refine ⟨c, ?_, hx⟩
    rw [hoo, List.mem_append, List.mem_append] at hc
    rw [hpp, List.mem_append, List.mem_append]
    rcases hc with (hc | hc) | hc
    · exact .inl (.inl hc)
    · exact .inl (.inr (g7 c hc))
    · exact .inr hc
  have hhead : p.head? = o.head? := by
    rw [hpp, hoo, List.append_assoc, List.append_assoc]
    cases edFront sg with
    | cons c r => rfl
    | nil =>
      cases w with
      | nil => exact absurd rfl hwn
      | cons c r =>
        cases v with
        | nil => exact absurd rfl hvn
        | cons d t => exact g4
  have hlast : p.getLast? = o.getLast? := by
    rw [hpp, hoo, List.getLast?_append, List.getLast?_append, List.getLast?_append, List.getLast?_append, g3]
  have hcnt : cnt 86 p = edV m b := by rw [← h12, hpp, hoo, cnt_app, cnt_app, cnt_app, cnt_app, g2]
  have hlen : p.length ≤ 60 := by
    rw [hoo, List.length_append, List.length_append] at h14
    rw [hpp, List.length_append, List.length_append]; omega
  have hc80 : cnt 80 p = 0 := cnt_no 80 p fun x hx => (okSym_iff x (hmem x hx)).2.2.2.2
  have hpn : p ≠ [] := by
    rw [hpp]; intro e
    simp only [List.append_eq_nil_iff] at e
    exact hvn e.1.2
  have hbar : barL p = edQ n m sg fm a b := by
    unfold edQ
    rcases h11 with ⟨h11, hsl⟩ | h11
    · subst h11
      rw [if_pos rfl]
      have hr : edRest m 6 fm a b = edMid m 6 fm a b ++ [68, 66] := by
        unfold edRest
        rw [List.isEmpty_iff.1 hsl, List.append_nil]; rfl
      rw [hpp, hr, ← List.append_assoc, bar_db, kp_app, kp_app, kp_app, kp_app, g1, hw]
    · rw [bar_no p (by rw [hlast]; exact h11)]
      have hk : kp p = kp o := by rw [hpp, hoo, kp_app, kp_app, kp_app, kp_app, g1]
      rw [hk]
      split
      · rename_i h6'
        exfalso
        subst h6'
        have hs : edSl 6 fm = [] := by
          unfold edSl edSigned edSg
          rw [if_neg]; simp
        apply h11
        rw [hoo]
        unfold edRest
        rw [hs, List.append_nil]
        unfold edTail
        simp
      · rw [ho]
  have htex : texB p = true := by
    unfold texB
    rw [any_no p (fun c hc => ⟨(okSym_iff c (hmem c hc)).2.1, (okSym_iff c (hmem c hc)).2.2.1⟩)]
    simp
  have hnum : numB p = false := numB_no p (fun c hc => (okSym_iff c (hmem c hc)).2.2.2.1) hodd
  have hedi : ediB p = true := by
    unfold ediB
    rw [hbar, h1, pre_one p 44 (by rw [hhead]; exact h9), suf_one p 44 (by rw [hlast]; exact h10)]
    simp only [Bool.true_and, Bool.not_false, Bool.and_true, Bool.and_eq_true, decide_eq_true_eq]
    exact ⟨h2, by rw [h3]; omega⟩
  refine ⟨expL_self p (fun c hc => (okSym_iff c (hmem c hc)).1) hpn hlen, ?_, ?_, ⟨by show (5 : Nat) ≠ 0; decide, Nat.le_refl 5⟩, (fun h => by cases h), fun _ => ?_, hlen⟩
  · unfold forL texL numL ediL
    rw [htex, hnum, hedi, hbar, hcnt]
    simp only [if_true, if_false, Option.orElse_none, Bool.false_eq_true]
    rw [h3, h4, h5]; rfl
  · rw [hc80]; show n + 1 + m + 0 ≤ 18; omega
  · show p.length - edV m b = p.length - cnt 86 p
    rw [hcnt]
theorem edChk_of (n m sg fm a b : Nat) (hn : n < 10) (hm : m < 6) (hs : sg < 8) (hf : fm < 8) (ha : a < 2) (hb : b < 2) : edChk n m sg fm a b = true := by
  rcases (show a = 0 ∨ a = 1 by omega) with rfl | rfl
  · exact edChk_a0 fm hf sg hs n hn m hm b hb
  · exact edChk_a1 fm hf sg hs n hn m hm b hb
theorem txc_facts : ∀ k, k < 6 → let c : UInt8 := [65, 88, 57, 66, 48, 47].getD k 65
    isSym c = true ∧ c ≠ 86 ∧ c ≠ 80 ∧ catOf c ≠ 0 ∧ (2 < k → catOf c = 3) ∧ (k ≤ 2 → catOf c ≤ 2) := by decide +kernel
theorem txK_lt (one : Bool) (b : UInt8) : txK one b < 6 := by unfold txK; split <;> omega
theorem cat_fold (one : Bool) (bs : List UInt8) : ∀ m, m = 2 ∨ m = 3 → (bs.map (txS one)).foldl (fun m c => max m (catOf c)) m = if m = 3 ∨ bs.any (fun b => decide (2 < txK one b)) = true then 3 else 2 := by
  induction bs with
  | nil => intro m hm; rcases hm with rfl | rfl <;> simp
  | cons b bs ih =>
    intro m hm
    obtain ⟨_, _, _, _, h5, h6⟩ := txc_facts (txK one b) (txK_lt one b)
    rw [List.map_cons, List.foldl_cons]
    by_cases hk : 2 < txK one b
    · have hc : catOf (txS one b) = 3 := h5 hk
      have hmx : max m (catOf (txS one b)) = 3 := by rw [hc]; omega
      rw [hmx, ih 3 (.inr rfl), if_pos (.inl rfl), if_pos]
      right
      rw [List.any_cons, decide_eq_true hk]; rfl
    · have hc : catOf (txS one b) ≤ 2 := h6 (by omega)
      have hmx : max m (catOf (txS one b)) = m := by omega
      rw [hmx, ih m hm, List.any_cons, decide_eq_false hk, Bool.false_or]
theorem tx_ok (one : Bool) (bs : List UInt8) (hb : bs.length ≤ 20) : PicOk (ofT one bs) ⟨catT one bs, 0, 0, false, (ofT one bs).length⟩ := by
  have hmem : ∀ c ∈ ofT one bs, isSym c = true ∧ c ≠ 86 ∧ c ≠ 80 ∧ catOf c ≠ 0 := by
    intro c hc
    unfold ofT at hc
    rcases List.mem_cons.1 hc with rfl | hc
    · decide +kernel
    · obtain ⟨b, _, rfl⟩ := List.mem_map.1 hc
      obtain ⟨h1, h2, h3, h4, _⟩ := txc_facts (txK one b) (txK_lt one b)
      exact ⟨h1, h2, h3, h4⟩
  have hlen : (ofT one bs).length ≤ 60 := by unfold ofT; rw [List.length_cons, List.length_map]; omega
  have hcat : catT one bs = 2 ∨ catT one bs = 3 := by unfold catT; split <;> simp
  have hmax : maxCat (ofT one bs) = catT one bs := by
    show (bs.map (txS one)).foldl (fun m c => max m (catOf c)) (max 0 (catOf 88)) = _
    rw [show max 0 (catOf 88) = 2 by decide +kernel, cat_fold one bs 2 (.inl rfl)]
    unfold catT
    simp
  refine ⟨expL_self _ (fun c hc => (hmem c hc).1) (by unfold ofT; simp) hlen, ?_, ?_, ?_, ?_, ?_, hlen⟩
  · have ht : texB (ofT one bs) = false := by
      unfold texB
      rw [leadN_alls _ _ (fun c hc => by simpa using (hmem c hc).2.2.2)]
      have : Lib.containsAny (ofT one bs) [65, 88] = true := by unfold Lib.containsAny ofT Lib.indexAny; simp
      rw [this]; simp
    unfold forL texL
    rw [ht, hmax]; rfl
  · show 0 + cnt 80 _ ≤ 18
    rw [cnt_no 80 _ fun x hx => (hmem x hx).2.2.1]; omega
  · show catT one bs ≠ 0 ∧ catT one bs ≤ 5
    omega
  · intro h
    have h : catT one bs = 4 := h
    omega
  · intro _
    show (ofT one bs).length = _
    rw [cnt_no 86 _ fun x hx => (hmem x hx).2.1]; omega
theorem a_fin : ∀ n, n < 10 → let p := List.replicate (n + 1) (65 : UInt8)
    forL p = some ⟨1, 0, 0, false, n + 1⟩ ∧ cnt 80 p = 0 ∧ cnt 86 p = 0 ∧ p.all isSym = true := by decide +kernel
theorem a_ok (n : Nat) (hn : n < 10) : PicOk (List.replicate (n + 1) 65) ⟨1, 0, 0, false, n + 1⟩ := by
  obtain ⟨h1, h2, h3, h4⟩ := a_fin n hn
  have hl : (List.replicate (n + 1) (65 : UInt8)).length = n + 1 := List.length_replicate
  refine ⟨expL_self _ (List.all_eq_true.1 h4) (by simp) (by omega), h1, by rw [h2]; show 0 + 0 ≤ 18; omega, ⟨by show (1 : Nat) ≠ 0; decide, by show (1 : Nat) ≤ 5; decide⟩, (fun h => by cases h), fun _ => ?_, by omega⟩
  show n + 1 = _
  rw [h3, hl]; rfl
def numChk (n m sg fm : Nat) : Bool :=
  decide (forL (numP n m sg fm) = some (numS n m sg fm)) && decide (numD n m fm + cnt 80 (numP n m sg fm) ≤ 18) && (numP n m sg fm).all isSym && decide (0 < (numP n m sg fm).length) && decide ((numP n m sg fm).length ≤ 60)
theorem num_fin : ∀ n, n < 10 → ∀ m, m < 6 → ∀ sg, sg < 2 → ∀ fm, fm < 6 → numChk n m sg fm = true := by decide +kernel
theorem num_ok (n m sg fm : Nat) (hn : n < 10) (hm : m < 6) (hs : sg < 2) (hf : fm < 6) : PicOk (numP n m sg fm) (numS n m sg fm) := by
  have h := num_fin n hn m hm sg hs fm hf
  unfold numChk at h
  simp only [Bool.and_eq_true, decide_eq_true_eq] at h
  obtain ⟨⟨⟨⟨h1, h2⟩, h3⟩, h4⟩, h5⟩ := h
  refine ⟨expL_self _ (List.all_eq_true.1 h3) (List.length_pos_iff.1 h4) h5, h1, h2, ⟨by show (4 : Nat) ≠ 0; decide, by show (4 : Nat) ≤ 5; decide⟩, fun _ => ⟨?_, rfl⟩, fun h => absurd rfl h, h5⟩
  show 1 ≤ numD n m fm
  unfold numD
  split <;> omega
/-- the picture of P by its bytes -/
def ofP (K W S G F : Nat) (bs : List UInt8) : List UInt8 :=
  if K % 6 = 0 then List.replicate (W % 10 + 1) 65 else if K % 6 = 1 ∨ K % 6 = 2 then ofT (K % 6 == 1) (bs.take 20) else if K % 6 = 3 then numP (W % 10) (S % 6) (G % 2) (F % 6)
  else edP (W % 10) (S % 6) (G % 8) (F % 8) (F / 8 % 2) (F / 16 % 2) bs
def shP (K W S G F : Nat) (bs : List UInt8) : ShR :=
  if K % 6 = 0 then ⟨1, 0, 0, false, W % 10 + 1⟩ else if K % 6 = 1 ∨ K % 6 = 2 then ⟨catT (K % 6 == 1) (bs.take 20), 0, 0, false, (ofT (K % 6 == 1) (bs.take 20)).length⟩ else if K % 6 = 3 then numS (W % 10) (S % 6) (G % 2) (F % 6)
  else edS (W % 10) (S % 6) (G % 8) (F % 8) (F / 16 % 2) (edP (W % 10) (S % 6) (G % 8) (F % 8) (F / 8 % 2) (F / 16 % 2) bs).length
theorem ofP_ok (K W S G F : Nat) (bs : List UInt8) : PicOk (ofP K W S G F bs) (shP K W S G F bs) := by
  have h10 : W % 10 < 10 := Nat.mod_lt _ (by omega)
  have h6 : S % 6 < 6 := Nat.mod_lt _ (by omega)
  unfold ofP shP
  by_cases h0 : K % 6 = 0
  · rw [if_pos h0, if_pos h0]; exact a_ok _ h10
  · rw [if_neg h0, if_neg h0]
    by_cases h1 : K % 6 = 1 ∨ K % 6 = 2
    · rw [if_pos h1, if_pos h1]; exact tx_ok _ _ (by rw [List.length_take]; omega)
    · rw [if_neg h1, if_neg h1]
      by_cases h3 : K % 6 = 3
      · rw [if_pos h3, if_pos h3]; exact num_ok _ _ _ _ h10 h6 (Nat.mod_lt _ (by omega)) (Nat.mod_lt _ (by omega))
      · rw [if_neg h3, if_neg h3]
        exact ed_ok _ _ _ _ _ _ _ (edChk_of _ _ _ _ _ _ h10 h6 (Nat.mod_lt _ (by omega)) (Nat.mod_lt _ (by omega)) (Nat.mod_lt _ (by omega)) (Nat.mod_lt _ (by omega))) h10 h6
end Pic
end Go.Proofs.YteceealibfemjaaGreatDoor
