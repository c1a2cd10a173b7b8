/-
  PLAIN FACTS (layer 6, pictures): the expansion of a picture (Expand), the reference's expansion, the shortest text (Short): it expands to the same, has no five equal symbols in a row, and is not longer than a text without zeros in front of numbers.
-/
import Derived.Lib.IndexMore
import Derived.Lib.ItoaNum
namespace Go.Proofs.YteceealibfemjaaGreatDoor
open Go
namespace Pic
def symS : List UInt8 := [65, 88, 57, 83, 86, 80, 90, 42, 43, 45, 46, 44, 36, 66, 48, 47, 67, 82, 68]
def isSym (c : UInt8) : Bool := symS.contains c
def leadN (p : UInt8 → Bool) : List UInt8 → Nat
  | [] => 0
  | c :: r => if p c then leadN p r + 1 else 0
def isDig (c : UInt8) : Bool := decide (48 ≤ (c.toNat : Int)) && decide ((c.toNat : Int) ≤ 57)
def natF (l : List UInt8) : Nat := l.foldl (fun n c => n * 10 + (c.toNat - 48)) 0
def natL (l : List UInt8) : Nat := if l.isEmpty || !l.all isDig then 0 else natF l
/-- the number behind a symbol and the rest -/
def repL (l : List UInt8) : Option (Nat × List UInt8) :=
  match l with
  | [] => some (1, [])
  | c :: r => if c = 40 then
      (if (Lib.cut r [41]).2.2 = true ∧ (Lib.cut r [41]).1.length ≤ 5 ∧ 0 < natL (Lib.cut r [41]).1 then some (natL (Lib.cut r [41]).1, (Lib.cut r [41]).2.1) else none)
    else some (1, c :: r)
def expG : Nat → List UInt8 → List UInt8 → Option (List UInt8)
  | 0, pic, _ => some pic
  | f + 1, pic, l => match l with
    | [] => some pic
    | c :: r => match repL r with
      | none => none
      | some (n, b) => if isSym c then expG f (if pic.length ≤ 256 then pic ++ List.replicate (min n 257) c else pic) b else none
def expR (o : Option (List UInt8)) : List UInt8 × Int := match o with
  | none => ([], 4)
  | some p => if 256 < p.length then ([], 3) else (p, 0)
/-- Expand: the picture, and the error -/
def expL (l : List UInt8) : List UInt8 × Int := if l.isEmpty then ([], 4) else expR (expG l.length [] l)

theorem cut_join (l : List UInt8) (c : UInt8) : ((Lib.cut l [c]).2.2 = true ∧ l = (Lib.cut l [c]).1 ++ c :: (Lib.cut l [c]).2.1) ∨ ((Lib.cut l [c]).2.2 = false ∧ (Lib.cut l [c]).1 = l ∧ (Lib.cut l [c]).2.1 = []) := by
  unfold Lib.cut
  rcases Lib.index_spec l [c] with ⟨h1, _⟩ | ⟨i, h1, h2, h3, _⟩
  · rw [if_neg (by omega)]; exact .inr ⟨rfl, rfl, rfl⟩
  · rw [if_pos (by omega)]
    refine .inl ⟨rfl, ?_⟩
    rw [h1]
    show l = l.take i ++ c :: l.drop (i + 1)
    unfold Lib.occAt at h3
    cases hd : l.drop i with
    | nil => rw [hd] at h3; simp [List.isPrefixOf] at h3
    | cons a r =>
      rw [hd] at h3
      simp [List.isPrefixOf] at h3
      have : l.drop (i + 1) = r := by rw [← List.drop_drop, hd]; rfl
      rw [this, h3, ← hd, List.take_append_drop]
/-- where a byte stands in a list, by strings.Index -/
theorem index_one (l : List UInt8) (c : UInt8) (k : Nat) (h : l[k]? = some c) (hn : l.take k |>.all (· != c)) : Lib.index l [c] = k := by
  induction l generalizing k with
  | nil => simp at h
  | cons a r ih =>
    cases k with
    | zero => simp at h; subst h; simp [Lib.index, List.isPrefixOf]
    | succ k =>
      simp at h hn
      have := ih k h (by simpa using hn.2)
      unfold Lib.index
      have hne : ([c].isPrefixOf (a :: r)) = false := by simp [List.isPrefixOf]; exact fun e => hn.1 e.symm
      rw [hne, this]
      have h1 : ((k : Int) == -1) = false := by rw [beq_eq_false_iff_ne]; omega
      simp [h1]
theorem index_no (l : List UInt8) (c : UInt8) (h : l.all (· != c)) : Lib.index l [c] = -1 := by
  induction l with
  | nil => rfl
  | cons a r ih =>
    simp at h
    unfold Lib.index
    have hne : ([c].isPrefixOf (a :: r)) = false := by simp [List.isPrefixOf]; exact fun e => h.1 e.symm
    rw [hne, ih (by simpa using h.2)]
    simp

theorem natF_snoc (l : List UInt8) (c : UInt8) : natF (l ++ [c]) = natF l * 10 + (c.toNat - 48) := by unfold natF; rw [List.foldl_append]; rfl
theorem isDig_iff (c : UInt8) : isDig c = true ↔ 48 ≤ c.toNat ∧ c.toNat ≤ 57 := by
  unfold isDig; rw [Bool.and_eq_true, decide_eq_true_eq, decide_eq_true_eq]; omega
theorem natF_lt (l : List UInt8) (h : l.all isDig = true) : natF l < 10 ^ l.length := by
  suffices H : ∀ r : List UInt8, r.reverse.all isDig = true → natF r.reverse < 10 ^ r.length by
    have := H l.reverse (by simpa using h)
    simpa using this
  intro r
  induction r with
  | nil => intro _; decide
  | cons c r ih =>
    intro h
    rw [List.reverse_cons, List.all_append, Bool.and_eq_true] at h
    have hc : isDig c = true := by simpa using h.2
    have h9 := (isDig_iff c).1 hc
    rw [List.reverse_cons, natF_snoc, List.length_cons, Nat.pow_succ]
    have := ih h.1
    omega
theorem natL_pos (l : List UInt8) (h : 0 < natL l) : l ≠ [] ∧ l.all isDig = true ∧ natL l = natF l := by
  unfold natL at h ⊢
  split at h
  · omega
  · rename_i hn
    rw [if_neg hn]
    refine ⟨fun e => hn (by rw [e]; rfl), ?_, rfl⟩
    cases ha : l.all isDig with
    | true => rfl
    | false => exact absurd (by rw [ha]; simp) hn
theorem repL_le (l : List UInt8) (n : Nat) (b : List UInt8) (h : repL l = some (n, b)) : b.length ≤ l.length ∧ 1 ≤ n ∧ n ≤ 99999 := by
  unfold repL at h
  split at h
  · simp at h; obtain ⟨rfl, rfl⟩ := h; simp
  · rename_i c r
    split at h
    · split at h
      · rename_i h0 h1
        obtain ⟨h1, h2, h3⟩ := h1
        simp at h
        obtain ⟨rfl, rfl⟩ := h
        obtain ⟨h4, h5, h6⟩ := natL_pos _ h3
        have h7 := natF_lt _ h5
        have h8 : 10 ^ (Lib.cut r [41]).1.length ≤ 10 ^ 5 := Nat.pow_le_pow_right (by omega) h2
        refine ⟨?_, h3, by omega⟩
        rcases cut_join r 41 with ⟨_, h⟩ | ⟨h, _⟩
        · have := congrArg List.length h
          rw [List.length_append, List.length_cons] at this
          rw [List.length_cons]; omega
        · rw [h] at h1; cases h1
      · cases h
    · simp at h; obtain ⟨rfl, rfl⟩ := h; simp
theorem index_none_mem (l : List UInt8) (c : UInt8) (h : Lib.index l [c] = -1) : ∀ k : Nat, l[k]? ≠ some c := by
  rcases Lib.index_spec l [c] with ⟨_, h2⟩ | ⟨i, h1, _⟩
  · intro k e
    obtain ⟨hk, he⟩ := List.getElem?_eq_some_iff.1 e
    have := h2 k (by omega)
    unfold Lib.occAt at this
    rw [List.drop_eq_getElem_cons hk, he] at this
    simp [List.isPrefixOf] at this
  · omega
/-- what the digits behind a parenthesis come to -/
theorem repL_yes (r : List UInt8) (k : Nat) (hd : (r.take k).all isDig = true) (h1 : 1 ≤ k) (h5 : k ≤ 5) (h0 : natF (r.take k) ≠ 0) (hc : r[k]? = some 41) : repL (40 :: r) = some (natF (r.take k), r.drop (k + 1)) := by
  have hk := (List.getElem?_eq_some_iff.1 hc).1
  have hne : (r.take k).all (· != 41) = true := by
    rw [List.all_eq_true] at hd ⊢
    intro x hx
    have := (isDig_iff x).1 (hd x hx)
    simp only [bne_iff_ne, ne_eq]
    intro e; subst e; revert this; decide
  have hi := index_one r 41 k hc hne
  have hcut : Lib.cut r [41] = (r.take k, r.drop (k + 1), true) := by
    unfold Lib.cut
    rw [hi, if_pos (by omega)]; rfl
  have hnat : natL (r.take k) = natF (r.take k) := by
    unfold natL
    rw [hd, if_neg]
    cases hl : r.take k with
    | nil => have := congrArg List.length hl; rw [List.length_take, List.length_nil] at this; omega
    | cons a b => simp
  unfold repL
  simp only [if_true]
  rw [hcut]
  simp only [hnat]
  rw [if_pos ⟨trivial, by rw [List.length_take]; omega, by omega⟩]
theorem repL_no (r : List UInt8) (k : Nat) (_hk : k ≤ r.length) (hd : (r.take k).all isDig = true) (hx : k = 6 ∨ ∀ c, r[k]? = some c → isDig c = false) (h : ¬ (1 ≤ k ∧ k ≤ 5 ∧ natF (r.take k) ≠ 0 ∧ r[k]? = some 41)) : repL (40 :: r) = none := by
  unfold repL
  simp only [if_true]
  rw [if_neg]
  rintro ⟨h1, h2, h3⟩
  apply h
  obtain ⟨h4, h5, h6⟩ := natL_pos _ h3
  rcases cut_join r 41 with ⟨_, hj⟩ | ⟨hj, _⟩
  · generalize (Lib.cut r [41]).1 = a at *
    generalize (Lib.cut r [41]).2.1 = b at *
    have ha : r[a.length]? = some 41 := by rw [hj]; simp
    have hak : k = a.length := by
      rcases Nat.lt_trichotomy k a.length with hlt | he | hgt
      · have hr : r[k]? = some a[k] := by rw [hj, List.getElem?_append_left hlt, List.getElem?_eq_getElem hlt]
        rcases hx with hx | hx
        · omega
        · have := hx _ hr
          rw [List.all_eq_true.1 h5 _ (List.getElem_mem hlt)] at this; cases this
      · exact he
      · have hm : (41 : UInt8) ∈ r.take k := by
          rw [List.mem_iff_getElem?]
          exact ⟨a.length, by rw [List.getElem?_take, if_pos hgt]; exact ha⟩
        have := List.all_eq_true.1 hd _ hm
        exact absurd this (by decide)
    have ht : r.take k = a := by rw [hj, hak]; simp
    have hp : 0 < a.length := by cases a with | nil => exact absurd rfl h4 | cons _ _ => simp
    refine ⟨by omega, by omega, ?_, by rw [hak]; exact ha⟩
    rw [ht, ← h6]; omega
  · rw [hj] at h1; cases h1

/-- the reference: what has been written (257 bytes at most), how many symbols -/
def refG : Nat → List UInt8 → Nat → List UInt8 → Option (List UInt8 × Nat)
  | 0, out, n, _ => some (out, n)
  | f + 1, out, n, l => match l with
    | [] => some (out, n)
    | c :: r => if isSym c then match repL r with
      | none => none
      | some (m, b) => refG f ((out ++ List.replicate m c).take 257) (n + m) b else none
def RelE (out : List UInt8) (n : Nat) (pic : List UInt8) : Prop := (n ≤ 256 ∧ out = pic ∧ pic.length = n) ∨ (256 < n ∧ 256 < pic.length)
theorem ref_exp (f : Nat) (out : List UInt8) (n : Nat) (pic l : List UInt8) (h : RelE out n pic) :
    (refG f out n l = none ∧ expG f pic l = none) ∨ ∃ o' n' p', refG f out n l = some (o', n') ∧ expG f pic l = some p' ∧ RelE o' n' p' := by
  induction f generalizing out n pic l with
  | zero => exact .inr ⟨_, _, _, rfl, rfl, h⟩
  | succ f ih =>
    cases l with
    | nil => exact .inr ⟨_, _, _, rfl, rfl, h⟩
    | cons c r =>
      unfold refG expG
      simp only []
      cases hr : repL r with
      | none => left; constructor <;> simp
      | some x =>
        obtain ⟨m, b⟩ := x
        have hm := repL_le r m b hr
        cases hs : isSym c with
        | false => left; simp
        | true =>
          simp only [if_true]
          apply ih
          rcases h with ⟨h1, h2, h3⟩ | ⟨h1, h2⟩
          · rw [if_pos (by omega)]
            by_cases hn : n + m ≤ 256
            · left
              rw [h2, Nat.min_eq_left (by omega)]
              refine ⟨hn, ?_, by rw [List.length_append, List.length_replicate]; omega⟩
              rw [List.take_of_length_le]
              rw [List.length_append, List.length_replicate]; omega
            · right
              refine ⟨by omega, ?_⟩
              rw [List.length_append, List.length_replicate]; omega
          · right
            rw [if_neg (by omega)]
            exact ⟨by omega, h2⟩

/-- the full expansion -/
def flatG : Nat → List UInt8 → Option (List UInt8)
  | 0, _ => some []
  | f + 1, l => match l with
    | [] => some []
    | c :: r => match repL r with
      | none => none
      | some (n, b) => if isSym c then (flatG f b).map (List.replicate n c ++ ·) else none
theorem exp_flat (f : Nat) (pic l : List UInt8) (hp : pic.length ≤ 513) :
    (flatG f l = none ∧ expG f pic l = none) ∨ ∃ q p, flatG f l = some q ∧ expG f pic l = some p ∧ ((256 < (pic ++ q).length ∧ 256 < p.length) ∨ ((pic ++ q).length ≤ 256 ∧ p = pic ++ q)) := by
  induction f generalizing pic l with
  | zero =>
    refine .inr ⟨[], pic, rfl, rfl, ?_⟩
    rw [List.append_nil]
    by_cases h : 256 < pic.length
    · exact .inl ⟨h, h⟩
    · exact .inr ⟨by omega, rfl⟩
  | succ f ih =>
    cases l with
    | nil =>
      refine .inr ⟨[], pic, rfl, rfl, ?_⟩
      rw [List.append_nil]
      by_cases h : 256 < pic.length
      · exact .inl ⟨h, h⟩
      · exact .inr ⟨by omega, rfl⟩
    | cons c r =>
      unfold flatG expG
      simp only []
      cases hr : repL r with
      | none => left; constructor <;> simp
      | some x =>
        obtain ⟨m, b⟩ := x
        have hm := repL_le r m b hr
        cases hs : isSym c with
        | false => left; simp
        | true =>
          simp only [if_true]
          have hl : (if pic.length ≤ 256 then pic ++ List.replicate (min m 257) c else pic).length ≤ 513 := by
            split
            · rw [List.length_append, List.length_replicate]; omega
            · exact hp
          rcases ih (if pic.length ≤ 256 then pic ++ List.replicate (min m 257) c else pic) b hl with ⟨h1, h2⟩ | ⟨q, p, h1, h2, h3⟩
          · left; rw [h1, h2]; exact ⟨rfl, rfl⟩
          · right
            rw [h1, h2]
            refine ⟨_, p, rfl, rfl, ?_⟩
            simp only [List.length_append, List.length_replicate] at h3 ⊢
            by_cases hp2 : pic.length ≤ 256
            · rw [if_pos hp2] at h3
              simp only [List.length_append, List.length_replicate] at h3
              by_cases hmm : m ≤ 257
              · rw [Nat.min_eq_left hmm] at h3
                rw [show pic ++ (List.replicate m c ++ q) = pic ++ List.replicate m c ++ q by rw [List.append_assoc]]
                rcases h3 with ⟨h3, h4⟩ | ⟨h3, h4⟩
                · exact .inl ⟨by omega, h4⟩
                · exact .inr ⟨by omega, h4⟩
              · rw [Nat.min_eq_right (by omega)] at h3
                rcases h3 with ⟨h3, h4⟩ | ⟨h3, h4⟩
                · exact .inl ⟨by omega, h4⟩
                · omega
            · rw [if_neg hp2] at h3
              rcases h3 with ⟨h3, h4⟩ | ⟨h3, h4⟩
              · exact .inl ⟨by omega, h4⟩
              · omega
theorem expL_flat (l : List UInt8) (hl : l ≠ []) : expL l = match flatG l.length l with
    | none => ([], 4)
    | some q => if 256 < q.length then ([], 3) else (q, 0) := by
  unfold expL
  rw [if_neg (by simpa using hl)]
  rcases exp_flat l.length [] l (by simp) with ⟨h1, h2⟩ | ⟨q, p, h1, h2, h3⟩
  · rw [h1, h2]; rfl
  · rw [h1, h2]
    rw [List.nil_append] at h3
    unfold expR
    simp only []
    rcases h3 with ⟨h3, h4⟩ | ⟨h3, h4⟩
    · rw [if_pos h3, if_pos h4]
    · rw [h4]
theorem flatG_fuel (f g : Nat) (l : List UInt8) (h1 : l.length ≤ f) (h2 : l.length ≤ g) : flatG f l = flatG g l := by
  induction f generalizing g l with
  | zero =>
    have : l = [] := by cases l with | nil => rfl | cons _ _ => simp at h1
    subst this
    cases g <;> rfl
  | succ f ih =>
    cases l with
    | nil => cases g <;> rfl
    | cons c r =>
      cases g with
      | zero => simp at h2
      | succ g =>
        unfold flatG
        simp only []
        cases hr : repL r with
        | none => rfl
        | some x =>
          obtain ⟨m, b⟩ := x
          have hm := repL_le r m b hr
          simp only [List.length_cons] at h1 h2
          simp only []
          rw [ih g b (by omega) (by omega)]
/-- the runs of equal symbols -/
def runs : List UInt8 → List (UInt8 × Nat)
  | [] => []
  | c :: r => match runs r with
    | [] => [(c, 1)]
    | (d, n) :: t => if d = c then (c, n + 1) :: t else (c, 1) :: (d, n) :: t
def piece (x : UInt8 × Nat) : List UInt8 := if x.2 < 5 then List.replicate x.2 x.1 else x.1 :: 40 :: (Lib.decDigits x.2 ++ [41])
def shoL (p : List UInt8) : List UInt8 := (runs p).flatMap piece
theorem runs_cons (c : UInt8) (r : List UInt8) : runs (c :: r) = match runs r with
    | [] => [(c, 1)]
    | (d, n) :: t => if d = c then (c, n + 1) :: t else (c, 1) :: (d, n) :: t := rfl
theorem runs_rep (c : UInt8) (t : Nat) (q : List UInt8) : runs (List.replicate (t + 1) c ++ q) = match runs q with
    | [] => [(c, t + 1)]
    | (d, n) :: u => if d = c then (c, n + (t + 1)) :: u else (c, t + 1) :: (d, n) :: u := by
  induction t with
  | zero => cases h : runs q with
    | nil => simp [runs, h]
    | cons x u => obtain ⟨d, n⟩ := x; simp [runs, h]
  | succ t ih =>
    rw [show List.replicate (t + 1 + 1) c ++ q = c :: (List.replicate (t + 1) c ++ q) by rw [List.replicate_succ]; rfl]
    rw [runs_cons, ih]
    cases h : runs q with
    | nil => simp
    | cons x u =>
      obtain ⟨d, n⟩ := x
      by_cases hd : d = c
      · simp [hd]; omega
      · simp [hd]
theorem runs_head (q : List UInt8) : (runs q).head?.map (·.1) = q.head? := by
  cases q with
  | nil => rfl
  | cons c r =>
    unfold runs
    cases h : runs r with
    | nil => rfl
    | cons x u => obtain ⟨d, n⟩ := x; by_cases hd : d = c <;> simp [hd]
theorem leadN_split (c : UInt8) (r : List UInt8) : r = List.replicate (leadN (· == c) r) c ++ r.drop (leadN (· == c) r) ∧ (r.drop (leadN (· == c) r)).head? ≠ some c := by
  induction r with
  | nil => simp [leadN]
  | cons d r ih =>
    unfold leadN
    by_cases h : d = c
    · subst h
      simp only [beq_self_eq_true, if_true]
      refine ⟨?_, by simpa using ih.2⟩
      rw [List.replicate_succ, List.drop_succ_cons, List.cons_append, ← ih.1]
    · have : (d == c) = false := by simpa using h
      rw [if_neg (by simp [this])]
      simp [h]
/-- the first run, as the program counts it -/
theorem runs_lead (c : UInt8) (r : List UInt8) : runs (c :: r) = (c, leadN (· == c) (c :: r)) :: runs ((c :: r).drop (leadN (· == c) (c :: r))) := by
  obtain ⟨h1, h2⟩ := leadN_split c (c :: r)
  have h0 : leadN (· == c) (c :: r) = leadN (· == c) r + 1 := by simp [leadN]
  generalize hm : leadN (· == c) (c :: r) = m at *
  generalize (c :: r).drop m = q at *
  subst h0
  rw [h1, runs_rep]
  have h3 := runs_head q
  cases hq : runs q with
  | nil => rfl
  | cons x u =>
    obtain ⟨d, n⟩ := x
    rw [hq] at h3
    simp only []
    rw [if_neg]
    intro e
    apply h2
    rw [← h3, e]; rfl
theorem shoL_lead (c : UInt8) (r : List UInt8) : shoL (c :: r) = piece (c, leadN (· == c) (c :: r)) ++ shoL ((c :: r).drop (leadN (· == c) (c :: r))) := by
  unfold shoL; rw [runs_lead, List.flatMap_cons]
theorem leadN_le (p : UInt8 → Bool) (l : List UInt8) : leadN p l ≤ l.length := by
  induction l with
  | nil => exact Nat.le_refl _
  | cons c r ih => unfold leadN; split <;> simp <;> omega
theorem shoL_head (p : List UInt8) : (shoL p).head? = p.head? := by
  cases p with
  | nil => rfl
  | cons c r =>
    rw [shoL_lead]
    have h0 : leadN (· == c) (c :: r) = leadN (· == c) r + 1 := by simp [leadN]
    rw [h0]
    unfold piece
    simp only []
    split
    · rw [List.replicate_succ]; rfl
    · rfl

theorem decDigits_dig (u : Nat) : (Lib.decDigits u).all isDig = true := by
  induction u using Nat.strongRecOn with
  | _ u ih =>
    have hd : ∀ k, k < 10 → isDig (UInt8.ofNat (48 + k)) = true := by
      intro k hk
      rw [isDig_iff]
      have : (UInt8.ofNat (48 + k)).toNat = 48 + k := by simp; omega
      omega
    rw [Lib.decDigits]
    split
    · rename_i h; simp only [List.all_cons, List.all_nil, Bool.and_true]; exact hd u h
    · rw [List.all_append, ih (u / 10) (by omega)]
      simp only [List.all_cons, List.all_nil, Bool.and_true, Bool.true_and]
      exact hd _ (by omega)
theorem natF_dec (u : Nat) : natF (Lib.decDigits u) = u := by
  induction u using Nat.strongRecOn with
  | _ u ih =>
    have hd : ∀ k, k < 10 → (UInt8.ofNat (48 + k)).toNat - 48 = k := by
      intro k hk
      have : (UInt8.ofNat (48 + k)).toNat = 48 + k := by simp; omega
      omega
    rw [Lib.decDigits]
    split
    · rename_i h
      show 0 * 10 + ((UInt8.ofNat (48 + u)).toNat - 48) = u
      rw [hd u h]; omega
    · rw [natF_snoc, ih (u / 10) (by omega), hd _ (by omega)]; omega
theorem nd_le (k u : Nat) (h : u < 10 ^ (k + 1)) : Lib.nDigits u ≤ k + 1 := by
  induction k generalizing u with
  | zero => rw [Lib.nDigits_small (by simpa using h)]; exact Nat.le_refl _
  | succ k ih =>
    by_cases h0 : u < 10
    · rw [Lib.nDigits_small h0]; omega
    · rw [Lib.nDigits_big h0]
      rw [Nat.pow_succ] at h
      have := ih (u / 10) (by omega)
      omega
theorem repL_one (r : List UInt8) (h : r.head? ≠ some 40) : repL r = some (1, r) := by
  unfold repL
  cases r with
  | nil => rfl
  | cons c r =>
    simp only []
    rw [if_neg]
    intro e; apply h; rw [e]; rfl
theorem sym40 (c : UInt8) (h : isSym c = true) : c ≠ 40 ∧ c ≠ 41 := by
  constructor <;> (intro e; subst e; exact absurd h (by decide))
theorem flat_rep (c : UInt8) (m : Nat) (t : List UInt8) (f : Nat) (hc : isSym c = true) (ht : t.head? ≠ some 40) (hf : m + t.length ≤ f) :
    flatG f (List.replicate m c ++ t) = (flatG t.length t).map (List.replicate m c ++ ·) := by
  induction m generalizing f with
  | zero =>
    rw [show List.replicate 0 c ++ t = t from rfl, flatG_fuel f t.length t (by omega) (Nat.le_refl _)]
    cases flatG t.length t <;> simp
  | succ m ih =>
    cases f with
    | zero => omega
    | succ f =>
      rw [List.replicate_succ, List.cons_append]
      conv => lhs; unfold flatG
      simp only []
      have hh : (List.replicate m c ++ t).head? ≠ some 40 := by
        cases m with
        | zero => simpa using ht
        | succ m =>
          rw [List.replicate_succ, List.cons_append]
          simp only [List.head?_cons, ne_eq, Option.some.injEq]
          exact (sym40 c hc).1
      rw [repL_one _ hh]
      simp only [hc, if_true]
      rw [ih f (by omega)]
      cases flatG t.length t with
      | none => rfl
      | some x => simp
theorem decDigits_len (u : Nat) : (Lib.decDigits u).length = Lib.nDigits u := Lib.decDigits_length u
theorem flat_piece (c : UInt8) (m : Nat) (t : List UInt8) (f : Nat) (hc : isSym c = true) (hm : m ≤ 99999) (ht : t.head? ≠ some 40) (hf : (piece (c, m) ++ t).length ≤ f) :
    flatG f (piece (c, m) ++ t) = (flatG t.length t).map (List.replicate m c ++ ·) := by
  unfold piece at hf ⊢
  simp only [] at hf ⊢
  by_cases h5 : m < 5
  · rw [if_pos h5] at hf ⊢
    refine flat_rep c m t f hc ht ?_
    rw [List.length_append, List.length_replicate] at hf; exact hf
  · rw [if_neg h5] at hf ⊢
    cases f with
    | zero => simp at hf
    | succ f =>
      have hn1 := Lib.nDigits_pos m
      have hn2 := nd_le 4 m (by omega)
      have hl := decDigits_len m
      have e : (c :: 40 :: (Lib.decDigits m ++ [41])) ++ t = c :: 40 :: (Lib.decDigits m ++ 41 :: t) := by simp
      rw [e] at hf ⊢
      have htk : (Lib.decDigits m ++ 41 :: t).take (Lib.nDigits m) = Lib.decDigits m := by rw [← hl]; simp
      have hr := repL_yes (Lib.decDigits m ++ 41 :: t) (Lib.nDigits m) (by rw [htk]; exact decDigits_dig m) hn1 hn2 (by rw [htk, natF_dec]; omega) (by rw [← hl]; simp)
      rw [htk, natF_dec] at hr
      rw [show (Lib.decDigits m ++ 41 :: t).drop (Lib.nDigits m + 1) = t by rw [← hl, List.drop_append]; simp] at hr
      conv => lhs; unfold flatG
      simp only []
      rw [hr]
      simp only [hc, if_true]
      rw [flatG_fuel f t.length t (by simp at hf; omega) (Nat.le_refl _)]
theorem drop_lt (c : UInt8) (r : List UInt8) : ((c :: r).drop (leadN (· == c) (c :: r))).length < (c :: r).length := by
  have h0 : leadN (· == c) (c :: r) = leadN (· == c) r + 1 := by simp [leadN]
  rw [List.length_drop, h0, List.length_cons]; omega
theorem sym_head (q : List UInt8) (h : q.all isSym = true) : q.head? ≠ some 40 ∧ q.head? ≠ some 41 := by
  cases q with
  | nil => simp
  | cons a b =>
    simp only [List.all_cons, Bool.and_eq_true] at h
    have := sym40 a h.1
    simp only [List.head?_cons, ne_eq, Option.some.injEq]
    exact this
theorem flat_short (p : List UInt8) (hp : p.all isSym = true) (hl : p.length ≤ 99999) (f : Nat) (hf : (shoL p).length ≤ f) : flatG f (shoL p) = some p := by
  obtain ⟨n, hn⟩ : ∃ n, n = p.length := ⟨_, rfl⟩
  induction n using Nat.strongRecOn generalizing p f with
  | _ n ih =>
    cases p with
    | nil => cases f <;> rfl
    | cons c r =>
      have hs := shoL_lead c r
      obtain ⟨h1, h2⟩ := leadN_split c (c :: r)
      have hlt := drop_lt c r
      have hml := leadN_le (· == c) (c :: r)
      generalize hm : leadN (· == c) (c :: r) = m at *
      generalize hq : (c :: r).drop m = q at *
      have hqs : q.all isSym = true := by
        rw [List.all_eq_true] at hp ⊢
        intro x hx
        exact hp x (List.mem_of_mem_drop (hq ▸ hx))
      have hcs : isSym c = true := by simp only [List.all_cons, Bool.and_eq_true] at hp; exact hp.1
      have hh := (sym_head q hqs).1
      rw [hs] at hf ⊢
      rw [flat_piece c m _ f hcs (by omega) (by rw [shoL_head]; exact hh) hf]
      rw [ih q.length (by omega) q hqs (by omega) _ (Nat.le_refl _) rfl, h1]
      rfl
theorem flat_sym (f : Nat) (l p : List UInt8) (h : flatG f l = some p) : p.all isSym = true := by
  induction f generalizing l p with
  | zero => simp [flatG] at h; subst h; rfl
  | succ f ih =>
    cases l with
    | nil => simp [flatG] at h; subst h; rfl
    | cons c r =>
      unfold flatG at h
      simp only [] at h
      cases hr : repL r with
      | none => rw [hr] at h; simp at h
      | some x =>
        obtain ⟨m, b⟩ := x
        rw [hr] at h
        simp only [] at h
        cases hs : isSym c with
        | false => rw [hs] at h; simp at h
        | true =>
          rw [hs] at h
          simp only [if_true] at h
          cases hg : flatG f b with
          | none => rw [hg] at h; simp at h
          | some q =>
            rw [hg] at h
            simp only [Option.map_some, Option.some.injEq] at h
            rw [← h, List.all_append, ih b q hg]
            simp only [Bool.and_true, List.all_eq_true]
            intro x hx
            rw [List.eq_of_mem_replicate hx]; exact hs
/-- no five equal symbols in a row -/
def noFive (l : List UInt8) : Prop := ∀ (i : Nat) (x : UInt8), ¬ (l[i]? = some x ∧ l[i + 1]? = some x ∧ l[i + 2]? = some x ∧ l[i + 3]? = some x ∧ l[i + 4]? = some x)
theorem noFive_rep (c : UInt8) (m : Nat) (t : List UInt8) (hm : m < 5) (ht : t.head? ≠ some c) (h : noFive t) : noFive (List.replicate m c ++ t) := by
  intro i x ⟨h0, h1, h2, h3, h4⟩
  have hg : ∀ j, m ≤ j → (List.replicate m c ++ t)[j]? = t[j - m]? := fun j hj => by
    rw [List.getElem?_append_right (by simpa using hj), List.length_replicate]
  by_cases hi : m ≤ i
  · refine h (i - m) x ⟨?_, ?_, ?_, ?_, ?_⟩
    · rw [← h0, hg i hi]
    · rw [← h1, hg (i + 1) (by omega)]; congr 1; omega
    · rw [← h2, hg (i + 2) (by omega)]; congr 1; omega
    · rw [← h3, hg (i + 3) (by omega)]; congr 1; omega
    · rw [← h4, hg (i + 4) (by omega)]; congr 1; omega
  · have hx : x = c := by
      rw [List.getElem?_append_left (by simpa using hi), List.getElem?_replicate, if_pos (by omega)] at h0
      exact (Option.some.inj h0).symm
    have hz : (List.replicate m c ++ t)[m]? = some x := by
      have : m = i + 1 ∨ m = i + 2 ∨ m = i + 3 ∨ m = i + 4 := by omega
      rcases this with e | e | e | e <;> rw [e] <;> first | exact e ▸ h1 | exact e ▸ h2 | exact e ▸ h3 | exact e ▸ h4
    rw [hg m (Nat.le_refl _), Nat.sub_self, hx] at hz
    apply ht
    rw [List.head?_eq_getElem?]; exact hz
theorem noFive_num (c : UInt8) (ds t : List UInt8) (hc : c ≠ 40) (h1 : 1 ≤ ds.length) (h3 : ds.length ≤ 3) (hd : ds.all isDig = true) (ht : t.head? ≠ some 41) (h : noFive t) : noFive (c :: 40 :: (ds ++ 41 :: t)) := by
  have hdd : ∀ (j : Nat) (x : UInt8), ds[j]? = some x → x ≠ 40 ∧ x ≠ 41 := fun j x hj => by
    have := List.all_eq_true.1 hd x (List.mem_of_getElem? hj)
    rw [isDig_iff] at this
    constructor <;> (intro e; subst e; revert this; decide)
  intro i x ⟨g0, g1, g2, g3, g4⟩
  have hA : ∀ j, j < ds.length → (c :: 40 :: (ds ++ 41 :: t))[j + 2]? = ds[j]? := fun j hj => by
    simp only [List.getElem?_cons_succ]; rw [List.getElem?_append_left hj]
  have hB : (c :: 40 :: (ds ++ 41 :: t))[ds.length + 2]? = some 41 := by
    simp only [List.getElem?_cons_succ]; rw [List.getElem?_append_right (Nat.le_refl _)]; simp
  have hC : ∀ j, (c :: 40 :: (ds ++ 41 :: t))[ds.length + 3 + j]? = t[j]? := fun j => by
    rw [show ds.length + 3 + j = (ds.length + 1 + j) + 2 by omega]
    simp only [List.getElem?_cons_succ]
    rw [List.getElem?_append_right (by omega), show ds.length + 1 + j - ds.length = j + 1 by omega]; rfl
  generalize hL : c :: 40 :: (ds ++ 41 :: t) = L at *
  have hL0 : L[0]? = some c := by rw [← hL]; rfl
  have hL1 : L[1]? = some 40 := by rw [← hL]; rfl
  rcases Nat.lt_or_ge i 2 with hi | hi
  · have : i = 0 ∨ i = 1 := by omega
    rcases this with e | e
    · subst e
      rw [hL0] at g0; rw [show 0 + 1 = 1 from rfl, hL1] at g1
      exact hc ((Option.some.inj g0).trans (Option.some.inj g1).symm)
    · subst e
      rw [hL1] at g0
      have := hA 0 (by omega)
      rw [show 0 + 2 = 1 + 1 from rfl, g1] at this
      exact (hdd 0 x this.symm).1 (Option.some.inj g0).symm
  · rcases Nat.lt_trichotomy i (ds.length + 2) with hlt | he | hgt
    · have ha := hA (i - 2) (by omega)
      rw [show i - 2 + 2 = i by omega, g0] at ha
      have hx := hdd (i - 2) x ha.symm
      have : ds.length + 2 = i + 1 ∨ ds.length + 2 = i + 2 ∨ ds.length + 2 = i + 3 := by omega
      rcases this with e | e | e <;> rw [e] at hB
      · rw [g1] at hB; exact hx.2 (Option.some.inj hB)
      · rw [g2] at hB; exact hx.2 (Option.some.inj hB)
      · rw [g3] at hB; exact hx.2 (Option.some.inj hB)
    · rw [he, hB] at g0
      have := hC 0
      rw [show ds.length + 3 + 0 = i + 1 by omega, g1, ← g0] at this
      apply ht
      rw [List.head?_eq_getElem?]; exact this.symm
    · have e : ∀ j, L[i + j]? = t[i - (ds.length + 3) + j]? := fun j => by rw [← hC, show ds.length + 3 + (i - (ds.length + 3) + j) = i + j by omega]
      exact h (i - (ds.length + 3)) x ⟨by rw [← g0]; exact (e 0).symm, by rw [← g1]; exact (e 1).symm, by rw [← g2]; exact (e 2).symm, by rw [← g3]; exact (e 3).symm, by rw [← g4]; exact (e 4).symm⟩
theorem short_five (p : List UInt8) (hp : p.all isSym = true) (hl : p.length ≤ 256) : noFive (shoL p) := by
  obtain ⟨n, hn⟩ : ∃ n, n = p.length := ⟨_, rfl⟩
  induction n using Nat.strongRecOn generalizing p with
  | _ n ih =>
    cases p with
    | nil => intro i x h; simp [shoL, runs] at h
    | cons c r =>
      have hs := shoL_lead c r
      obtain ⟨h1, h2⟩ := leadN_split c (c :: r)
      have hlt := drop_lt c r
      have hml := leadN_le (· == c) (c :: r)
      generalize hm : leadN (· == c) (c :: r) = m at *
      generalize hq : (c :: r).drop m = q at *
      have hqs : q.all isSym = true := by
        rw [List.all_eq_true] at hp ⊢
        intro x hx
        exact hp x (List.mem_of_mem_drop (hq ▸ hx))
      have hcs : isSym c = true := by simp only [List.all_cons, Bool.and_eq_true] at hp; exact hp.1
      have hi := ih q.length (by omega) q hqs (by omega) rfl
      rw [hs]
      unfold piece
      simp only []
      split
      · exact noFive_rep c m _ (by assumption) (by rw [shoL_head]; exact h2) hi
      · rw [show (c :: 40 :: (Lib.decDigits m ++ [41])) ++ shoL q = c :: 40 :: (Lib.decDigits m ++ 41 :: shoL q) by simp]
        refine noFive_num c _ _ (sym40 c hcs).1 ?_ ?_ (decDigits_dig m) (by rw [shoL_head]; exact (sym_head q hqs).2) hi
        · rw [decDigits_len]; exact Lib.nDigits_pos m
        · rw [decDigits_len]; exact nd_le 2 m (by omega)
/-- what a run costs -/
def cost (n : Nat) : Nat := if n < 5 then n else 3 + Lib.nDigits n
theorem piece_len (c : UInt8) (n : Nat) : (piece (c, n)).length = cost n := by
  unfold piece cost
  simp only []
  split
  · rw [List.length_replicate]
  · simp [decDigits_len]; omega
theorem nd_add (a b : Nat) (h : b ≤ a) : Lib.nDigits (a + b) ≤ Lib.nDigits a + 1 := by
  have h1 := Lib.lt_pow_nDigits a
  refine nd_le (Lib.nDigits a) (a + b) ?_
  rw [Nat.pow_succ]; omega
theorem cost_add (a b : Nat) : cost (a + b) ≤ cost a + cost b := by
  suffices H : ∀ a b, b ≤ a → cost (a + b) ≤ cost a + cost b by
    rcases Nat.le_total b a with h | h
    · exact H a b h
    · rw [Nat.add_comm a b, Nat.add_comm (cost a)]; exact H b a h
  intro a b h
  unfold cost
  have h1 := nd_add a b h
  have h2 := Lib.nDigits_pos a
  have h3 := Lib.nDigits_pos b
  by_cases ha : a < 5
  · rw [if_pos ha, if_pos (show b < 5 by omega)]
    split
    · exact Nat.le_refl _
    · rw [Lib.nDigits_small (by omega)]; omega
  · rw [if_neg ha, if_neg (show ¬ a + b < 5 by omega)]
    by_cases hb : b = 0
    · subst hb; simp
    · split <;> omega
theorem shoL_add (c : UInt8) (m : Nat) (q : List UInt8) : (shoL (List.replicate m c ++ q)).length ≤ cost m + (shoL q).length := by
  cases m with
  | zero => simp
  | succ m =>
    unfold shoL
    rw [runs_rep]
    cases hq : runs q with
    | nil => simp [piece_len]
    | cons x u =>
      obtain ⟨d, n⟩ := x
      simp only []
      split
      · simp only [List.flatMap_cons, List.length_append, piece_len]
        have := cost_add n (m + 1)
        omega
      · simp only [List.flatMap_cons, List.length_append, piece_len]; omega
/-- a zero in front of a number -/
def zeroB (l : List UInt8) : Prop := ∃ i : Nat, l[i]? = some 40 ∧ l[i + 1]? = some 48
theorem natF_ge (a : UInt8) (l : List UInt8) (ha : 49 ≤ a.toNat) : 10 ^ l.length ≤ natF (a :: l) := by
  suffices H : ∀ r : List UInt8, 10 ^ r.length ≤ natF (a :: r.reverse) by
    have := H l.reverse
    simpa using this
  intro r
  induction r with
  | nil => show 1 ≤ 0 * 10 + (a.toNat - 48); omega
  | cons c r ih =>
    rw [List.reverse_cons, ← List.cons_append, natF_snoc, List.length_cons, Nat.pow_succ]
    omega
theorem short_len (f : Nat) (l p : List UInt8) (hf : l.length ≤ f) (h : flatG f l = some p) (hz : ¬ zeroB l) : (shoL p).length ≤ l.length := by
  induction f generalizing l p with
  | zero => simp [flatG] at h; subst h; simp [shoL, runs]
  | succ f ih =>
    cases l with
    | nil => simp [flatG] at h; subst h; simp [shoL, runs]
    | cons c r =>
      unfold flatG at h
      simp only [] at h
      cases hr : repL r with
      | none => rw [hr] at h; simp at h
      | some x =>
        obtain ⟨m, b⟩ := x
        rw [hr] at h
        simp only [] at h
        cases hs : isSym c with
        | false => rw [hs] at h; simp at h
        | true =>
          rw [hs] at h
          simp only [if_true] at h
          cases hg : flatG f b with
          | none => rw [hg] at h; simp at h
          | some q =>
            rw [hg] at h
            simp only [Option.map_some, Option.some.injEq] at h
            have hbl := repL_le r m b hr
            simp only [List.length_cons] at hf ⊢
            have hadd := shoL_add c m q
            rw [h] at hadd
            -- the shape of r
            have key : ∃ a, r = a ++ b ∧ cost m ≤ 1 + a.length := by
              unfold repL at hr
              split at hr
              · simp at hr; obtain ⟨rfl, rfl⟩ := hr; exact ⟨[], rfl, by simp [cost]⟩
              · rename_i c0 r0
                split at hr
                · rename_i hc0
                  split at hr
                  · rename_i h1
                    obtain ⟨h1, h2, h3⟩ := h1
                    simp at hr
                    obtain ⟨h4, h5⟩ := hr
                    obtain ⟨n1, n2, n3⟩ := natL_pos _ h3
                    rcases cut_join r0 41 with ⟨_, hj⟩ | ⟨hj, _⟩
                    · generalize (Lib.cut r0 [41]).1 = a at *
                      generalize (Lib.cut r0 [41]).2.1 = b0 at *
                      subst hc0 h5
                      refine ⟨40 :: (a ++ [41]), by rw [hj]; simp, ?_⟩
                      cases a with
                      | nil => exact absurd rfl n1
                      | cons a0 a1 =>
                        have ha0 : a0 ≠ 48 := fun e => hz ⟨1, rfl, by rw [hj, e]; rfl⟩
                        have hd0 : isDig a0 = true := by simp only [List.all_cons, Bool.and_eq_true] at n2; exact n2.1
                        have h48 : 49 ≤ a0.toNat := by
                          have := (isDig_iff a0).1 hd0
                          rcases Nat.lt_or_ge a0.toNat 49 with hlt | hge
                          · exfalso; apply ha0; apply UInt8.toNat_inj.1; show a0.toNat = 48; omega
                          · exact hge
                        have hge := natF_ge a0 a1 h48
                        have hlt := natF_lt (a0 :: a1) n2
                        have hnd := Lib.nDigits_unique a1.length (natF (a0 :: a1)) hge (by simpa using hlt)
                        rw [← n3, h4] at hnd
                        unfold cost
                        simp only [List.length_cons, List.length_append, List.length_nil]
                        split <;> omega
                    · rw [hj] at h1; cases h1
                  · cases hr
                · simp at hr; obtain ⟨rfl, rfl⟩ := hr; exact ⟨[], rfl, by simp [cost]⟩
            obtain ⟨a, ha, hcost⟩ := key
            have hzb : ¬ zeroB b := fun ⟨i, z1, z2⟩ => hz ⟨1 + a.length + i, by
                rw [ha, show 1 + a.length + i = (a.length + i) + 1 by omega, List.getElem?_cons_succ, List.getElem?_append_right (by omega), show a.length + i - a.length = i by omega]; exact z1, by
                rw [ha, show 1 + a.length + i + 1 = (a.length + (i + 1)) + 1 by omega, List.getElem?_cons_succ, List.getElem?_append_right (by omega), show a.length + (i + 1) - a.length = i + 1 by omega]; exact z2⟩
            have hi := ih b q (by omega) hg hzb
            have hrl : r.length = a.length + b.length := by rw [ha, List.length_append]
            omega
end Pic
end Go.Proofs.YteceealibfemjaaGreatDoor
