/-
  WHAT WRITE LAYS OUT IS READ AGAIN (layer 2, columns). Plain facts on lists.
-/
import Derived.Test.YteceealibfemjaaDoorIgnP
namespace Go.Proofs.YteceealibfemjaaDoor
open Go.RowKit

theorem decDigits_spec (k u : Nat) (h1 : 10 ^ k ≤ u) (h2 : u < 10 ^ (k + 1)) : (Lib.decDigits u).length = k + 1 := by
  induction k generalizing u with
  | zero => rw [Lib.decDigits, dif_pos (by omega)]; rfl
  | succ k ih =>
    have e1 : 10 ^ (k + 1) = 10 * 10 ^ k := by rw [Nat.pow_succ, Nat.mul_comm]
    have e2 : 10 ^ (k + 1 + 1) = 10 * 10 ^ (k + 1) := by rw [Nat.pow_succ, Nat.mul_comm]
    have := Nat.pow_pos (n := k) (show 0 < 10 by omega)
    rw [Lib.decDigits, dif_neg (by omega), List.length_append, ih (u / 10) (by omega) (by omega)]; rfl
theorem decDigits_good (u : Nat) : ∀ c ∈ Lib.decDigits u, badC c = false := by
  induction u using Nat.strongRecOn with
  | _ u ih =>
    have hd : ∀ n, n < 10 → badC (UInt8.ofNat (48 + n)) = false := by decide
    rw [Lib.decDigits]
    split
    · rename_i h
      intro c hc
      rw [List.mem_singleton.1 hc]; exact hd u h
    · rename_i h
      intro c hc
      rcases List.mem_append.1 hc with hc | hc
      · exact ih (u / 10) (by omega) c hc
      · rw [List.mem_singleton.1 hc]; exact hd _ (by omega)
theorem numL_length (n : Nat) : (numL n).length = 6 := by
  unfold numL
  rw [List.length_drop, decDigits_spec 6 _ (by omega) (by omega)]
theorem numL_good (n : Nat) : (numL n).any badC = false := by
  rw [List.any_eq_false]
  intro c hc
  rw [decDigits_good _ c (List.mem_of_mem_drop hc)]; simp
/-- the output lines, without their bytes 10 -/
def linesW : Nat → List (List UInt8 × List UInt8) → List (List UInt8)
  | _, [] => []
  | n, p :: r => (numL (n + 1) ++ p.1 ++ p.2) :: linesW (n + 1) r
theorem ten_bad (l : List UInt8) (h : l.any badC = false) : 10 ∉ l := fun hm => by
  have := (List.any_eq_false.1 h) 10 hm
  revert this; decide
theorem outL_split (n : Nat) (ps : List (List UInt8 × List UInt8)) (h : ∀ p ∈ ps, p.1.any badC = false ∧ p.2.any badC = false) : splitNL (outL n ps) = linesW n ps ++ [[]] := by
  induction ps generalizing n with
  | nil => rfl
  | cons p r ih =>
    have hb : (numL (n + 1) ++ p.1 ++ p.2).any badC = false := by
      rw [List.any_append, List.any_append, numL_good, (h p (by simp)).1, (h p (by simp)).2]; rfl
    have e : outL n (p :: r) = (numL (n + 1) ++ p.1 ++ p.2) ++ 10 :: outL (n + 1) r := by
      simp [outL]
    rw [e, splitNL_app _ _ (ten_bad _ hb), ih (n + 1) (fun q hq => h q (by simp [hq]))]
    rfl
def fA : List UInt8 := [32]
def fB : List UInt8 := [32, 32, 32, 32, 32]
def fM : List UInt8 := [45, 32, 32, 32, 32]
def fQ : List UInt8 := [45, 32, 32, 32, 32, 34]
theorem line_text (N f p : List UInt8) (hN : N.length = 6) (hf : 1 ≤ f.length) (hl : f.length + p.length ≤ 66) :
    textOf (N ++ f ++ p) = f.drop 1 ++ (p ++ List.replicate (66 - f.length - p.length) 32) ∧ markOf (N ++ f ++ p) = f.getD 0 0 := by
  have hp : padL (N ++ f ++ p) = N ++ (f ++ (p ++ List.replicate (66 - f.length - p.length) 32)) := by
    unfold padL
    simp only [List.length_append, List.append_assoc]
    rw [show 72 - (N.length + (f.length + p.length)) = 66 - f.length - p.length by omega]
  constructor
  · unfold textOf
    rw [hp, List.drop_append, List.drop_of_length_le (by omega), List.nil_append, hN, List.drop_append, show 7 - 6 = 1 by omega, show 1 - f.length = 0 by omega, List.drop_zero, List.take_of_length_le]
    simp; omega
  · unfold markOf
    rw [hp, List.getD_eq_getElem?_getD, List.getD_eq_getElem?_getD, List.getElem?_append_right (by omega), hN, List.getElem?_append_left (by omega)]
theorem line_chk (N f p : List UInt8) (n : Int) (hN : N.length = 6) (hNb : N.any badC = false) (hf : f = fA ∨ f = fB ∨ f = fM ∨ f = fQ) (hl : f.length + p.length ≤ 66) (hp : p.any badC = false) : chkL n (N ++ f ++ p) = (0, 0, 0) := by
  have h1 : 1 ≤ f.length := by rcases hf with rfl | rfl | rfl | rfl <;> decide
  have hm := (line_text N f p hN h1 hl).2
  have hok : okM (markOf (N ++ f ++ p)) = true := by rw [hm]; rcases hf with rfl | rfl | rfl | rfl <;> decide
  have hfb : f.any badC = false := by rcases hf with rfl | rfl | rfl | rfl <;> decide
  have hany : (N ++ f ++ p).any badC = false := by rw [List.any_append, List.any_append, hNb, hfb, hp]; rfl
  rw [chk_zero, chk_fst, hany, hok, if_neg (by simp; omega)]; rfl
theorem firstN_app4 (r : List UInt8) (h : r.getD 0 0 ≠ 32) (hr : r ≠ []) : firstN ([32, 32, 32, 32] ++ r) = 4 := by
  cases r with
  | nil => exact absurd rfl hr
  | cons c r =>
    have : c ≠ 32 := by simpa using h
    simp [firstN, this]
theorem firstN_app0 (r : List UInt8) (h : r.getD 0 0 ≠ 32) (hr : r ≠ []) : firstN r = 0 := by
  cases r with
  | nil => exact absurd rfl hr
  | cons c r =>
    have : c ≠ 32 := by simpa using h
    simp [firstN, this]
/-- what a line finds: the finished cards, and the card that it adds to -/
def Ready (st : RSt) (front : List UInt8) (op : Bool) (pre1 : List CardL) (c0 : CardL) : Prop :=
  ((front = fA ∨ front = fB) ∧ op = false ∧ c0 = ⟨decide (front = fA), [], []⟩ ∧ ((st.cur = none ∧ pre1 = []) ∨ ∃ d, st.cur = some d ∧ openL d.text = false ∧ pre1 = st.pre ++ [d])) ∨
  (front = fM ∧ op = false ∧ st.cur = some c0 ∧ openL c0.text = false ∧ pre1 = st.pre) ∨
  (front = fQ ∧ op = true ∧ st.cur = some c0 ∧ openL c0.text = true ∧ pre1 = st.pre)
theorem Ready.op {st : RSt} {front : List UInt8} {op : Bool} {pre1 : List CardL} {c0 : CardL} (h : Ready st front op pre1 c0) : openL c0.text = op := by
  rcases h with ⟨_, h, rfl, _⟩ | ⟨_, h, _, h2, _⟩ | ⟨_, h, _, h2, _⟩
  · rw [h]; rfl
  · rw [h, h2]
  · rw [h, h2]
theorem Ready.front {st : RSt} {front : List UInt8} {op : Bool} {pre1 : List CardL} {c0 : CardL} (h : Ready st front op pre1 c0) : front = fA ∨ front = fB ∨ front = fM ∨ front = fQ := by
  rcases h with ⟨h, _⟩ | ⟨h, _⟩ | ⟨h, _⟩
  · rcases h with h | h
    · exact .inl h
    · exact .inr (.inl h)
  · exact .inr (.inr (.inl h))
  · exact .inr (.inr (.inr h))
theorem counts_of (l : List UInt8) (hm : markOf l = 32 ∨ markOf l = 45) (hf : firstN (textOf l) < 65) : countsL false l = true := by
  unfold countsL
  rw [if_neg (by rcases hm with h | h <;> rw [h] <;> decide), if_neg (by rcases hm with h | h <;> rw [h] <;> decide), decide_eq_true hf]
theorem ready_step (st : RSt) (front : List UInt8) (op : Bool) (pre1 : List CardL) (c0 : CardL) (h : Ready st front op pre1 c0) (N p : List UInt8) (n : Int) (hN : N.length = 6) (hNb : N.any badC = false)
    (hp : p ≠ []) (hp0 : front ≠ fQ → p.getD 0 0 ≠ 32) (hb : p.any badC = false) (hl : front.length + p.length ≤ 66) :
    ∃ ln' co' ln co, stepL false st n (N ++ front ++ p) = .ok ⟨pre1, some (addC c0 (tailL (p ++ List.replicate (66 - front.length - p.length) 32) c0.text) ln' co'), ln, co⟩ := by
  have hf := h.front
  have h1 : 1 ≤ front.length := by rcases hf with rfl | rfl | rfl | rfl <;> decide
  obtain ⟨ht, hm⟩ := line_text N front p hN h1 hl
  have hchk := line_chk N front p n hN hNb hf hl hb
  have hm2 : markOf (N ++ front ++ p) = 32 ∨ markOf (N ++ front ++ p) = 45 := by rw [hm]; rcases hf with rfl | rfl | rfl | rfl <;> decide
  obtain ⟨R, hR⟩ : ∃ R, R = p ++ List.replicate (66 - front.length - p.length) (32 : UInt8) := ⟨_, rfl⟩
  have hRne : R ≠ [] := by rw [hR]; simp [hp]
  have hR0 : front ≠ fQ → R.getD 0 0 ≠ 32 := fun hq => by
    have := hp0 hq
    rw [hR]
    cases p with
    | nil => exact absurd rfl hp
    | cons c p => simpa using this
  rw [← hR] at ht ⊢
  have step : ∀ k, firstN (textOf (N ++ front ++ p)) = k → k < 65 → stepL false st n (N ++ front ++ p) = takeL st n (N ++ front ++ p) := fun k hk hk65 => by
    unfold stepL
    rw [if_pos hchk, if_pos (counts_of _ hm2 (by omega))]
  generalize N ++ front ++ p = L at *
  rcases h with ⟨hab, hop, rfl, hc⟩ | ⟨rfl, hop, hc, hcl, rfl⟩ | ⟨rfl, hop, hc, hcl, rfl⟩
  · have hk : ∃ k, firstN (textOf L) = k ∧ (textOf L).drop k = R ∧ decide (k < 4) = decide (front = fA) ∧ k < 65 := by
      rcases hab with rfl | rfl
      · refine ⟨0, ?_, ?_, by decide, by omega⟩
        · rw [ht]; exact firstN_app0 R (hR0 (by decide)) hRne
        · rw [ht]; rfl
      · refine ⟨4, ?_, ?_, by decide, by omega⟩
        · rw [ht]; exact firstN_app4 R (hR0 (by decide)) hRne
        · rw [ht]; rfl
    obtain ⟨k, hk, hd, hl, hk65⟩ := hk
    have hcont : contL L = false := by
      unfold contL; rw [hm]; rcases hab with rfl | rfl <;> decide
    rw [step k hk hk65]
    unfold takeL
    rcases hc with ⟨hc, rfl⟩ | ⟨d, hc, hcl, rfl⟩
    · rw [hc]
      simp only [hcont, hk, hd, hl, Bool.false_eq_true, if_false]
      exact ⟨_, _, _, _, rfl⟩
    · rw [hc]
      simp only [hcont, hk, hd, hl, hcl, Bool.false_eq_true, if_false]
      exact ⟨_, _, _, _, rfl⟩
  · have hk : firstN (textOf L) = 4 := by rw [ht]; exact firstN_app4 R (hR0 (by decide)) hRne
    have hd : (textOf L).drop 4 = R := by rw [ht]; rfl
    have hcont : contL L = true := by unfold contL; rw [hm]; decide
    rw [step 4 hk (by omega)]
    unfold takeL
    rw [hc]
    simp only [hcont, hk, hd, hcl, if_true]
    rw [if_neg (by simp)]
    exact ⟨_, _, _, _, rfl⟩
  · have hk : firstN (textOf L) = 4 := by rw [ht]; exact firstN_app4 (34 :: R) (by simp) (by simp)
    have hd : (textOf L).drop (4 + 1) = R := by rw [ht]; rfl
    have h34 : (textOf L).getD 4 0 = 34 := by rw [ht]; rfl
    have hcont : contL L = true := by unfold contL; rw [hm]; decide
    rw [step 4 hk (by omega)]
    unfold takeL
    rw [hc]
    simp only [hcont, hk, hd, hcl, if_true]
    rw [if_neg (fun e => by rcases e with e | e; exact absurd e (by omega); exact e.2 h34)]
    exact ⟨_, _, _, _, rfl⟩
/-- the texts of cards, each with a space behind it -/
def preT (cs : List CardL) : List UInt8 := cs.flatMap fun c => c.text ++ [32]
theorem preT_snoc (cs : List CardL) (c : CardL) : preT (cs ++ [c]) = preT cs ++ (c.text ++ [32]) := by simp [preT]
theorem sqz_sp (n : Nat) (Y : List UInt8) : sqz true false (List.replicate n 32 ++ Y) = sqz true false Y := by
  induction n with
  | zero => rfl
  | succ n ih => rw [List.replicate_succ, List.cons_append, sqz, if_pos ⟨rfl, rfl, rfl⟩, ih]
theorem sqz_spaces (X : List UInt8) (n : Nat) (Y : List UInt8) (sp q : Bool) (h : (q != openL X) = false) : sqz sp q (X ++ (List.replicate (n + 1) 32 ++ Y)) = sqz sp q (X ++ (32 :: Y)) := by
  induction X generalizing sp q with
  | nil =>
    obtain rfl : q = false := by simpa [openL] using h
    rw [List.replicate_succ, List.cons_append, List.nil_append, List.nil_append, sqz, sqz]
    cases sp
    · rw [if_neg (by simp), if_neg (by simp)]
      simp only [beq_self_eq_true]
      rw [sqz_sp n]; rfl
    · rw [if_pos ⟨rfl, rfl, rfl⟩, if_pos ⟨rfl, rfl, rfl⟩, sqz_sp n]
  | cons c X ih =>
    have hx : openL (c :: X) = ((c == 34) != openL X) := by
      have := openL_append [c] X
      rw [openL_one] at this
      exact this
    rw [hx] at h
    rw [List.cons_append, List.cons_append, sqz, sqz]
    by_cases hc : c = 34
    · subst hc
      have h' : ((!q) != openL X) = false := by
        revert h; cases q <;> cases openL X <;> decide
      have e34 : ¬ ((34 : UInt8) = 32 ∧ q = false ∧ sp = true) := fun e => absurd e.1 (by decide)
      rw [if_neg e34, if_neg e34, if_pos rfl, ih _ _ h']
    · have e : (c == 34) = false := by rw [beq_eq_false_iff_ne]; exact hc
      have h' : (q != openL X) = false := by
        rw [e] at h; revert h; cases q <;> cases openL X <;> decide
      rw [if_neg hc, ih _ _ h', ih _ _ h']
theorem openL_preT_snoc (cs : List CardL) (c : CardL) : openL (preT (cs ++ [c])) = (openL (preT cs) != openL c.text) := by
  rw [preT_snoc, openL_append, openL_append]
  have : openL [32] = false := by decide
  rw [this]; simp
/-- the last byte of a text -/
theorem endL_same (p : List UInt8) (h : p ≠ []) (hl : p.getD (p.length - 1) 0 ≠ 32) : endL p = p := by
  obtain ⟨a, c, rfl⟩ : ∃ a c, p = a ++ [c] := ⟨p.dropLast, p.getLast h, (List.dropLast_concat_getLast h).symm⟩
  have : c ≠ 32 := by
    simpa [List.getD_eq_getElem?_getD] using hl
  exact endL_other a c this
theorem divK_some (l : List UInt8) (op : Bool) (k j : Nat) (h : divK l op k = some j) : 0 < j ∧ j ≤ k ∧ j < l.length ∧ l.getD j 0 = 32 ∧ openL (l.take j) = op := by
  induction k with
  | zero => simp [divK] at h
  | succ k ih =>
    rw [divK] at h
    split at h
    · rename_i hc
      injection h with h; subst h
      exact ⟨by omega, by omega, hc.1, hc.2.1, hc.2.2⟩
    · have := ih h
      exact ⟨this.1, by omega, this.2.2⟩
theorem divK_none (l : List UInt8) (op : Bool) (k j : Nat) (h : divK l op k = none) (h0 : 0 < j) (hj : j ≤ k) (hl : j < l.length) (hs : l.getD j 0 = 32) : openL (l.take j) ≠ op := by
  induction k with
  | zero => omega
  | succ k ih =>
    rw [divK] at h
    split at h
    · cases h
    · rename_i hc
      by_cases e : j = k + 1
      · subst e
        intro ho
        exact hc ⟨hl, hs, ho⟩
      · exact ih h (by omega)
theorem trimB_split (l : List UInt8) : ∃ n, l = List.replicate n 32 ++ Lib.trimLeftB l 32 := by
  induction l with
  | nil => exact ⟨0, rfl⟩
  | cons c r ih =>
    unfold Lib.trimLeftB at ih ⊢
    by_cases hc : c = 32
    · obtain ⟨n, hn⟩ := ih
      refine ⟨n + 1, ?_⟩
      rw [List.dropWhile_cons_of_pos (by simpa using hc), List.replicate_succ, List.cons_append, ← hn, hc]
    · exact ⟨0, by rw [List.dropWhile_cons_of_neg (by simpa using hc)]; rfl⟩
theorem trimB_head (l : List UInt8) (h : Lib.trimLeftB l 32 ≠ []) : (Lib.trimLeftB l 32).getD 0 0 ≠ 32 := by
  induction l with
  | nil => exact absurd rfl h
  | cons c r ih =>
    unfold Lib.trimLeftB at *
    by_cases hc : c = 32
    · rw [List.dropWhile_cons_of_pos (by simpa using hc)] at h ⊢
      exact ih h
    · rw [List.dropWhile_cons_of_neg (by simpa using hc)]
      simpa using hc
/-- what a rest is -/
structure RestOk (front rest : List UInt8) (op : Bool) : Prop where
  ne : rest ≠ []
  last : rest.getD (rest.length - 1) 0 ≠ 32
  good : rest.any badC = false
  shut : (op != openL rest) = false
  head : front ≠ fQ → rest.getD 0 0 ≠ 32
theorem any_take (l : List UInt8) (k : Nat) (h : l.any badC = false) : (l.take k).any badC = false := by
  rw [List.any_eq_false] at *
  exact fun x hx => h x (List.mem_of_mem_take hx)
theorem any_drop (l : List UInt8) (k : Nat) (h : l.any badC = false) : (l.drop k).any badC = false := by
  rw [List.any_eq_false] at *
  exact fun x hx => h x (List.mem_of_mem_drop hx)
theorem last_drop (l : List UInt8) (k : Nat) (h : k < l.length) : (l.drop k).getD ((l.drop k).length - 1) 0 = l.getD (l.length - 1) 0 := by
  rw [List.getD_eq_getElem?_getD, List.getD_eq_getElem?_getD, List.getElem?_drop, List.length_drop, show k + (l.length - k - 1) = l.length - 1 by omega]
theorem shut_drop (l : List UInt8) (k : Nat) (op : Bool) (h : (op != openL l) = false) : ((op != openL (l.take k)) != openL (l.drop k)) = false := by
  have := openL_append (l.take k) (l.drop k)
  rw [List.take_append_drop] at this
  rw [this] at h
  revert h
  cases op <;> cases openL (l.take k) <;> cases openL (l.drop k) <;> decide
/-- what a division leaves -/
theorem rest_next (front rest : List UInt8) (op : Bool) (h : RestOk front rest op) (room : Nat) (h1 : 2 ≤ room) (hlt : room < rest.length) (k : Nat) (hk : k = divN rest room op) (op' : Bool) (hop : op' = (op != openL (rest.take k))) :
    0 < k ∧ k ≤ room ∧ RestOk (followL (rest.drop k) op').1 (followL (rest.drop k) op').2 op' ∧
    ((op' = true ∧ k = room ∧ followL (rest.drop k) op' = (fQ, rest.drop k)) ∨
     (op' = false ∧ k = room ∧ followL (rest.drop k) op' = (fM, rest.drop k) ∧ endL (rest.take k) = rest.take k) ∨
     (op' = false ∧ followL (rest.drop k) op' = (fB, Lib.trimLeftB (rest.drop k) 32) ∧ ∃ n m, rest.take k = endL (rest.take k) ++ List.replicate n 32 ∧ rest.drop k = List.replicate (m + 1) 32 ++ Lib.trimLeftB (rest.drop k) 32)) := by
  obtain ⟨hk0, hkr⟩ := divN_pos rest room op (by omega)
  rw [← hk] at hk0 hkr
  have hdl : (rest.drop k).length = rest.length - k := List.length_drop
  have hdne : rest.drop k ≠ [] := List.length_pos_iff.1 (by omega)
  have hlast := last_drop rest k (by omega)
  have hshut := shut_drop rest k op h.shut
  rw [← hop] at hshut
  have hgood := any_drop rest k h.good
  have hd0 : (rest.drop k).getD 0 0 = rest.getD k 0 := by
    rw [List.getD_eq_getElem?_getD, List.getD_eq_getElem?_getD, List.getElem?_drop, Nat.add_zero]
  refine ⟨hk0, hkr, ?_⟩
  cases hd : divK rest op room with
  | some j =>
    have hkj : k = j := by rw [hk]; unfold divN; rw [hd]; rfl
    obtain ⟨_, _, hjl, hj32, hjo⟩ := divK_some rest op room j hd
    rw [← hkj] at hjl hj32 hjo
    have hop' : op' = false := by rw [hop, hjo]; cases op <;> rfl
    subst hop'
    have hf : followL (rest.drop k) false = (fB, Lib.trimLeftB (rest.drop k) 32) := by
      unfold followL; rw [if_neg (by simp), if_pos (by rw [hd0]; exact hj32)]; rfl
    obtain ⟨m, hm⟩ := trimB_split (rest.drop k)
    have hm1 : ∃ m', m = m' + 1 := by
      cases m with
      | zero =>
        exfalso
        rw [List.replicate_zero, List.nil_append] at hm
        have := trimB_head (rest.drop k) (by rw [← hm]; exact hdne)
        rw [← hm, hd0] at this
        exact this hj32
      | succ m => exact ⟨m, rfl⟩
    obtain ⟨m, rfl⟩ := hm1
    have htne : Lib.trimLeftB (rest.drop k) 32 ≠ [] := by
      intro e
      rw [e, List.append_nil] at hm
      have hl := hlast
      rw [hm] at hl
      rw [show (List.replicate (m + 1) (32 : UInt8)).length - 1 = m by simp, List.getD_eq_getElem?_getD, List.getElem?_replicate, if_pos (by omega)] at hl
      exact h.last hl.symm
    have hts : ∃ j, j < (rest.drop k).length ∧ Lib.trimLeftB (rest.drop k) 32 = (rest.drop k).drop j := by
      refine ⟨m + 1, ?_, ?_⟩
      · have := congrArg List.length hm
        have h0 := List.length_pos_iff.2 htne
        rw [List.length_append, List.length_replicate] at this; omega
      · conv => rhs; rw [hm]
        exact (List.drop_left' (by simp)).symm
    obtain ⟨j2, hj2, hts⟩ := hts
    have hsh2 : (false != openL (Lib.trimLeftB (rest.drop k) 32)) = false := by
      rw [hm, openL_append, openL_spaces] at hshut
      revert hshut
      cases openL (Lib.trimLeftB (rest.drop k) 32) <;> decide
    refine ⟨?_, .inr (.inr ⟨rfl, hf, ?_⟩)⟩
    · rw [hf]
      refine ⟨htne, ?_, ?_, hsh2, fun _ => trimB_head _ htne⟩
      · simp only
        rw [hts, last_drop _ _ hj2, hlast]; exact h.last
      · simp only
        rw [hts]; exact any_drop _ _ hgood
    · obtain ⟨n, hn⟩ := endL_split (rest.take k)
      exact ⟨n, m, hn, hm⟩
  | none =>
    have hkr' : k = room := by rw [hk]; unfold divN; rw [hd]; rfl
    cases hop' : op' with
    | true =>
      subst hop'
      have hf : followL (rest.drop k) true = (fQ, rest.drop k) := by unfold followL; rw [if_pos rfl]; rfl
      refine ⟨?_, .inl ⟨rfl, hkr', hf⟩⟩
      rw [hf]
      exact ⟨hdne, by simp only; rw [hlast]; exact h.last, hgood, hshut, fun e => absurd rfl e⟩
    | false =>
      subst hop'
      have hto : openL (rest.take k) = op := by
        revert hop; cases op <;> cases openL (rest.take k) <;> decide
      have hnk : rest.getD k 0 ≠ 32 := fun e => divK_none rest op room k hd hk0 hkr (by omega) e hto
      have hf : followL (rest.drop k) false = (fM, rest.drop k) := by unfold followL; rw [if_neg (by simp), if_neg (by rw [hd0]; exact hnk)]; rfl
      refine ⟨?_, .inr (.inl ⟨rfl, hkr', hf, ?_⟩)⟩
      · rw [hf]
        exact ⟨hdne, by simp only; rw [hlast]; exact h.last, hgood, hshut, fun _ => hd0 ▸ hnk⟩
      · have htl : (rest.take k).length = k := by rw [List.length_take]; omega
        refine endL_same _ (List.length_pos_iff.1 (by omega)) ?_
        rw [htl, List.getD_eq_getElem?_getD, List.getElem?_take, if_pos (by omega), ← List.getD_eq_getElem?_getD]
        intro e
        have := divK_none rest op room (k - 1) hd (by omega) (by omega) (by omega) e
        refine this ?_
        rw [← hto]
        have hs := openL_snoc rest (k - 1) (by omega)
        rw [show k - 1 + 1 = k by omega, e] at hs
        rw [hs]
        cases openL (rest.take (k - 1)) <;> rfl
theorem tail_pad_shut (p t : List UInt8) (n : Nat) (h : openL (t ++ p) = false) : tailL (p ++ List.replicate n 32) t = endL p := by
  unfold tailL
  have : openL (t ++ (p ++ List.replicate n 32)) = false := by
    rw [← List.append_assoc, openL_append, openL_spaces, h]; rfl
  rw [this, endL_spaces]; rfl
theorem tail_open (p t : List UInt8) (h : openL (t ++ p) = true) : tailL (p ++ List.replicate 0 32) t = p := by
  unfold tailL
  rw [List.replicate_zero, List.append_nil, if_pos h]
set_option maxHeartbeats 1000000 in
theorem run_pieces (m : Nat) : ∀ (rest front : List UInt8) (op : Bool) (st : RSt) (pre1 : List CardL) (c0 : CardL) (n : Nat), rest.length ≤ m → Ready st front op pre1 c0 → openL (preT pre1) = false → RestOk front rest op →
    ∃ st' c', runL false st n (linesW n (piecesL front rest op)) = .ok st' ∧ st'.cur = some c' ∧ openL c'.text = false ∧ squeezeL (preT st'.pre ++ c'.text) = squeezeL (preT pre1 ++ c0.text ++ rest) ∧
      ∃ j, (st'.pre ++ [c']).map (·.left) = (pre1 ++ [c0]).map (·.left) ++ List.replicate j false := by
  induction m with
  | zero =>
    intro rest front op st pre1 c0 n hm hr hp ho
    exact absurd (List.eq_nil_of_length_eq_zero (by omega)) ho.ne
  | succ m ih =>
    intro rest front op st pre1 c0 n hm hr hp ho
    have hf := hr.front
    have hop := hr.op
    have hf6 : 1 ≤ front.length ∧ front.length ≤ 6 := by rcases hf with rfl | rfl | rfl | rfl <;> decide
    by_cases hl : rest.length ≤ 66 - front.length
    · rw [pieces_last _ _ _ hl]
      obtain ⟨ln', co', ln, co, hs⟩ := ready_step st front op pre1 c0 hr (numL (n + 1)) rest ((n + 1 : Nat) : Int) (numL_length _) (numL_good _) ho.ne ho.head ho.good (by omega)
      have hsh : openL (c0.text ++ rest) = false := by rw [openL_append, hop]; exact ho.shut
      rw [tail_pad_shut rest c0.text _ hsh, endL_same rest ho.ne ho.last] at hs
      refine ⟨⟨pre1, some (addC c0 rest ln' co'), ln, co⟩, addC c0 rest ln' co', ?_, rfl, ?_, ?_, 0, ?_⟩
      · simp only [linesW, runL]
        rw [hs]
      · rw [(addC_sizes _ _ _ _).1]; exact hsh
      · rw [(addC_sizes _ _ _ _).1]
        simp only [List.append_assoc]
      · simp [addC]
    · rw [pieces_more _ _ _ hl hf6.2]
      obtain ⟨k, hk⟩ : ∃ k, k = divN rest (66 - front.length) op := ⟨_, rfl⟩
      obtain ⟨op', hop'⟩ : ∃ o, o = (op != openL (rest.take k)) := ⟨_, rfl⟩
      obtain ⟨hk0, hkr, hok, hcase⟩ := rest_next front rest op ho (66 - front.length) (by omega) (by omega) k hk op' hop'
      rw [← hk, ← hop']
      have hpl : (rest.take k).length = k := by rw [List.length_take]; omega
      have hp0 : (rest.take k).getD 0 0 = rest.getD 0 0 := by rw [List.getD_eq_getElem?_getD, List.getD_eq_getElem?_getD, List.getElem?_take, if_pos hk0]
      obtain ⟨ln', co', ln, co, hs⟩ := ready_step st front op pre1 c0 hr (numL (n + 1)) (rest.take k) ((n + 1 : Nat) : Int) (numL_length _) (numL_good _) (List.length_pos_iff.1 (by omega)) (fun hq => by rw [hp0]; exact ho.head hq) (any_take _ _ ho.good) (by omega)
      have hsh : openL (c0.text ++ rest.take k) = op' := by rw [openL_append, hop, hop']
      have htd := List.take_append_drop k rest
      have hsmall : (rest.drop k).length ≤ m := by rw [List.length_drop]; omega
      rcases hcase with ⟨e1, e2, e3⟩ | ⟨e1, e2, e3, e4⟩ | ⟨e1, e3, n1, m1, e4, e5⟩
      · rw [show 66 - front.length - (rest.take k).length = 0 by omega, tail_open _ _ (hsh.trans e1)] at hs
        rw [e3] at hok ⊢
        obtain ⟨c1, hc1⟩ : ∃ c1, c1 = addC c0 (rest.take k) ln' co' := ⟨_, rfl⟩
        have ht1 : c1.text = c0.text ++ rest.take k := by rw [hc1]; exact (addC_sizes _ _ _ _).1
        have hl1 : c1.left = c0.left := by rw [hc1]; rfl
        rw [← hc1] at hs
        obtain ⟨st', c', h1, h2, h3, h4, j, h5⟩ := ih (rest.drop k) fQ op' ⟨pre1, some c1, ln, co⟩ pre1 c1 (n + 1) hsmall (.inr (.inr ⟨rfl, e1, rfl, by rw [ht1, hsh, e1], rfl⟩)) hp hok
        refine ⟨st', c', ?_, h2, h3, ?_, j, ?_⟩
        · simp only [linesW, runL]
          rw [hs]; exact h1
        · rw [h4, ht1]
          conv => rhs; rw [← htd]
          simp only [List.append_assoc]
        · rw [h5]; simp [hl1]
      · rw [tail_pad_shut _ _ _ (hsh.trans e1), e4] at hs
        rw [e3] at hok ⊢
        obtain ⟨c1, hc1⟩ : ∃ c1, c1 = addC c0 (rest.take k) ln' co' := ⟨_, rfl⟩
        have ht1 : c1.text = c0.text ++ rest.take k := by rw [hc1]; exact (addC_sizes _ _ _ _).1
        have hl1 : c1.left = c0.left := by rw [hc1]; rfl
        rw [← hc1] at hs
        obtain ⟨st', c', h1, h2, h3, h4, j, h5⟩ := ih (rest.drop k) fM op' ⟨pre1, some c1, ln, co⟩ pre1 c1 (n + 1) hsmall (.inr (.inl ⟨rfl, e1, rfl, by rw [ht1, hsh, e1], rfl⟩)) hp hok
        refine ⟨st', c', ?_, h2, h3, ?_, j, ?_⟩
        · simp only [linesW, runL]
          rw [hs]; exact h1
        · rw [h4, ht1]
          conv => rhs; rw [← htd]
          simp only [List.append_assoc]
        · rw [h5]; simp [hl1]
      · rw [tail_pad_shut _ _ _ (hsh.trans e1)] at hs
        rw [e3] at hok ⊢
        obtain ⟨c1, hc1⟩ : ∃ c1, c1 = addC c0 (endL (rest.take k)) ln' co' := ⟨_, rfl⟩
        have ht1 : c1.text = c0.text ++ endL (rest.take k) := by rw [hc1]; exact (addC_sizes _ _ _ _).1
        have hl1 : c1.left = c0.left := by rw [hc1]; rfl
        have ho1 : openL c1.text = false := by
          rw [ht1, openL_append, openL_endL, ← openL_append, hsh, e1]
        rw [← hc1] at hs
        obtain ⟨st', c', h1, h2, h3, h4, j, h5⟩ := ih (Lib.trimLeftB (rest.drop k) 32) fB op' ⟨pre1, some c1, ln, co⟩ (pre1 ++ [c1]) ⟨false, [], []⟩ (n + 1)
          (Nat.le_trans (trimLeftB_le _ _) hsmall) (.inl ⟨.inr rfl, e1, rfl, .inr ⟨c1, rfl, ho1, rfl⟩⟩) (by rw [openL_preT_snoc, hp, ho1]; rfl) hok
        refine ⟨st', c', ?_, h2, h3, ?_, j + 1, ?_⟩
        · simp only [linesW, runL]
          rw [hs]; exact h1
        · rw [h4, preT_snoc, ht1]
          have e8 : rest = endL (rest.take k) ++ List.replicate n1 32 ++ (List.replicate (m1 + 1) 32 ++ Lib.trimLeftB (rest.drop k) 32) := by rw [← e4, ← e5]; exact htd.symm
          generalize endL (rest.take k) = E at *
          generalize Lib.trimLeftB (rest.drop k) 32 = Tm at *
          have e6 : preT pre1 ++ c0.text ++ rest = (preT pre1 ++ (c0.text ++ E)) ++ (List.replicate (n1 + m1 + 1) 32 ++ Tm) := by
            have er : List.replicate (n1 + m1 + 1) (32 : UInt8) = List.replicate n1 32 ++ List.replicate (m1 + 1) 32 := by rw [List.replicate_append_replicate]; rfl
            rw [e8, er]
            simp only [List.append_assoc]
          have e7 : preT pre1 ++ (c0.text ++ E ++ [32]) ++ [] ++ Tm = (preT pre1 ++ (c0.text ++ E)) ++ (32 :: Tm) := by simp
          rw [e6, e7]
          unfold squeezeL
          refine (sqz_spaces _ _ _ _ _ ?_).symm
          rw [openL_append, hp, ← ht1, ho1]; rfl
        · rw [h5]; simp [hl1, List.replicate_succ]
theorem frontL_eq (left : Bool) : (frontL left = fA ∨ frontL left = fB) ∧ decide (frontL left = fA) = left := by cases left <;> decide
theorem right_rest (l : List UInt8) (left : Bool) (h : rightL l = true) : RestOk (frontL left) l false := by
  unfold rightL at h
  simp only [Bool.and_eq_true, decide_eq_true_eq, Bool.not_eq_true'] at h
  obtain ⟨h1, h2, h3, h4, h5⟩ := h
  refine ⟨List.length_pos_iff.1 h2, by simpa using h4, ?_, by rw [h5]; rfl, fun _ => by simpa using h3⟩
  have : ¬ badN l < l.length := by omega
  rw [badN_any] at this
  simpa using this
/-- each piece and what stands in front of it -/
theorem pieces_good (m : Nat) : ∀ (rest front : List UInt8) (op : Bool), rest.length ≤ m → (front = fA ∨ front = fB ∨ front = fM ∨ front = fQ) → RestOk front rest op → ∀ p ∈ piecesL front rest op,
    (p.1 = fA ∨ p.1 = fB ∨ p.1 = fM ∨ p.1 = fQ) ∧ p.2.any badC = false ∧ 1 ≤ p.2.length ∧ p.1.length + p.2.length ≤ 66 := by
  induction m with
  | zero =>
    intro rest front op hm hf ho
    exact absurd (List.eq_nil_of_length_eq_zero (by omega)) ho.ne
  | succ m ih =>
    intro rest front op hm hf ho p hp
    have hf6 : 1 ≤ front.length ∧ front.length ≤ 6 := by rcases hf with rfl | rfl | rfl | rfl <;> decide
    have hr0 : 0 < rest.length := List.length_pos_iff.2 ho.ne
    by_cases hl : rest.length ≤ 66 - front.length
    · rw [pieces_last _ _ _ hl] at hp
      rw [List.mem_singleton.1 hp]
      exact ⟨hf, ho.good, hr0, by simp only; omega⟩
    · rw [pieces_more _ _ _ hl hf6.2] at hp
      obtain ⟨k, hk⟩ : ∃ k, k = divN rest (66 - front.length) op := ⟨_, rfl⟩
      obtain ⟨op', hop'⟩ : ∃ o, o = (op != openL (rest.take k)) := ⟨_, rfl⟩
      obtain ⟨hk0, hkr, hok, hcase⟩ := rest_next front rest op ho (66 - front.length) (by omega) (by omega) k hk op' hop'
      rw [← hk, ← hop'] at hp
      have hpl : (rest.take k).length = k := by rw [List.length_take]; omega
      have hsmall : (rest.drop k).length ≤ m := by rw [List.length_drop]; omega
      rcases List.mem_cons.1 hp with rfl | hp
      · exact ⟨hf, any_take _ _ ho.good, by simp only; omega, by simp only; omega⟩
      · rcases hcase with ⟨e1, e2, e3⟩ | ⟨e1, e2, e3, e4⟩ | ⟨e1, e3, _⟩
        · rw [e3] at hok hp
          exact ih _ _ _ hsmall (.inr (.inr (.inr rfl))) hok p hp
        · rw [e3] at hok hp
          exact ih _ _ _ hsmall (.inr (.inr (.inl rfl))) hok p hp
        · rw [e3] at hok hp
          exact ih _ _ _ (Nat.le_trans (trimLeftB_le _ _) hsmall) (.inr (.inl rfl)) hok p hp
theorem linesW_len (n : Nat) (ps : List (List UInt8 × List UInt8)) (h : ∀ p ∈ ps, (p.1 = fA ∨ p.1 = fB ∨ p.1 = fM ∨ p.1 = fQ) ∧ p.2.any badC = false ∧ 1 ≤ p.2.length ∧ p.1.length + p.2.length ≤ 66) : ∀ l ∈ linesW n ps, 8 ≤ l.length ∧ l.length ≤ 72 := by
  induction ps generalizing n with
  | nil => intro l hl; simp [linesW] at hl
  | cons p r ih =>
    intro l hl
    simp only [linesW] at hl
    rcases List.mem_cons.1 hl with rfl | hl
    · obtain ⟨h1, h2, h3, h4⟩ := h p (by simp)
      have : 1 ≤ p.1.length := by rcases h1 with e | e | e | e <;> rw [e] <;> decide
      simp only [List.length_append, numL_length]; omega
    · exact ih (n + 1) (fun q hq => h q (by simp [hq])) l hl
/-- THE STAGE'S THEOREM, over lists: what is laid out is read again -/
theorem write_read (l : List UInt8) (left : Bool) (h : rightL l = true) :
    ∃ pre c, readL false (outL 0 (piecesL (frontL left) l false)) = .ok (pre ++ [c]) ∧ squeezeL (preT pre ++ c.text) = squeezeL l ∧ ∃ j, (pre ++ [c]).map (·.left) = left :: List.replicate j false := by
  have ho := right_rest l left h
  obtain ⟨hf, hd⟩ := frontL_eq left
  have hf4 : frontL left = fA ∨ frontL left = fB ∨ frontL left = fM ∨ frontL left = fQ := by
    rcases hf with h | h
    · exact .inl h
    · exact .inr (.inl h)
  obtain ⟨st', c', h1, h2, h3, h4, j, h5⟩ := run_pieces l.length l (frontL left) false .ini [] ⟨decide (frontL left = fA), [], []⟩ 0 (Nat.le_refl _) (.inl ⟨hf, rfl, rfl, .inl ⟨rfl, rfl⟩⟩) rfl ho
  have hg := pieces_good l.length l (frontL left) false (Nat.le_refl _) hf4 ho
  refine ⟨st'.pre, c', ?_, ?_, j, ?_⟩
  · rw [readL_split, outL_split 0 _ (fun p hp => ⟨by rcases (hg p hp).1 with e | e | e | e <;> rw [e] <;> decide, (hg p hp).2.1⟩), runL_append, h1]
    simp only [runL, step_blank]
    unfold endL'
    rw [h2]
    simp only [h3]
    rfl
  · simpa [preT] using h4
  · rw [h5, hd]; rfl
/-- the lines that are laid out -/
theorem write_lines (l : List UInt8) (left : Bool) (h : rightL l = true) : ∃ ls, splitNL (outL 0 (piecesL (frontL left) l false)) = ls ++ [[]] ∧ ∀ x ∈ ls, 8 ≤ x.length ∧ x.length ≤ 72 := by
  have ho := right_rest l left h
  obtain ⟨hf, hd⟩ := frontL_eq left
  have hf4 : frontL left = fA ∨ frontL left = fB ∨ frontL left = fM ∨ frontL left = fQ := by
    rcases hf with h | h
    · exact .inl h
    · exact .inr (.inl h)
  have hg := pieces_good l.length l (frontL left) false (Nat.le_refl _) hf4 ho
  exact ⟨_, outL_split 0 _ (fun p hp => ⟨by rcases (hg p hp).1 with e | e | e | e <;> rw [e] <;> decide, (hg p hp).2.1⟩), linesW_len 0 _ hg⟩
end Go.Proofs.YteceealibfemjaaDoor
