/-
  WHAT THE LAW ColumnsMarks ASKS OF EACH BYTE (layer 2, columns). Plain facts on lists.
-/
import Derived.Test.YtcooailmlmobeaaGreatDoorIgnP
namespace Go.Proofs.YtcooailmlmobeaaGreatDoor
open Go.RowKit

theorem runL_err (debug : Bool) (ls : List (List UInt8)) (f : FaultL) (h : runL debug .ini 0 ls = .error f) : f.1 ≠ 0 := by
  have := run_sim (debug := debug) (fun l => l) ls (fun l _ => ⟨rfl, rfl, fun n n' => by rw [chk_fst, chk_fst]⟩) .ini .ini ⟨rfl, rfl⟩ 0 0
  rw [h] at this
  obtain ⟨g, _, _, h2⟩ := this.error
  exact h2
theorem readT_err (debug : Bool) (l : List UInt8) (f : FaultL) (h : readT debug l = .error f) : f.1 ≠ 0 := by
  unfold readT at h
  split at h
  · injection h with h; subst h; simp
  · unfold readL at h
    cases hr : runL debug .ini 0 ((chunks l).map stripL) with
    | error g =>
      rw [hr] at h
      injection h with h; subst h
      exact runL_err _ _ _ hr
    | ok st =>
      rw [hr] at h
      simp only at h
      unfold endL' at h
      cases hc : st.cur with
      | none => rw [hc] at h; cases h
      | some c =>
        rw [hc] at h
        simp only at h
        split at h
        · injection h with h; subst h; simp
        · cases h
/-- the position before a byte: of the byte before it, in the card before if it is the first -/
def bfP (cs : List CardL) (i k : Nat) : Int × Int :=
  if 0 < k then posL (cs.getD i ⟨false, [], []⟩) ((k - 1 : Nat) : Int)
  else if 0 < i then posL (cs.getD (i - 1) ⟨false, [], []⟩) (((cs.getD (i - 1) ⟨false, [], []⟩).text.length - 1 : Nat) : Int) else (0, 0)
theorem bfP_next (cs : List CardL) (i k : Nat) : bfP cs i (k + 1) = posL (cs.getD i ⟨false, [], []⟩) (k : Int) := by
  unfold bfP; rw [if_pos (by omega), Nat.add_sub_cancel]
theorem bfP_card (cs : List CardL) (i : Nat) : bfP cs (i + 1) 0 = posL (cs.getD i ⟨false, [], []⟩) (((cs.getD i ⟨false, [], []⟩).text.length - 1 : Nat) : Int) := by
  unfold bfP; rw [if_neg (by omega), if_pos (by omega), Nat.add_sub_cancel]
/-- what the law asks of one byte -/
structure ByteOk (ls : List (List UInt8)) (c : CardL) (k : Nat) (b : UInt8) (B P : Int × Int) : Prop where
  l1 : 1 ≤ P.1
  l2 : P.1 ≤ ls.length
  c1 : 8 ≤ P.2
  c2 : P.2 ≤ 72
  lt : ltP B P
  byte : (ls.getD (P.1 - 1).toNat []).getD (P.2 - 1).toNat 32 = b
theorem byte_ok (debug : Bool) (l : List UInt8) (cs : List CardL) (h : readL debug l = .ok cs) (i k : Nat) (hi : i < cs.length) (hk : k < cs[i].text.length) :
    ByteOk (splitNL l) cs[i] k cs[i].text[k] (bfP cs i k) (posL cs[i] (k : Int)) := by
  obtain ⟨hall, hpw⟩ := readL_marks debug l cs h
  obtain ⟨hw, hne⟩ := hall _ (List.getElem_mem hi)
  obtain ⟨h1, h2, h3, h4, h5⟩ := hw.pos k hk
  have hsl := split_le l
  have eg : cs.getD i ⟨false, [], []⟩ = cs[i] := by rw [List.getD_eq_getElem?_getD, List.getElem?_eq_getElem hi]; rfl
  refine ⟨h1, by omega, h3, h4, ?_, ?_⟩
  · by_cases h0 : 0 < k
    · have := hw.asc (k - 1) (by omega)
      unfold bfP
      rw [if_pos h0, eg]
      rw [show k - 1 + 1 = k by omega] at this
      exact this
    · obtain rfl : k = 0 := by omega
      by_cases hi0 : 0 < i
      · have eg2 : cs.getD (i - 1) ⟨false, [], []⟩ = cs[i - 1] := by rw [List.getD_eq_getElem?_getD, List.getElem?_eq_getElem (by omega)]; rfl
        have := List.pairwise_iff_getElem.1 hpw (i - 1) i (by omega) hi (by omega)
        unfold bfP
        rw [if_neg (by omega), if_pos hi0, eg2]
        exact .inl this
      · unfold bfP
        rw [if_neg (by omega), if_neg hi0]
        exact .inl (by simp only; omega)
  · rw [srcB_split] at h5
    exact h5
theorem card_ends (debug : Bool) (l : List UInt8) (cs : List CardL) (h : readL debug l = .ok cs) (i : Nat) (hi : i < cs.length) :
    validL cs[i] = true ∧ 0 < cs[i].text.length ∧ posL cs[i] (cs[i].text.length : Int) = ((bfP cs (i + 1) 0).1, (bfP cs (i + 1) 0).2 + 1) := by
  obtain ⟨hall, hpw⟩ := readL_marks debug l cs h
  obtain ⟨hw, hne⟩ := hall _ (List.getElem_mem hi)
  have eg : cs.getD i ⟨false, [], []⟩ = cs[i] := by rw [List.getD_eq_getElem?_getD, List.getElem?_eq_getElem hi]; rfl
  refine ⟨hw.valid hne, List.length_pos_iff.2 hne, ?_⟩
  rw [bfP_card, eg]
  exact hw.ends hne
theorem splitNL_len (l : List UInt8) : (splitNL l).length ≤ l.length + 1 := by
  induction l with
  | nil => simp [splitNL]
  | cons c r ih =>
    by_cases hc : c = 10
    · subst hc; rw [splitNL_nl]; simp; omega
    · rw [splitNL_cons c r hc]
      have := List.length_pos_iff.2 (splitNL_ne r)
      simp only [List.length_cons, List.length_tail]; omega
theorem bfP_last (cs : List CardL) (i : Nat) (h : 0 < (cs.getD i ⟨false, [], []⟩).text.length) : bfP cs (i + 1) 0 = bfP cs i (cs.getD i ⟨false, [], []⟩).text.length := by
  rw [bfP_card]; unfold bfP; rw [if_pos h]
theorem marks_len (N b : Int) (ms : List MarkL) (h : marksOk N b ms = true) (hb : b < N) : (ms.length : Int) ≤ N - 1 - b := by
  induction ms generalizing b with
  | nil => simp; omega
  | cons m r ih =>
    simp only [marksOk] at h
    split at h
    · cases h
    · split at h
      · cases h
      · split at h
        · have := ih m.1 h (by omega)
          rw [List.length_cons]; omega
        · cases h
theorem card_marks (debug : Bool) (l : List UInt8) (cs : List CardL) (h : readL debug l = .ok cs) (i : Nat) (hi : i < cs.length) : cs[i].marks.length ≤ cs[i].text.length := by
  obtain ⟨hall, hpw⟩ := readL_marks debug l cs h
  obtain ⟨hw, hne⟩ := hall _ (List.getElem_mem hi)
  have := marks_len _ _ _ hw.ok (by omega)
  omega
end Go.Proofs.YtcooailmlmobeaaGreatDoor
