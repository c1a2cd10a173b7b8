/-
  THE EXAMPLES OF THE CHAPTER (layer 2, columns): what Read does with them, as facts on lists; the helper read at them.
-/
import Derived.Test.YteceealibfemjaaDoorHlp
import Derived.Test.YteceealibfemjaaDoorWr2
namespace Go.Proofs.YteceealibfemjaaDoor
open Go.RowKit Go.Shelf

theorem readT_small (debug : Bool) (l : List UInt8) (h : l.length ≤ 1048576) : readT debug l = readL debug l := by unfold readT; rw [if_neg (by omega)]
/-- chunks, with fuel: the kernel can compute it -/
def chunksF : Nat → List UInt8 → List (List UInt8)
  | 0, _ => []
  | n + 1, l => if l.isEmpty then [] else l.take (lineLen l) :: chunksF n (l.drop (lineLen l))
theorem chunksF_eq (n : Nat) (l : List UInt8) (h : l.length ≤ n) : chunksF n l = chunks l := by
  induction n generalizing l with
  | zero =>
    have : l = [] := List.eq_nil_of_length_eq_zero (by omega)
    subst this; rw [chunks_nil]; rfl
  | succ n ih =>
    by_cases hl : l = []
    · subst hl; rw [chunks_nil]; rfl
    · have h1 := lineLen_pos l hl
      have h2 := List.length_pos_iff.2 hl
      rw [chunks_cons l hl, chunksF, if_neg (by simpa using hl), ih _ (by rw [List.length_drop]; omega)]
/-- Read of a short text, in a form that the kernel can compute -/
def readK (l : List UInt8) : Except FaultL (List CardL) := match runL false .ini 0 ((chunksF 100 l).map stripL) with
  | .error f => .error f
  | .ok st => endL' st
theorem readK_eq (l : List UInt8) (h : l.length ≤ 100) : readT false l = readK l := by
  rw [readT_small _ _ (by omega), readL, readK, chunksF_eq 100 l h]
  cases runL false .ini 0 ((chunks l).map stripL) <;> rfl

/-- an example: a short text, what the helper shows of its cards, the fault -/
structure ExR (l out : List UInt8) (f : FaultL) : Prop where
  len : l.length ≤ 100
  sl : out.length ≤ 1000
  out : shown (resCs (readK l)) = out
  flt : resF (readK l) = f
  few : (resCs (readK l)).length ≤ 1000
  short : (resCs (readK l)).all (fun c => decide (c.text.length ≤ 1000)) = true
theorem ex_A : ExR (List.replicate 13 32 ++ [65, 68, 68, 32, 49]) [65, 68, 68, 32, 49] (0, 0, 0) := ⟨by decide, by decide, by decide +kernel, by decide +kernel, by decide +kernel, by decide +kernel⟩
theorem ex_B : ExR (List.replicate 7 32 ++ [77, 65, 73, 78, 10] ++ List.replicate 6 32 ++ [42, 78, 79, 84, 69]) [77, 65, 73, 78, 60] (0, 0, 0) := ⟨by decide, by decide, by decide +kernel, by decide +kernel, by decide +kernel, by decide +kernel⟩
theorem ex_C : ExR (List.replicate 11 32 ++ [65, 32, 34, 66, 10] ++ List.replicate 6 32 ++ [45, 32, 32, 32, 32, 34, 67, 34, 10]) ([65, 32, 34, 66] ++ List.replicate 57 32 ++ [67, 34]) (0, 0, 0) := ⟨by decide, by decide, by decide +kernel, by decide +kernel, by decide +kernel, by decide +kernel⟩
theorem ex_D : ExR (List.replicate 11 32 ++ [80, 69, 82, 70, 10] ++ List.replicate 6 32 ++ [45, 32, 32, 32, 32, 79, 82, 77, 32, 80]) [80, 69, 82, 70, 79, 82, 77, 32, 80] (0, 0, 0) := ⟨by decide, by decide, by decide +kernel, by decide +kernel, by decide +kernel, by decide +kernel⟩
theorem ex_E : ExR (List.replicate 6 32 ++ [45, 32, 32, 32, 32, 88]) [] (6, 1, 7) := ⟨by decide, by decide, by decide +kernel, by decide +kernel, by decide +kernel, by decide +kernel⟩
theorem ex_F : ExR (List.replicate 11 32 ++ [65, 32, 34, 66]) [] (4, 1, 12) := ⟨by decide, by decide, by decide +kernel, by decide +kernel, by decide +kernel, by decide +kernel⟩

/-- the helper read at an example -/
theorem help_ex (s : ByteArray) {l out : List UInt8} {f : FaultL} (h : ExR l out f) (hl : s.data.toList = l) (w : World) :
    Calls Tryd.prog 13 #[.string s] w fun e w' => e = .returned (.tuple #[.string (mk out), fault f]) ∧ Below w.heap.size w w' := by
  have hs : s.size = l.length := by rw [← hl, len_data]
  have hlen := h.len
  have hc := chunks_length l
  have e := readK_eq l h.len
  have h1 : (((chunks s.data.toList).map stripL).filter (countsL false)).length ≤ 70000 := by
    have := List.length_filter_le (countsL false) ((chunks s.data.toList).map stripL)
    rw [List.length_map, hl] at this
    rw [hl]; omega
  have hm := help_c s w (by omega) (fun _ => h1) (by rw [hl, e]; have := h.few; omega) (by
    rw [hl, e]
    intro c hc
    have := List.all_eq_true.1 h.short c hc
    have := of_decide_eq_true this
    omega) (by rw [hl, e, h.out]; have := h.sl; omega)
  rw [hl, e, h.out, h.flt] at hm
  exact hm

/-- what Write does with the example, in area A or not -/
theorem ex_W : outL 0 (piecesL (frontL false) [83, 84, 79, 80, 32, 82, 85, 78, 46] false) = [48, 48, 48, 48, 48, 49, 32, 32, 32, 32, 32, 83, 84, 79, 80, 32, 82, 85, 78, 46, 10] := by
  rw [pieces_last _ _ _ (by decide)]; decide +kernel
theorem ex_V : outL 0 (piecesL (frontL true) [83, 84, 79, 80, 32, 82, 85, 78, 46] false) = [48, 48, 48, 48, 48, 49, 32, 83, 84, 79, 80, 32, 82, 85, 78, 46, 10] := by
  rw [pieces_last _ _ _ (by decide)]; decide +kernel
theorem ex_R : rightL [83, 84, 79, 80, 32, 82, 85, 78, 46] = true := by decide +kernel
end Go.Proofs.YteceealibfemjaaDoor
