/-
  CONTRACTS of slices.IndexFunc over bytes, leading and equal (layer 6, pictures): how many bytes at the beginning a function accepts.
-/
import Derived.Test.YteceealibfemjaaGreatDoorPicB
import Derived.LoopTactic
import Derived.Outline
namespace Go.Proofs.YteceealibfemjaaGreatDoor
open Go.RowKit Go.Shelf

/-- the contract of a test of one byte, given as a function value that captured lb: R says what holds behind the bytes that it has been asked; of the blocks those alone turn that M names -/
structure PredR (f : Nat) (lb : Array Value) (p : UInt8 → Bool) (M : Nat → Prop) (R : List UInt8 → World → Prop) : Prop where
  enters : ∀ args w, (callFunc f args).run Tryz.prog w = .ok (.enter f args) w
  says : ∀ (pre : List UInt8) (c : UInt8) (W : World), R pre W → Calls Tryz.prog f (#[.int .u8 (c.toNat : Int)] ++ lb) W fun e w' => e = .returned (.bool (p c)) ∧ R (pre ++ [c]) w' ∧ Mods M W w'

theorem leadN_front (p : UInt8 → Bool) (l : List UInt8) (k : Nat) (h : ∀ j (hj : j < l.length), j < k → p l[j] = true) (hk : k ≤ l.length) : k ≤ Pic.leadN p l := by
  induction l generalizing k with
  | nil => simp at hk; omega
  | cons c r ih =>
    cases k with
    | zero => omega
    | succ k =>
      have h0 := h 0 (by simp) (by omega)
      simp only [List.getElem_cons_zero] at h0
      unfold Pic.leadN
      rw [if_pos h0]
      have := ih k (fun j hj hjk => by have := h (j + 1) (by simp; omega) (by omega); simpa using this) (by simpa using hk)
      omega
theorem leadN_stop (p : UInt8 → Bool) (l : List UInt8) (k : Nat) (hk : k < l.length) (h : ∀ j (hj : j < l.length), j < k → p l[j] = true) (hc : p l[k] = false) : Pic.leadN p l = k := by
  induction l generalizing k with
  | nil => simp at hk
  | cons c r ih =>
    cases k with
    | zero => simp only [List.getElem_cons_zero] at hc; unfold Pic.leadN; rw [if_neg (by rw [hc]; simp)]
    | succ k =>
      have h0 := h 0 (by simp) (by omega)
      simp only [List.getElem_cons_zero] at h0
      unfold Pic.leadN
      rw [if_pos h0, ih k (by simpa using hk) (fun j hj hjk => by have := h (j + 1) (by simp; omega) (by omega); simpa using this) (by simpa using hc)]
/-- where IndexFunc finds the first byte that a test does not refuse -/
def idxR (p : UInt8 → Bool) (l : List UInt8) : Int := if Pic.leadN (fun c => !p c) l = l.length then -1 else Pic.leadN (fun c => !p c) l
/-- the bytes that are asked -/
def askL (p : UInt8 → Bool) (l : List UInt8) : List UInt8 := l.take (Pic.leadN (fun c => !p c) l + 1)

set_option maxRecDepth 100000 in
set_option maxHeartbeats 2000000 in
theorem IdxF_c (f : Nat) (lb : Array Value) (p : UInt8 → Bool) (M : Nat → Prop) (R : List UInt8 → World → Prop) (hp : PredR f lb p M R) (A : Option Addr) (cap B : Nat) (l : List UInt8) (w : World) (hl : l.length ≤ 1000000) (hsl : Sl w B A l) (hB : B ≤ w.heap.size) (hM : ∀ a, A = some a → ¬ M a.block) (hR : R [] w) :
    Calls Tryz.prog 41 #[.slice A l.length cap, .func (.func f) #[] lb] w fun e w' => e = .returned (.int .i64 (idxR p l)) ∧ R (askL p l) w' ∧ Mods M w w' := by
  have eg := hp.enters
  have HP := hide hp.says
  obtain ⟨r, hr⟩ : ∃ r, r = idxR p l := ⟨_, rfl⟩
  rw [← hr]
  have HRr := hide hr
  obtain ⟨ask, hask⟩ : ∃ ask, ask = askL p l := ⟨_, rfl⟩
  rw [← hask]
  have HA := hide hask
  have HS := hide hsl
  have HM := hide hM
  have HR := hide hR
  clear hp hr hask hsl hM hR
  go_enter Tryz.func41, Tryz.ntmps41
  go_wp2_with fail
  go_loopw [8] (fun i wr => ∃ k : Nat, k ≤ l.length ∧ i = .int .i64 (k : Int) ∧ Hid (∀ j (hj : j < l.length), j < k → (!p l[j]) = true) ∧ Hid (R (l.take k) wr) ∧ Hid (Mods M w wr)) (fun i _ => l.length - (intOf i).toNat)
  case atStart => exact ⟨0, by omega, rfl, fun j _ hj => by omega, HR.out, Mods.refl _ _⟩
  case round =>
    obtain ⟨k, hk, rfl, hf, hRk, hm⟩ := hrel
    obtain ⟨X, rfl⟩ : ∃ X, X = wr := ⟨_, rfl⟩
    by_cases hlt : k < l.length
    · obtain ⟨b, off, hAe, hbB, hc⟩ : ∃ b off, A = some ⟨b, off, none⟩ ∧ b < B ∧ ∀ j u, l[j]? = some u → w.cell? ⟨b, off + j, none⟩ = some (.int .u8 (u.toNat : Int)) := by
        rcases HS.out with h | h
        · rw [h] at hlt; simp at hlt
        · exact h
      have hcell : X.cell? ⟨b, off + k, none⟩ = some (.int .u8 ((l[k]'hlt).toNat : Int)) := by
        rw [hm.out.cell b (off + k) (by omega) (HM.out _ hAe)]
        exact hc k _ (List.getElem?_eq_getElem hlt)
      obtain ⟨u, hu⟩ : ∃ u, u = l[k]'hlt := ⟨_, rfl⟩
      rw [← hu] at hcell
      have hcall := HP.out (l.take k) u X hRk.out
      have htk : l.take k ++ [u] = l.take (k + 1) := by rw [hu, List.take_succ_eq_append_getElem hlt]
      rw [htk] at hcall
      have HC := hide hcall
      have HU := hide hu
      subst hAe
      clear hcall htk hu hc HS
      go_wp2_with fail
      refine HC.out.mono ?_
      rintro e w3 ⟨rfl, hR3, hm3⟩
      have HR3 := hide hR3
      have HM3 : Hid (Mods M w w3) := hm.out.trans hm3
      clear hR3 hm3 HC hcell
      cases hpu : p u with
      | true =>
        have HE : Hid (r = (k : Int)) := by
          unfold Hid
          rw [HRr.out]
          unfold idxR
          rw [leadN_stop _ l k hlt hf.out (by rw [← HU.out, hpu]; rfl), if_neg (by omega)]
        have HK : Hid (ask = l.take (k + 1)) := by
          unfold Hid
          rw [HA.out]
          unfold askL
          rw [leadN_stop _ l k hlt hf.out (by rw [← HU.out, hpu]; rfl)]
        clear hpu
        go_wp2_with fail
        go_ret
        exact ⟨by rw [HE.out]; rfl, by rw [HK.out]; exact HR3.out, HM3.out⟩
      | false =>
        have HF : Hid (∀ j (hj : j < l.length), j < k + 1 → (!p l[j]) = true) := fun j hj hjk => by
          by_cases e : j = k
          · subst e; rw [← HU.out, hpu]; rfl
          · exact hf.out j hj (by omega)
        clear hpu
        go_wp2_with fail
        go_roundw
        case rel => exact ⟨k + 1, hlt, by go_num, HF, HR3, HM3⟩
        case measure => simp [intOf]; omega
    · have hkl : k = l.length := by omega
      have hge := leadN_front (fun c => !p c) l k hf.out hk
      have hle := Pic.leadN_le (fun c => !p c) l
      have HE : Hid (r = -1) := by
        unfold Hid
        rw [HRr.out]; unfold idxR; rw [if_pos (by omega)]
      have HK : Hid (ask = l.take k) := by
        unfold Hid
        rw [HA.out]; unfold askL
        rw [List.take_of_length_le (by omega), List.take_of_length_le (by omega)]
      clear hge hle hkl
      go_wp2_with fail
      go_ret
      exact ⟨by rw [HE.out]; rfl, by rw [HK.out]; exact hRk.out, hm.out⟩
/-- a function value in a box -/
def FnBox (w : World) (b f : Nat) (lb : Array Value) : Prop := w.heap[b]? = some (.cells #[.func (.func f) #[] lb] 46 (0, 0))
theorem FnBox.cell {w : World} {b f : Nat} {lb : Array Value} (h : FnBox w b f lb) : w.cell? ⟨b, 0, none⟩ = some (.func (.func f) #[] lb) := cell_of_row w b 0 _ _ _ h
set_option maxHeartbeats 1000000 in
theorem lead1_c (f : Nat) (lb : Array Value) (p : UInt8 → Bool) (M : Nat → Prop) (R : List UInt8 → World → Prop) (hp : PredR f lb p M R) (b : Nat) (hMb : ¬ M b) :
    PredR 42 #[.pointer (some ⟨b, 0, none⟩)] (fun c => !p c) M (fun pre w => R pre w ∧ FnBox w b f lb) := by
  refine ⟨enters_of Tryz.func42 (by kernel_rfl) rfl, ?_⟩
  intro pre c W ⟨hR, hb⟩
  have eg := hp.enters
  have HC := hide (hp.says pre c W hR)
  have c0 := hb.cell
  have HB := hide hb
  have hlt : b < W.heap.size := (Array.getElem?_eq_some_iff.1 hb).1
  clear hp hR hb
  show Calls Tryz.prog 42 #[.int .u8 (c.toNat : Int), .pointer (some ⟨b, 0, none⟩)] W _
  go_enter Tryz.func42, Tryz.ntmps42
  go_wp2_with fail
  refine HC.out.mono ?_
  rintro e w3 ⟨rfl, hR3, hm3⟩
  have HR3 := hide hR3
  have HM3 := hide hm3
  clear hR3 hm3 HC
  go_wp2_with fail
  go_ret
  exact ⟨rfl, ⟨HR3.out, (HM3.out.block b hlt hMb).trans HB.out⟩, HM3.out⟩
set_option maxHeartbeats 1000000 in
/-- how many bytes at the beginning are accepted -/
theorem leading_c (f : Nat) (lb : Array Value) (p : UInt8 → Bool) (M : Nat → Prop) (R : List UInt8 → World → Prop) (hp : PredR f lb p M R) (A : Option Addr) (cap B : Nat) (l : List UInt8) (w : World) (hl : l.length ≤ 1000000) (hsl : Sl w B A l) (hB : B ≤ w.heap.size) (hM : ∀ a, A = some a → ¬ M a.block) (hMw : ¬ M w.heap.size) (hR : ∀ o, R [] (w.alloc o)) :
    Calls Tryz.prog 18 #[.slice A l.length cap, .func (.func f) #[] lb] w fun e w' => e = .returned (.int .i64 (Pic.leadN p l : Int)) ∧ (∃ pre, pre = l.take (Pic.leadN p l + 1) ∧ R pre w') ∧ Mods M w w' := by
  obtain ⟨W, hW⟩ : ∃ W, W = w.alloc (.cells #[.func (.func f) #[] lb] 46) := ⟨_, rfl⟩
  have hbox : FnBox W w.heap.size f lb := by rw [hW]; exact heap_alloc_new w _
  have hidx := IdxF_c _ _ _ _ _ (lead1_c f lb p M R hp w.heap.size hMw) A cap B l W hl (hsl.keep (B' := B) (by rw [hW]; exact below1 w _) hB (Nat.le_refl _)) (by rw [hW]; simp; omega) hM ⟨by rw [hW]; exact hR _, hbox⟩
  have hfun : (fun c => !(!p c)) = p := by funext c; simp
  unfold idxR askL at hidx
  rw [hfun] at hidx
  obtain ⟨n, hn⟩ : ∃ n, n = Pic.leadN p l := ⟨_, rfl⟩
  have hle := Pic.leadN_le p l
  rw [← hn] at hidx hle ⊢
  have HI := hide hidx
  have HW : Hid (Mods M w W) := by unfold Hid; rw [hW]; exact (Mods.refl M w).alloc _
  clear hp hsl hM hMw hR hbox hidx hn
  go_enter Tryz.func18, Tryz.ntmps18
  go_wp2_with fail
  with_reducible rw [← hW]
  clear hW
  refine HI.out.mono ?_
  rintro e w3 ⟨rfl, ⟨hR3, _⟩, hm3⟩
  have HR3 := hide hR3
  have HM3 := hide hm3
  clear hR3 hm3 HI
  by_cases h : n = l.length
  · have e1 : (if n = l.length then (-1 : Int) else (n : Int)) = -1 := if_pos h
    rw [e1]
    have HN := hide h
    clear e1 h
    go_wp2_with fail
    go_ret
    exact ⟨by rw [HN.out]; rfl, ⟨_, rfl, HR3.out⟩, HW.out.trans HM3.out⟩
  · have e1 : (if n = l.length then (-1 : Int) else (n : Int)) = n := if_neg h
    rw [e1]
    clear e1 h
    go_wp2_with fail
    go_ret
    exact ⟨rfl, ⟨_, rfl, HR3.out⟩, HW.out.trans HM3.out⟩
/-- a byte in a box -/
def ByBox (w : World) (b : Nat) (c : UInt8) : Prop := w.heap[b]? = some (.cells #[.int .u8 (c.toNat : Int)] 5 (0, 0))
theorem ByBox.cell {w : World} {b : Nat} {c : UInt8} (h : ByBox w b c) : w.cell? ⟨b, 0, none⟩ = some (.int .u8 (c.toNat : Int)) := cell_of_row w b 0 _ _ _ h
theorem equal1_c (b : Nat) (c : UInt8) : PredR 43 #[.pointer (some ⟨b, 0, none⟩)] (fun x => x == c) (fun _ => False) (fun _ w => ByBox w b c) := by
  refine ⟨enters_of Tryz.func43 (by kernel_rfl) rfl, ?_⟩
  intro pre x W hb
  have c0 := hb.cell
  have HB := hide hb
  have ht : ((x.toNat : Int) == (c.toNat : Int)) = (x == c) := by
    rw [Bool.eq_iff_iff, beq_iff_eq, beq_iff_eq, ← UInt8.toNat_inj]; omega
  have HT := hide ht
  clear hb ht
  show Calls Tryz.prog 43 #[.int .u8 (x.toNat : Int), .pointer (some ⟨b, 0, none⟩)] W _
  go_enter Tryz.func43, Tryz.ntmps43
  go_wp2_with fail
  go_ret
  exact ⟨ret_bool HT.out, HB.out, Mods.refl _ _⟩
theorem equal_c (c : UInt8) (w : World) : Calls Tryz.prog 19 #[.int .u8 (c.toNat : Int)] w fun e w' => e = .returned (.func (.func 43) #[] #[.pointer (some ⟨w.heap.size, 0, none⟩)]) ∧ ByBox w' w.heap.size c ∧ Below w.heap.size w w' ∧ w'.heap.size = w.heap.size + 1 := by
  go_enter Tryz.func19, Tryz.ntmps19
  go_wp2_with fail
  go_ret
  exact ⟨rfl, heap_alloc_new w _, below1 w _, by simp⟩
/-- leading with equal's function: how many bytes at the beginning are c -/
theorem lead_eq (b : Nat) (c : UInt8) (A : Option Addr) (cap B : Nat) (l : List UInt8) (w : World) (hl : l.length ≤ 1000000) (hsl : Sl w B A l) (hB : B ≤ w.heap.size) (hb : ByBox w b c) :
    Calls Tryz.prog 18 #[.slice A l.length cap, .func (.func 43) #[] #[.pointer (some ⟨b, 0, none⟩)]] w fun e w' => e = .returned (.int .i64 (Pic.leadN (· == c) l : Int)) ∧ Below w.heap.size w w' :=
  (leading_c _ _ _ _ _ (equal1_c b c) A cap B l w hl hsl hB (fun _ _ h => h) (fun h => h) (fun o => (heap_alloc_old w o (Array.getElem?_eq_some_iff.1 hb).1).trans hb)).mono fun e w' ⟨h1, _, h2⟩ => ⟨h1, h2.toBelow (Nat.le_refl _) (fun _ _ h => h)⟩
end Go.Proofs.YteceealibfemjaaGreatDoor
