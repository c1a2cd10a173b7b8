/-
  CONTRACT of outline.take (layer 6, pictures).
-/
import Derived.Test.YteceealibfemjaaGreatDoorShpP
import Derived.Deep.RegionHeld3
import Derived.Deep.Cut
import Derived.Deep.DeepCutAuto
import Derived.Lib.QuietBelow
namespace Go.Proofs.YteceealibfemjaaGreatDoor
open Go.RowKit Go.Shelf

/-- block b is an outline whose rest lies in block g -/
structure OutAt (w : World) (b g : Nat) (o : Pic.Out) (off cap : Nat) : Prop where
  blk : w.heap[b]? = some (.cells #[.slice (some ⟨g, off, none⟩) o.rest.length cap, .int .i64 (o.sg : Int), .int .i64 (o.d : Int), .int .i64 (o.sc : Int)] 69 (0, 0))
  row : RowAt w g off o.rest
  cap : o.rest.length ≤ cap
  ne : g ≠ b
theorem OutAt.lt {w : World} {b g : Nat} {o : Pic.Out} {off cap : Nat} (h : OutAt w b g o off cap) : b < w.heap.size := (Array.getElem?_eq_some_iff.1 h.blk).1
theorem OutAt.cells {w : World} {b g : Nat} {o : Pic.Out} {off cap : Nat} (h : OutAt w b g o off cap) : w.cell? ⟨b, 0, none⟩ = some (.slice (some ⟨g, off, none⟩) o.rest.length cap) ∧ w.cell? ⟨b, 1, none⟩ = some (.int .i64 (o.sg : Int)) ∧ w.cell? ⟨b, 2, none⟩ = some (.int .i64 (o.d : Int)) ∧ w.cell? ⟨b, 3, none⟩ = some (.int .i64 (o.sc : Int)) :=
  ⟨cell_of_row w b 0 _ _ _ h.blk, cell_of_row w b 1 _ _ _ h.blk, cell_of_row w b 2 _ _ _ h.blk, cell_of_row w b 3 _ _ _ h.blk⟩
theorem OutAt.free {w : World} {b g : Nat} {o : Pic.Out} {off cap : Nat} (h : OutAt w b g o off cap) (j : Nat) : w.frozen? ⟨b, j, none⟩ = false := frozen_of_row w b j _ _ h.blk
theorem OutAt.below {w w' : World} {b g : Nat} {o : Pic.Out} {off cap : Nat} (h : OutAt w b g o off cap) (hb : Below w.heap.size w w') : OutAt w' b g o off cap :=
  ⟨(hb.block b h.lt).trans h.blk, h.row.below hb, h.cap, h.ne⟩
/-- a byte's conversion in the walk's spelling -/
theorem byte_back (c : UInt8) : ((c.toNat : Int)).toNat.toUInt8 = c := by
  rw [Int.toNat_natCast]
  apply UInt8.toNat_inj.1
  have := c.toNat_lt
  simp
theorem bl_drew {w w1 : World} (h : Below w.drew.heap.size w.drew w1) : Below w.heap.size w w1 := ⟨h.os, h.tape, h.output, h.size, h.block⟩
theorem br_drew {w w1 : World} (h : Below w.heap.size w w1) : Below w.heap.size w w1.drew := ⟨h.os, h.tape, h.output, h.size, h.block⟩
def TakPost (b g : Nat) (o : Pic.Out) (t : List UInt8 × Nat × List UInt8) (w : World) (e : Ending) (w' : World) : Prop :=
  e = .returned (.tuple #[.string (mk t.1), .int .i64 (t.2.1 : Int)]) ∧ (∃ off cap, OutAt w' b g ⟨t.2.2, o.sg, o.d, o.sc⟩ off cap) ∧ Mods (fun j => j = b) w w'
set_option maxRecDepth 100000 in
set_option maxHeartbeats 4000000 in
theorem take_c (kinds : ByteArray) (least most : Nat) (b g : Nat) (o : Pic.Out) (off cap : Nat) (w : World) (h1 : least ≤ 1000) (h2 : most ≤ 1000) (hl : o.rest.length ≤ 1000) (h : OutAt w b g o off cap) :
    Calls Tryz.prog 59 #[.pointer (some ⟨b, 0, none⟩), .string kinds, .int .i64 (least : Int), .int .i64 (most : Int)] w (TakPost b g o (Pic.takL kinds.data.toList least most o.rest) w) := by
  obtain ⟨rest, hrest⟩ : ∃ rest, rest = o.rest := ⟨_, rfl⟩
  obtain ⟨c0, c1, c2, c3⟩ := h.cells
  have HO := hide h
  have hlt := h.lt
  have hcap := h.cap
  rw [← hrest] at c0 hl hcap ⊢
  have HRS := hide hrest
  cases rest with
  | nil =>
    have HX : Hid (Pic.takL kinds.data.toList least most [] = ([], 0, [])) := rfl
    clear h hrest
    go_enter Tryz.func59, Tryz.ntmps59
    go_wp2_with fail
    go_ret2
    refine ⟨by rw [HX.out]; rfl, ⟨off, cap, ?_⟩, Mods.refl _ _⟩
    have := HO.out
    rw [HX.out, HRS.out]; exact this
  | cons c r =>
    obtain ⟨n, hn⟩ : ∃ n, n = Pic.leadN (· == c) (c :: r) := ⟨_, rfl⟩
    obtain ⟨ix, hix⟩ : ∃ ix, ix = Lib.indexByte kinds.data.toList c := ⟨_, rfl⟩
    have HIB : Hid (∀ W, Calls Tryz.prog 83 #[.string kinds, .int .u8 (c.toNat : Int)] W fun e w' => e = .returned (.int .i64 ix) ∧ W = w') := fun W => by
      refine (Tryz.strings_IndexByte kinds (c.toNat : Int) W).mono fun e w' h => ⟨?_, h.2.symm⟩
      rw [h.1, byte_back, hix]
    have hrow := h.row
    rw [← hrest] at hrow
    have cb : w.cell? ⟨g, off, none⟩ = some (.int .u8 (c.toNat : Int)) := hrow.2 0 c rfl
    have HRW := hide hrow
    have hN : (c :: r).length = r.length + 1 := rfl
    obtain ⟨N, hNN⟩ : ∃ N, N = (c :: r).length := ⟨_, rfl⟩
    have hN1 : 1 ≤ N := by omega
    have hnl : n ≤ N := by rw [hn, hNN]; exact Pic.leadN_le _ _
    have HX : Hid (Pic.takL kinds.data.toList least most (c :: r) = if (decide (0 ≤ ix) && decide (least ≤ n) && decide (n ≤ most)) = true then ([c], n, (c :: r).drop n) else ([], 0, c :: r)) := by
      unfold Hid Pic.takL Pic.takB; simp only []; rw [hix, hn]
    have HNN := hide hNN
    rw [← hNN] at c0 hl hcap
    have HEQ := hide (fun W => equal_c c W)
    have HLE : Hid (∀ W', Below w.heap.size w W' → ∀ bx, ByBox W' bx c → Calls Tryz.prog 18 #[.slice (some ⟨g, off, none⟩) N cap, .func (.func 43) #[] #[.pointer (some ⟨bx, 0, none⟩)]] W' fun e w' => e = .returned (.int .i64 (n : Int)) ∧ Below W'.heap.size W' w') := fun W' hb' bx hbx => by
      have := lead_eq bx c (some ⟨g, off, none⟩) cap W'.heap.size (c :: r) W' (by omega) (HRW.out.below hb').sl (Nat.le_refl _) hbx
      rw [← hn, ← hNN] at this
      exact this
    have HZ : Hid (n ≠ 0) := by unfold Hid; rw [hn]; simp [Pic.leadN]
    have hg : g < w.heap.size := hrow.1
    clear h hrest hn hix hrow hN hNN
    by_cases hi : 0 ≤ ix
    · have hi' : decide (ix < 0) = false := decide_eq_false (by omega)
      have hnz : ((N : Int) == 0) = false := beq_eq_false_iff_ne.2 (by omega)
      have hcv : ∀ W', W'.cell? ⟨g, off, none⟩ = some (.int .u8 (c.toNat : Int)) → (convert 22 9 (.slice (some ⟨g, off, none⟩) 1 cap)).run Tryz.prog W' = .ok (.string ⟨#[c]⟩) W' := fun W' h => by
        have hs : Sl W' (g + 1) (some ⟨g, off, none⟩) [c] := .inr ⟨g, off, rfl, by omega, fun j u hu => by
          cases j with
          | zero => simp at hu; subst hu; exact h
          | succ j => simp at hu⟩
        exact hs.text 1 cap rfl
      go_enter Tryz.func59, Tryz.ntmps59
      go_wp2_with fail
      refine (HIB.out _).mono ?_
      rintro e w' ⟨rfl, rfl⟩
      clear HIB
      go_wp2_with fail
      have hcw := hcv w cb
      have hN0 : 0 < N := by omega
      have hni1 : (1 : Int) ≤ (N : Int) := by omega
      have hni0 : (0 : Int) < (N : Int) := by omega
      have hnic : (N : Int) ≤ (cap : Int) := by omega
      have hni2 : (1 : Int) ≤ (cap : Int) := by omega
      go_region_held3 (fun w' => w'.cell? ⟨b, 0, none⟩ = some (.slice (some ⟨g, off, none⟩) N cap) ∧ w'.cell? ⟨g, off, none⟩ = some (.int .u8 (c.toNat : Int)))
        (first
          | go_keep
          | (go_split_ands
             refine ⟨?_, ?_⟩
             · exact (World.cell?_of_block (a := ⟨b, 0, none⟩) (hb1.block b hlt)).trans (by assumption)
             · exact (World.cell?_of_block (a := ⟨g, off, none⟩) (hb1.block g hg)).trans (by assumption))
          | (go_split_ands
             refine ⟨?_, ?_⟩
             · exact (World.cell?_of_block (a := ⟨b, 0, none⟩) (hb2.block b (Nat.lt_of_lt_of_le hlt hb1.size))).trans (by assumption)
             · exact (World.cell?_of_block (a := ⟨g, off, none⟩) (hb2.block g (Nat.lt_of_lt_of_le hg hb1.size))).trans (by assumption)))
        (first
          | (go_at_call 19; ((with_reducible refine (HEQ.out w.drew).mono ?_); rintro e w1 ⟨rfl, hbx1, hb1, hz1⟩; have hbx : ByBox w1 w.heap.size c := hbx1; have hbw := bl_drew hb1))
          | (go_at_call 18; ((with_reducible refine (HLE.out w1 hbw w.heap.size hbx).mono ?_); rintro e w2 ⟨rfl, hb2⟩)))
      have HB2 : Hid (Below w.heap.size w w2) := hbw.trans (hb2.mono hbw.size)
      have HO2 := hide (HO.out.below HB2.out)
      have hlt2 : b < w2.heap.size := HO2.out.lt
      obtain ⟨e0, e1, e2, e3⟩ := HO2.out.cells
      rw [← HRS.out, ← HNN.out] at e0
      have g0 := HO2.out.free 0
      have HRW2 := hide (HRW.out.below HB2.out)
      clear hb1 hz1 hbx hbw hb2 hbx1 hcw hcv hN0 hni1 hni0 hni2 HLE HEQ cb c0 c1 c2 c3
      by_cases hl1 : least ≤ n
      · have hb1' : decide (n < least) = false := decide_eq_false (by omega)
        by_cases hm1 : n ≤ most
        · have hb2' : decide (most < n) = false := decide_eq_false (by omega)
          have HX2 : Hid (Pic.takL kinds.data.toList least most (c :: r) = ([c], n, (c :: r).drop n)) := by
            unfold Hid; rw [HX.out, decide_eq_true hi, decide_eq_true hl1, decide_eq_true hm1]; rfl
          have hdl : ((c :: r).drop n).length = N - n := by rw [List.length_drop, HNN.out]
          have HDL := hide hdl
          clear HX hdl
          by_cases hnc : n = cap
          · have HNC := hide hnc
            have hNn : N = n := by omega
            have HNn := hide hNn
            clear hNn
            go_wp2_with fail
            go_ret2
            refine ⟨by rw [HX2.out, ← HNC.out]; first | rfl | (rw [HNC.out]; rfl), ⟨off, 0, ⟨?_, ?_, ?_, HO.out.ne⟩⟩, ?_⟩
            · rw [HX2.out]
              have hz : ((c :: r).drop n).length = 0 := by rw [HDL.out]; omega
              show (w2.setCell ⟨b, 0, none⟩ _).heap[b]? = some (.cells #[.slice (some ⟨g, off, none⟩) ((c :: r).drop n).length 0, _, _, _] _ _)
              rw [hz, heap_setCell_same w2 b 0 _ _ _ HO2.out.blk]; rfl
            · rw [HX2.out]
              refine RowAt.nil (l := c :: r) (off := off) ((HRW2.out).mods ((Mods.refl (fun j => j = b) w2).set b 0 _ (fun _ => rfl)) HO.out.ne) (List.eq_nil_of_length_eq_zero (by show ((c :: r).drop n).length = 0; rw [HDL.out]; omega))
            · rw [HX2.out]; show ((c :: r).drop n).length ≤ 0; rw [HDL.out]; omega
            · exact ((Mods.of_below HB2.out).weak (M' := fun j => j = b) (fun _ _ h => h.elim)).set b 0 _ (fun _ => rfl)
          · go_wp2_with fail
            go_ret2
            refine ⟨by rw [HX2.out]; rfl, ⟨off + n, cap - n, ⟨?_, ?_, ?_, HO.out.ne⟩⟩, ?_⟩
            · rw [HX2.out]
              show (w2.setCell ⟨b, 0, none⟩ _).heap[b]? = some (.cells #[.slice (some ⟨g, off + n, none⟩) ((c :: r).drop n).length (cap - n), _, _, _] _ _)
              rw [HDL.out, heap_setCell_same w2 b 0 _ _ _ HO2.out.blk]; rfl
            · rw [HX2.out]
              exact ((HRW2.out).mods ((Mods.refl (fun j => j = b) w2).set b 0 _ (fun _ => rfl)) HO.out.ne).drop n
            · rw [HX2.out]; show ((c :: r).drop n).length ≤ cap - n; rw [HDL.out]; omega
            · exact ((Mods.of_below HB2.out).weak (M' := fun j => j = b) (fun _ _ h => h.elim)).set b 0 _ (fun _ => rfl)
        · have hb2' : decide (most < n) = true := decide_eq_true (by omega)
          have HX2 : Hid (Pic.takL kinds.data.toList least most (c :: r) = ([], 0, c :: r)) := by
            unfold Hid; rw [HX.out, decide_eq_false hm1, Bool.and_false, if_neg (by simp)]
          clear HX
          go_wp2_with fail
          go_ret2
          refine ⟨by rw [HX2.out]; rfl, ⟨off, cap, ?_⟩, (Mods.of_below HB2.out).weak (M' := fun j => j = b) (fun _ _ h => h.elim)⟩
          rw [HX2.out, HRS.out]; exact HO2.out
      · have hb1' : decide (n < least) = true := decide_eq_true (by omega)
        have HX2 : Hid (Pic.takL kinds.data.toList least most (c :: r) = ([], 0, c :: r)) := by
          unfold Hid; rw [HX.out, decide_eq_false hl1, Bool.and_false, Bool.false_and, if_neg (by simp)]
        clear HX
        go_wp2_with fail
        go_ret2
        refine ⟨by rw [HX2.out]; rfl, ⟨off, cap, ?_⟩, (Mods.of_below HB2.out).weak (M' := fun j => j = b) (fun _ _ h => h.elim)⟩
        rw [HX2.out, HRS.out]; exact HO2.out
    · have hi' : decide (ix < 0) = true := decide_eq_true (by omega)
      have hnz : ((N : Int) == 0) = false := beq_eq_false_iff_ne.2 (by omega)
      have hN0 : 0 < N := by omega
      have HX2 : Hid (Pic.takL kinds.data.toList least most (c :: r) = ([], 0, c :: r)) := by
        unfold Hid; rw [HX.out, decide_eq_false hi, Bool.false_and, Bool.false_and, if_neg (by simp)]
      clear HX
      go_enter Tryz.func59, Tryz.ntmps59
      go_wp2_with fail
      refine (HIB.out _).mono ?_
      rintro e w' ⟨rfl, rfl⟩
      clear HIB
      go_wp2_with fail
      go_ret2
      refine ⟨by rw [HX2.out]; rfl, ⟨off, cap, ?_⟩, Mods.refl _ _⟩
      rw [HX2.out, HRS.out]; exact HO.out
end Go.Proofs.YteceealibfemjaaGreatDoor
