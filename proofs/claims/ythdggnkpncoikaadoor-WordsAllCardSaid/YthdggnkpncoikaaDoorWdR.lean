/-
  CONTRACTS of reserved and Of (layer 5, words).
-/
import Derived.Test.YthdggnkpncoikaaDoorWdL
namespace Go.Proofs.YthdggnkpncoikaaDoor
open Go.RowKit Go.Shelf Go.Maps

/-- the map of the wanted words -/
def resD (p : List UInt8 → Bool) : DataW Unit := foldC p 3 (foldC p 2 (foldC p 1 (.map []) keysL) verbsL) figsL
/-- the class of a word -/
def classL (s : List UInt8) : Int := if s ∈ figsL then 3 else if s ∈ verbsL then 2 else if s ∈ keysL then 1 else 0
theorem resD_at (p : List UInt8 → Bool) (s : List UInt8) (h : p s = true) : (resD p).atKey (.string s) (.lit (.int .u8 0)) = .lit (.int .u8 (classL s)) := by
  have h0 : IsMap (.map [] : DataW Unit) := isMap_empty
  have h1 := foldC_map p 1 _ keysL h0
  have h2 := foldC_map p 2 _ verbsL h1
  unfold resD classL
  rw [foldC_at _ _ _ _ h2, foldC_at _ _ _ _ h1, foldC_at _ _ _ _ h0]
  simp only [h, true_and]
  split
  · rfl
  · split
    · rfl
    · split <;> rfl

set_option maxHeartbeats 1000000 in
set_option maxRecDepth 100000 in
theorem reserved_c (g : Nat) (lb : Array Value) (p : List UInt8 → Bool) (w : World)
    (eg : ∀ args w, (callFunc g args).run Tryd.prog w = .ok (.enter g args) w)
    (hp : ∀ (x : ByteArray) (W : World), 0 < x.size → x.size ≤ 1000000 → Below w.heap.size w W → Calls Tryd.prog g (#[.string x] ++ lb) W fun e w' => e = .returned (.bool (p x.data.toList)) ∧ ∃ k, w' = W.drewN k)
    (hasc : AscS w) :
    Calls Tryd.prog 39 #[.func (.func g) #[] lb] w fun e w' => ∃ B, e = .returned (.map (some B)) ∧ w.heap.size ≤ B ∧ w'.ownsMap Tryd.prog 9 (plainElem Tryd.prog 39) B (keysL.length + verbsL.length + figsL.length) (resD p) ∧ Below w.heap.size w w' := by
  have hp2 : ∀ s : ByteArray, s.size ≤ 10000 → ∀ (x : ByteArray) (W : World), x.data.toList ∈ Lib.fields s.data.toList → Below w.heap.size w W → Calls Tryd.prog g (#[.string x] ++ lb) W fun e w' => e = .returned (.bool (p x.data.toList)) ∧ ∃ k, w' = W.drewN k := fun s hs x W hm hb => by
    have h1 := fieldsGo_len _ _ _ hm
    have h2 := fieldsGo_ne _ _ _ hm
    rw [len_data, len_data] at h1
    refine hp x W ?_ (by simp at h1; omega) hb
    rcases Nat.eq_zero_or_pos x.size with h3 | h3
    · exact absurd (List.eq_nil_of_length_eq_zero (by rw [len_data]; exact h3)) h2
    · exact h3
  have HPK := hide (hp2 keysB keys_size)
  have HPV := hide (hp2 verbsB verbs_size)
  have HPF := hide (hp2 figsB figs_size)
  have HE := hide eg
  have hmm := @run_makeMap Tryd.prog
  clear hp hp2 eg
  go_enter Tryd.func39, Tryd.ntmps39
  go_wp2_with fail
  obtain ⟨W1, hW1⟩ : ∃ W1, W1 = ((w.alloc (.cells #[.func (.func g) #[] lb] 22)).alloc (.map #[] 0)).alloc (.cells #[.map (some (w.heap.size + 1))] 87) := ⟨_, rfl⟩
  have hw1 : Boxed W1 w.heap.size 22 (.func (.func g) #[] lb) := by rw [hW1]; exact ((Boxed.new w _ _).alloc _).alloc _
  have hm1 : Boxed W1 (w.heap.size + 1 + 1) 87 (.map (some (w.heap.size + 1))) := by
    rw [hW1]
    have := Boxed.new ((w.alloc (.cells #[.func (.func g) #[] lb] 22)).alloc (.map #[] 0)) 87 (.map (some (w.heap.size + 1)))
    simpa using this
  have ho1 : W1.ownsMap Tryd.prog 9 (plainElem (H := Unit) Tryd.prog 39) (w.heap.size + 1) 0 (.map []) := by
    rw [hW1]
    have := (World.ownsMap_made (H := Unit) (w.alloc (.cells #[.func (.func g) #[] lb] 22)) Tryd.prog 9 (plainElem (H := Unit) Tryd.prog 39)).alloc (.cells #[.map (some (w.heap.size + 1))] 87)
    simpa using this
  have hb1 : Below w.heap.size w W1 := by
    rw [hW1]
    exact (((Below.refl _ w).alloc (Nat.le_refl _) _).alloc (by simp) _).alloc (by simp; omega) _
  rw [← hW1]
  have hk := keys_len
  have hv := verbs_len
  have HK := hide (add_c keysB 1 w.heap.size (w.heap.size + 1 + 1) (w.heap.size + 1) g lb 0 (.map []) p w W1 (by decide) (Nat.le_trans keys_size (by omega)) (asc_of _ keys_asc) (by omega) (Nat.le_trans keys_len (by omega)) HE.out HPK.out hw1 hm1 ho1 hb1 (Nat.le_refl _) (by omega) (by omega) hasc)
  clear hw1 hm1 ho1 hb1 hW1 hmm
  refine HK.out.mono ?_
  rintro e W2 ⟨rfl, hw2, hm2, ho2, hb2⟩
  have HV := hide (add_c verbsB 2 w.heap.size (w.heap.size + 1 + 1) (w.heap.size + 1) g lb _ _ p w W2 (by decide) (Nat.le_trans verbs_size (by omega)) (asc_of _ verbs_asc) (by show 0 + keysL.length ≤ _; omega) (Nat.le_trans verbs_len (by omega)) HE.out HPV.out hw2 hm2 ho2 hb2 (Nat.le_refl _) (by omega) (by omega) hasc)
  clear hw2 hm2 ho2 hb2
  go_wp2_with fail
  refine HV.out.mono ?_
  rintro e W3 ⟨rfl, hw3, hm3, ho3, hb3⟩
  have HF := hide (add_c figsB 3 w.heap.size (w.heap.size + 1 + 1) (w.heap.size + 1) g lb _ _ p w W3 (by decide) (Nat.le_trans figs_size (by omega)) (asc_of _ figs_asc) (by show 0 + keysL.length + verbsL.length ≤ _; omega) (Nat.le_trans figs_len (by omega)) HE.out HPF.out hw3 hm3 ho3 hb3 (Nat.le_refl _) (by omega) (by omega) hasc)
  clear hw3 hm3 ho3 hb3
  go_wp2_with fail
  refine HF.out.mono ?_
  rintro e W4 ⟨rfl, hw4, hm4, ho4, hb4⟩
  have hc4 := hm4.cell
  have HO := hide ho4
  have HB := hide hb4
  clear hw4 hm4 ho4 hb4 hk hv HK HV HF
  go_wp2_with fail
  go_ret
  refine ⟨_, rfl, by omega, ?_, HB.out⟩
  have := HO.out
  rw [Nat.zero_add] at this
  exact this

theorem lit_inj {a b : Int} (h : (DataW.lit (.int .u8 a) : DataW Unit) = .lit (.int .u8 b)) : a = b := by cases h; rfl
theorem zeroClass (w : World) : (zeroValue 39).run Tryd.prog w = .ok (.int .u8 0) w := by kernel_rfl

set_option maxHeartbeats 1000000 in
theorem Of_c (s : ByteArray) (w : World) (hs : s.size ≤ maxLen) (hasc : AscS w) :
    Calls Tryd.prog 16 #[.string s] w fun e w' => e = .returned (.int .u8 (classL s.data.toList)) ∧ Below w.heap.size w w' := by
  have HR : Hid (∀ W, Below w.heap.size w W → Boxed W w.heap.size 9 (.string s) → Calls Tryd.prog 39 #[.func (.func 42) #[] #[.pointer (some ⟨w.heap.size, 0, none⟩)]] W fun e w' => ∃ B, e = .returned (.map (some B)) ∧
      w'.ownsMap Tryd.prog 9 (plainElem Tryd.prog 39) B (keysL.length + verbsL.length + figsL.length) (resD (simL s.data.toList)) ∧ Below w.heap.size w w' ∧ Boxed w' w.heap.size 9 (.string s)) := fun W hb hx => by
    refine (reserved_c 42 #[.pointer (some ⟨w.heap.size, 0, none⟩)] (simL s.data.toList) W (enters_of Tryd.func42 (by kernel_rfl) rfl)
      (fun x W2 h1 h2 hb2 => sim_c x s w.heap.size W2 h1 h2 hs ((hb2.block _ hx.lt).trans hx)) (hasc.below (.inl (Nat.le_refl _)) hb)).mono ?_
    rintro e w' ⟨B, rfl, _, ho, hb2⟩
    exact ⟨B, rfl, ho, hb.trans (hb2.mono hb.size), (hb2.block _ hx.lt).trans hx⟩
  have HZ := hide (resD_at (simL s.data.toList) s.data.toList (simL_self _))
  generalize classL s.data.toList = cl at HZ ⊢
  have HKY := hide (Go.WideMaps.keyOf_string_mk (P := Tryd.prog) Tryd.underlying9 hs)
  have HB0 : Hid (Below w.heap.size w (w.alloc (.cells #[.string s] 9)).drew) := ((Below.refl _ w).alloc (Nat.le_refl _) _).drew
  have HX0 : Hid (Boxed (w.alloc (.cells #[.string s] 9)).drew w.heap.size 9 (.string s)) := Boxed.new w _ _
  clear hasc hs
  go_enter Tryd.func16, Tryd.ntmps16
  go_wp2_with fail
  go_region_with (go_at_call 39; refine (HR.out _ HB0.out HX0.out).mono ?_; rintro e w1 ⟨B, rfl, ho1, hb1, hx1⟩; have hc1 := hx1.cell; obtain ⟨c, hrun, hat, hwc⟩ := ho1.lookup_int (t := 87) keyStr Tryd.underlying87 Tryd.underlying39 (zeroClass _) HKY.out; rw [HZ.out] at hat; have HAT := hide hat; have HB := hide hb1; clear hat hb1 ho1)
  all_goals
    go_wp2_with fail
    go_ret
    refine ⟨?_, HB.out⟩
    rw [lit_inj HAT.out]
    rfl
end Go.Proofs.YthdggnkpncoikaaDoor
