/-
  CONTRACT of All (layer 5, words): the 262 words, sorted, in a slice of the call's own.
-/
import Derived.Test.YthdggnkpncoikaaDoorAllQ
import Derived.Test.YthdggnkpncoikaaDoorItr
namespace Go.Proofs.YthdggnkpncoikaaDoor
open Go.RowKit Go.Maps Go.Sort Go.Shelf

/-- strings in memory -/
def RowS (w : World) (g : Nat) (l : List (List UInt8)) : Prop := ∀ i x, l[i]? = some x → w.cell? ⟨g, i, none⟩ = some (.string (mk x))
theorem RowS.below {w w' : World} {g : Nat} {l : List (List UInt8)} (h : RowS w g l) (hb : Below w.heap.size w w') : RowS w' g l := fun i x hx => by
  have hc := h i x hx
  exact (hb.cell (p := ⟨_, _, none⟩) (World.block_lt_of_cell? _ _ hc)).trans hc
theorem all1_c (x : ByteArray) (W : World) : Calls Tryd.prog 35 #[.string x] W fun e w' => e = .returned (.bool true) ∧ ∃ k, w' = W.drewN k := by
  go_enter Tryd.func35, Tryd.ntmps35
  go_wp2_with fail
  go_ret
  exact ⟨rfl, 0, rfl⟩
theorem Clip_c (g n cap : Nat) (W : World) (h1 : n ≤ cap) (h2 : cap ≤ maxLen) : Calls Tryd.prog 36 #[.slice (some ⟨g, 0, none⟩) n cap] W fun e w' => e = .returned (.slice (some ⟨g, 0, none⟩) n n) ∧ w' = W := by
  unfold maxLen at h2
  go_enter Tryd.func36, Tryd.ntmps36
  go_wp2_with fail
  go_ret
  exact ⟨rfl, rfl⟩
/-- the sorted keys of the map -/
theorem Sorted_c (B nn : Nat) (R : Value → Option (DataW Unit × List MemPlace)) (w : World) (hown : w.ownsMap Tryd.prog 9 R B nn (resD fun _ => true)) :
    Calls Tryd.prog 37 #[.func (.func 68) #[] #[.pointer (some ⟨w.heap.size, 0, none⟩)]] (w.alloc (.cells #[.map (some B)] 87)) fun e w' => ∃ g cap, e = .returned (.slice (some ⟨g, 0, none⟩) 262 cap) ∧ 262 ≤ cap ∧ cap ≤ maxLen ∧ w.heap.size ≤ g ∧ RowS w' g wdS ∧ Below w.heap.size w w' := by
  have hbl := hown.lt
  have hseq : SeqGives Fence.wide 2 Tryd.prog 68 #[.pointer (some ⟨w.heap.size, 0, none⟩)] encStr (fun ss => ss.Perm (strKeys (resD fun _ => true))) (Maps.size (resD fun _ => true)) (w.alloc (.cells #[.map (some B)] 87)) :=
    AnyZ.keys_gives (ρ := Tryd.keysM_ren) { Tryd.keysM with } Fence.wide _ trivial rfl (by omega) w.heap.size B nn _ _ (by simp) (by simp) (by
      obtain ⟨es, clock, hb, Ft, hs, hD⟩ := hown
      exact ⟨es, clock, (Below.heap_alloc _ _ B hbl).trans hb, Ft, hs, hD⟩)
  have hsorts : AnyZ.SortsIn Tryd.prog Tryd.sortedM_ren Fence.wide 4 :=
    ⟨fun blk off cap ss W hH hblk hsz => callsIn_wide.2 (AnyM.slices_Sort_string Tryd.sortM blk off cap ss W hH hblk hsz),
     fun p cap W => callsIn_wide.2 (AnyM.slices_Sort_string_none Tryd.sortM p cap W)⟩
  have cS := AnyZ.sorted_in Tryd.sortedM Fence.wide 5 trivial trivial trivial trivial rfl (by omega) hsorts (enters_of Tryd.func67 (by kernel_rfl) rfl) 68 #[.pointer (some ⟨w.heap.size, 0, none⟩)] trivial (enters_of Tryd.func68 (by kernel_rfl) rfl) _ _ (by rw [map_size]; decide) (by rw [map_size]; decide) _ hseq
  refine (callsIn_wide.1 cS).mono ?_
  rintro e w' ⟨v, ss, rfl, hS, hrow, hnil, hb⟩
  have hsl : ss.length = 262 := by
    have := (hS.trans (List.isPerm_iff.1 keys_perm)).length_eq
    rw [this, wdS_len]
  rw [sorted_keys ss hS, hsl] at hrow
  obtain ⟨_, hrow⟩ := hrow
  rcases hrow with ⟨rfl, h0⟩ | ⟨g, cap, cur, rfl, hg, hheap, hnc, hcm, hcs, htake⟩
  · cases h0
  · refine ⟨g, cap, rfl, hnc, hcm, ?_, fun i x hx => ?_, ((Below.refl _ w).alloc (Nat.le_refl _) _).trans (hb.mono (by simp))⟩
    · have : w.heap.size ≤ (w.alloc (.cells #[.map (some B)] 87)).heap.size := by simp
      omega
    · rw [show w'.cell? ⟨g, i, none⟩ = cur[i]? from cell_of_row w' g i _ _ _ hheap]
      have h2 : (cur.toList.take (262 * 1))[i]? = some (encStr x) := by rw [htake, List.getElem?_map, hx]; rfl
      have hi : i < 262 := by
        have := (List.getElem?_eq_some_iff.1 hx).1
        rw [wdS_len] at this; exact this
      rw [List.getElem?_take, if_pos (by omega), Array.getElem?_toList] at h2
      exact h2
set_option maxRecDepth 100000 in
theorem All_c (w : World) (hasc : AscS w) :
    Calls Tryd.prog 14 #[] w fun e w' => ∃ g, e = .returned (.slice (some ⟨g, 0, none⟩) 262 262) ∧ w.heap.size ≤ g ∧ RowS w' g wdS ∧ Below w.heap.size w w' := by
  have HR := hide (reserved_c 35 #[] (fun _ => true) w (enters_of Tryd.func35 (by kernel_rfl) rfl) (fun x W _ _ _ => all1_c x W) hasc)
  clear hasc
  go_enter Tryd.func14, Tryd.ntmps14
  go_wp2_with fail
  refine HR.out.mono ?_
  rintro e w1 ⟨B, rfl, hB, ho, hb1⟩
  have HO := hide ho
  have HB1 := hide hb1
  clear hB ho hb1 HR
  go_wp2_with fail
  refine (callsIn_wide.1 (show CallsIn Fence.wide 5 Tryd.prog 38 #[.map (some B)] w1 fun e w' => e = .returned (.func (.func 68) #[] #[.pointer (some ⟨w1.heap.size, 0, none⟩)]) ∧ w' = w1.alloc (.cells #[.map (some B)] 87) from AnyZ.keys_in Tryd.keysM Fence.wide 5 trivial rfl (some B) w1)).mono ?_
  rintro e w2 ⟨rfl, rfl⟩
  have HS := hide (Sorted_c B _ _ w1 HO.out)
  clear HO
  go_wp2_with fail
  refine HS.out.mono ?_
  rintro e w3 ⟨g, cap, rfl, h1, h2, hg, hrow, hb3⟩
  have HRW := hide hrow
  have HB3 : Hid (Below w.heap.size w w3) := HB1.out.trans (hb3.mono HB1.out.size)
  have HG : Hid (w.heap.size ≤ g) := Nat.le_trans HB1.out.size hg
  clear hrow hb3 hg HS
  go_wp2_with fail
  refine (Clip_c g 262 cap w3 h1 h2).mono ?_
  rintro e w4 ⟨rfl, rfl⟩
  go_wp2_with fail
  go_ret
  exact ⟨g, rfl, HG.out, HRW.out, HB3.out⟩
end Go.Proofs.YthdggnkpncoikaaDoor
