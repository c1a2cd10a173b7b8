/-
  CONTRACTS of strings.Builder wherever it lies in a block of cells (layer 2, columns): copyCheck, Len, WriteString, String, Reset.
-/
import Derived.Test.YteceealibfemjaaDoorFrame
import Derived.Lib.Builder
import Derived.Lib.AppendStr
import Derived.Lib.UnsafeStr
import Derived.Laws.Externs
import Derived.Lib.Strings
import Derived.Lib.Slices
import Derived.Lib.Walk
namespace Go.Proofs.YteceealibfemjaaDoor
open Go.RowKit

theorem infoBld : (Tryd.prog.info? 46).map (fun i => i.size) = some 2 := by kernel_rfl
theorem infoByte : (Tryd.prog.info? 5).map (fun i => (i.zero, i.size, i.bytes)) = some (some (.int .u8 0), 1, 1) := by kernel_rfl

/-- a builder lies at place k of block b, whose cells are cs -/
structure BIn (w : World) (b k : Nat) (T : TypeId) (cs : Array Value) : Prop where
  heap : w.heap[b]? = some (.cells cs T (0, 0))
  room : k + 1 < cs.size
  lies : liesAt Tryd.prog Tryd.prog.depth T (cs.size / Tryd.prog.cellsOf T) k 46 1 = true
  byte : T ≠ 5
theorem BIn.lt {w : World} {b k : Nat} {T : TypeId} {cs : Array Value} (h : BIn w b k T cs) : b < w.heap.size := lt_of_block h.heap
theorem BIn.cell {w : World} {b k : Nat} {T : TypeId} {cs : Array Value} (h : BIn w b k T cs) (j : Nat) : w.cell? ⟨b, j, none⟩ = cs[j]? := Lib.cell_of_heap h.heap j
theorem BIn.free {w : World} {b k : Nat} {T : TypeId} {cs : Array Value} (h : BIn w b k T cs) (j : Nat) : w.frozen? ⟨b, j, none⟩ = false := Lib.frozen_of_heap h.heap j
theorem BIn.shape {w : World} {b k : Nat} {T : TypeId} {cs : Array Value} (h : BIn w b k T cs) : w.shape? b = some (T, cs.size) := by simp [World.shape?, h.heap]
theorem BIn.set {w : World} {b k : Nat} {T : TypeId} {cs : Array Value} (h : BIn w b k T cs) (j : Nat) (v : Value) : BIn (w.setCell ⟨b, j, none⟩ v) b k T (cs.setIfInBounds j v) :=
  ⟨by simp [World.setCell, Array.getElem?_modify, h.heap], by simpa using h.room, by simpa using h.lies, h.byte⟩
theorem BIn.kept {M : Nat → Prop} {w w' : World} {b k : Nat} {T : TypeId} {cs : Array Value} (h : BIn w b k T cs) (hm : Mods M w w') (hM : ¬ M b) : BIn w' b k T cs := ⟨(hm.block b h.lt hM).trans h.heap, h.room, h.lies, h.byte⟩

set_option maxHeartbeats 1000000 in
set_option maxRecDepth 100000 in
theorem copyCheck_used (b k : Nat) (w : World) (h0 : w.cell? ⟨b, k, none⟩ = some (.pointer (some ⟨b, k, none⟩))) :
    Calls Tryd.prog 35 #[.pointer (some ⟨b, k, none⟩)] w fun e w' => e = .returned (.tuple #[]) ∧ w = w' := by
  obtain ⟨j, hj, _⟩ := Option.map_eq_some_iff.1 infoBld
  go_enter Tryd.func35, Tryd.ntmps35
  go_wp2_with fail
  rw [Lib.run_neq_ptr_same w _ Tryd.underlying43 hj]
  go_wp2_with fail
  go_end0
  exact ⟨rfl, rfl⟩

set_option maxHeartbeats 1000000 in
set_option maxRecDepth 100000 in
theorem copyCheck_fresh (b k : Nat) (T : TypeId) (cs : Array Value) (w : World) (h : BIn w b k T cs) (hp : cs[k]? = some (.pointer none)) :
    Calls Tryd.prog 35 #[.pointer (some ⟨b, k, none⟩)] w fun e w' => e = .returned (.tuple #[]) ∧ w' = w.setCell ⟨b, k, none⟩ (.pointer (some ⟨b, k, none⟩)) := by
  obtain ⟨j, hj, hjs⟩ := Option.map_eq_some_iff.1 infoBld
  have h0 : w.cell? ⟨b, k, none⟩ = some (.pointer none) := (h.cell k).trans hp
  have hsh := h.shape
  have hfz := h.free k
  have hlt : k < cs.size := by have := h.room; omega
  have hli := h.lies
  clear hp h
  go_enter Tryd.func35, Tryd.ntmps35
  go_wp2_with fail
  rw [Lib.run_to_unsafe w ⟨b, k, none⟩ Tryd.underlying43 Tryd.underlying99 hj (by rw [hjs]; decide) hsh hlt]
  simp only [Result.andThen]
  rw [Oper.upon_value]
  go_wp2_with fail
  rw [run_callFunc_extern Tryd.func54 (by kernel_rfl) (by kernel_rfl) (by kernel_rfl) (e := Extern.AbiNoEscape.same) (by kernel_rfl)]
  rw [Lib.run_noEscape]
  simp only [Result.andThen]
  rw [Oper.upon_value]
  go_wp2_with fail
  rw [Lib.run_from_unsafe w ⟨b, k, none⟩ Tryd.underlying99 Tryd.underlying43 hj hsh hli]
  simp only [Result.andThen]
  rw [Oper.upon_value]
  go_wp2_with fail
  go_end0
  exact ⟨rfl, rfl⟩

theorem copyCheck_c (b k : Nat) (T : TypeId) (cs : Array Value) (w : World) (h : BIn w b k T cs) (hp : cs[k]? = some (.pointer none) ∨ cs[k]? = some (.pointer (some ⟨b, k, none⟩))) :
    Calls Tryd.prog 35 #[.pointer (some ⟨b, k, none⟩)] w fun e w' => e = .returned (.tuple #[]) ∧ BIn w' b k T (cs.setIfInBounds k (.pointer (some ⟨b, k, none⟩))) ∧ Mods (· = b) w w' := by
  rcases hp with hp | hp
  · refine (copyCheck_fresh b k T cs w h hp).mono ?_
    rintro e w' ⟨rfl, rfl⟩
    exact ⟨rfl, h.set _ _, (Mods.refl _ _).set _ _ _ (fun _ => rfl)⟩
  · refine (copyCheck_used b k w ((h.cell k).trans hp)).mono ?_
    rintro e w' ⟨rfl, rfl⟩
    refine ⟨rfl, ?_, Mods.refl _ _⟩
    have : cs.setIfInBounds k (.pointer (some ⟨b, k, none⟩)) = cs := by
      apply Array.ext_getElem?
      intro i
      rw [Array.getElem?_setIfInBounds]
      split
      · subst i; rw [hp]; have := h.room; simp; omega
      · rfl
    rw [this]; exact h

set_option maxHeartbeats 2000000 in
set_option maxRecDepth 100000 in
/-- WriteString: the builder's buffer owns the bytes and the text behind them -/
theorem bWrite_c (B b k : Nat) (T : TypeId) (cs : Array Value) (v : Value) (bs : List Value) (s : ByteArray) (w : World) (h : BIn w b k T cs)
    (hp : cs[k]? = some (.pointer none) ∨ cs[k]? = some (.pointer (some ⟨b, k, none⟩))) (hv : cs[k + 1]? = some v) (hown : w.ownsRow B 5 1 v bs.length bs) (hB : B ≤ w.heap.size) (hlen : bs.length + s.size ≤ 10000000) :
    Calls Tryd.prog 16 #[.pointer (some ⟨b, k, none⟩), .string s] w fun e w' => e = .returned (.tuple #[.int .i64 s.size, .nilIface]) ∧
      ∃ v', BIn w' b k T ((cs.setIfInBounds k (.pointer (some ⟨b, k, none⟩))).setIfInBounds (k + 1) v') ∧ w'.ownsRow B 5 1 v' (bs.length + s.size) (bs ++ Lib.strCells s) ∧ Mods (fun j => j = b ∨ v.ownBlock = some j) w w' := by
  obtain ⟨i0, hi, hz0, hz1, hz2⟩ := info_parts infoByte
  have hb := h.lt
  have hne : v.ownBlock ≠ some b := by
    intro e
    obtain ⟨o, ho, he, _⟩ := own_elem hown b e
    rw [h.heap] at ho
    cases ho
    exact h.byte (by simpa [elemT] using he)
  have hroom := h.room
  have HP := hide hp
  have HV := hide hv
  have HH := hide h
  clear hp hv h
  go_enter Tryd.func16, Tryd.ntmps16
  go_wp2_with fail
  refine (copyCheck_c b k T cs w HH.out HP.out).mono ?_
  rintro e w1 ⟨rfl, h1, hm1⟩
  have hown1 := own_kept hown hm1 (fun j hj e => hne (by rw [hj, e]))
  have c1 : w1.cell? ⟨b, k + 1, none⟩ = some v := by
    rw [h1.cell, Array.getElem?_setIfInBounds, if_neg (by omega)]; exact HV.out
  have H1 := hide h1
  have hs1 := hm1.size
  clear h1
  go_wp2_with (at_builtin; refine Lib.wpList_append_own_string _ rfl _ _ 44 9 rfl B 5 i0 Tryd.underlying44 Tryd.underlying9 hi hz0 hz1 hz2 _ _ _ rfl hown1 s rfl ?c3 ?c4 ?c5 ?_)
  case c3 => unfold maxLen; omega
  case c4 => omega
  case c5 => omega
  intro v' w2 hown' hgrow _
  have hm2 := Mods.of_grown hgrow
  have h2 := H1.out.kept hm2 hne
  have d1 : w2.cell? ⟨b, k + 1, none⟩ = some v := by
    rw [h2.cell, Array.getElem?_setIfInBounds, if_neg (by omega)]; exact HV.out
  have f1 := h2.free (k + 1)
  have H2 := hide h2
  obtain ⟨ao, n', cap, rfl⟩ : ∃ ao n' cap, v' = .slice ao n' cap := by
    rcases hown'.2 with ⟨hv, _⟩ | ⟨g, cap, cur, hv, _⟩
    · exact ⟨_, _, _, hv⟩
    · exact ⟨_, _, _, hv⟩
  have HO := hide hown'
  clear h2 hown' hgrow
  go_wp2_with fail
  go_ret2
  refine ⟨rfl, _, H2.out.set _ _, ?_, ?_⟩
  · refine own_kept HO.out ((Mods.refl (· = b) _).set _ _ _ (fun _ => rfl)) (fun j hj e => ?_)
    subst e
    obtain ⟨o, ho, he, _⟩ := own_elem HO.out _ hj
    rw [H2.out.heap] at ho
    cases ho
    exact H2.out.byte (by simpa [elemT] using he)
  · exact ((hm1.weak (fun _ _ e => .inl e)).trans' (M' := fun j => v.ownBlock = some j) hm2 (fun _ _ e => .inr e)).set _ _ _ (fun _ => .inl rfl)

set_option maxHeartbeats 1000000 in
set_option maxRecDepth 100000 in
/-- Len -/
theorem bLen_c (b k : Nat) (w : World) (A : Option Addr) (n cap : Nat) (h1 : w.cell? ⟨b, k + 1, none⟩ = some (.slice A n cap)) :
    Calls Tryd.prog 18 #[.pointer (some ⟨b, k, none⟩)] w fun e w' => e = .returned (.int .i64 (n : Int)) ∧ w = w' := by
  go_enter Tryd.func18, Tryd.ntmps18
  go_wp2_with fail
  go_ret
  exact ⟨rfl, rfl⟩

theorem set_same {cs : Array Value} {k : Nat} {v : Value} (h : cs[k]? = some v) : cs.setIfInBounds k v = cs := by
  apply Array.ext_getElem?
  intro i
  rw [Array.getElem?_setIfInBounds]
  split
  · subst i; rw [h]; rw [if_pos]; exact (Array.getElem?_eq_some_iff.1 h).1
  · rfl

set_option maxHeartbeats 1000000 in
set_option maxRecDepth 100000 in
/-- Reset -/
theorem bReset_c (b k : Nat) (T : TypeId) (cs : Array Value) (w : World) (p v : Value) (h : BIn w b k T cs) (hp : cs[k]? = some p) (hv : cs[k + 1]? = some v) :
    Calls Tryd.prog 75 #[.pointer (some ⟨b, k, none⟩)] w fun e w' => e = .returned (.tuple #[]) ∧ BIn w' b k T ((cs.setIfInBounds k (.pointer none)).setIfInBounds (k + 1) (.slice none 0 0)) ∧ Mods (· = b) w w' := by
  have c1 := (h.cell k).trans hp
  have c2 := (h.cell (k + 1)).trans hv
  have f1 := h.free k
  have f2 := h.free (k + 1)
  have HH := hide h
  clear h hp hv
  go_enter Tryd.func75, Tryd.ntmps75
  go_wp2_with fail
  go_end0
  exact ⟨rfl, (HH.out.set k _).set (k + 1) _, ((Mods.refl (· = b) w).set _ _ _ (fun _ => rfl)).set _ _ _ (fun _ => rfl)⟩

theorem cellsByte : Tryd.prog.cellsOf 5 = 1 := by kernel_rfl
theorem mods_freeze {M : Nat → Prop} {a w : World} (h : Mods M a w) (g n : Nat) (hM : g < a.heap.size → M g) : Mods M a (w.freeze ⟨g, 0, none⟩ n) := by
  refine h.trans' (M' := fun k => k = g) ?_ (fun i hi e => by subst e; exact hM hi)
  unfold World.freeze
  split
  · exact Mods.refl _ _
  · exact ⟨rfl, rfl, rfl, by simp, fun k _ hne => by
      simp only [Array.getElem?_modify]
      rw [if_neg (fun e => hne e.symm)]⟩

set_option maxHeartbeats 1000000 in
set_option maxRecDepth 100000 in
/-- String, of a builder that holds a byte at least: the bytes are frozen -/
theorem bString_c (B b k : Nat) (T : TypeId) (cs : Array Value) (v : Value) (l : List UInt8) (w : World) (h : BIn w b k T cs) (hv : cs[k + 1]? = some v) (hown : w.ownsRow B 5 1 v l.length (Lib.byteCells l)) (h0 : l ≠ []) (hl : l.length ≤ 10000000) :
    Calls Tryd.prog 19 #[.pointer (some ⟨b, k, none⟩)] w fun e w' => e = .returned (.string (mk l)) ∧ Mods (fun j => v.ownBlock = some j) w w' := by
  have hl0 : l.length ≠ 0 := by simpa using h0
  obtain ⟨g, cap, cur, rfl, hbg, hg, hnc, hcm, hcs, htake⟩ : ∃ g cap cur, v = .slice (some ⟨g, 0, none⟩) l.length cap ∧ B ≤ g ∧ w.heap[g]? = some (.cells cur 5 (0, 0)) ∧ l.length ≤ cap ∧ cap ≤ maxLen ∧ cur.size = cap * 1 ∧ cur.toList.take (l.length * 1) = Lib.byteCells l := by
    rcases hown.2 with ⟨_, hz⟩ | ⟨g, cap, cur, hv, r⟩
    · exact absurd hz hl0
    · exact ⟨g, cap, cur, hv, r⟩
  have c1 : w.drew.cell? ⟨b, k + 1, none⟩ = some (.slice (some ⟨g, 0, none⟩) l.length cap) := (h.cell (k + 1)).trans hv
  have hSD : (Builtin.unsafeSliceData_ #[44] 78 #[.slice (some ⟨g, 0, none⟩) l.length cap]).run Tryd.prog w.drew = .ok (.pointer (some ⟨g, 0, none⟩)) w.drew :=
    Lib.run_unsafeSliceData_row _ _ _ _ _ _ (by omega)
  have hUS : (Builtin.unsafeString_ #[78, 3] 9 #[.pointer (some ⟨g, 0, none⟩), .int .i64 l.length]).run Tryd.prog w.drew = .ok (.string ⟨l.toArray⟩) (w.drew.freeze ⟨g, 0, none⟩ l.length) := by
    refine Lib.run_unsafeString_row w.drew 78 3 9 5 Tryd.underlying78 cellsByte g cur.size (by have hg' : w.drew.heap[g]? = some (.cells cur 5 (0, 0)) := hg; simp [World.shape?, hg']) l h0 (by omega) (by unfold maxLen at hcm; omega) ?_
    intro j x hx
    have := hown.cells (g := g) rfl j (.int .u8 x.toNat) (by simp [Lib.byteCells, hx])
    exact this
  clear hv h hown htake hcs hg
  go_enter Tryd.func19, Tryd.ntmps19
  go_wp2_with fail
  go_region
  all_goals (go_wp2_with fail; go_ret; exact ⟨rfl, mods_freeze (Mods.drew (Mods.refl _ _)) _ _ (fun _ => rfl)⟩)
end Go.Proofs.YteceealibfemjaaDoor
