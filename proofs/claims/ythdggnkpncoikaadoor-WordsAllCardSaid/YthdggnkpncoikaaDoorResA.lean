/-
  CONTRACT of reserved's function that adds a list (layer 5, words).
-/
import Derived.Test.YthdggnkpncoikaaDoorFldS
import Derived.Maps.OwnIn
import Derived.Maps.OwnOps
import Derived.Maps.Views
import Derived.StringKeys
import Derived.WalkMore
namespace Go.Proofs.YthdggnkpncoikaaDoor
open Go.RowKit Go.Shelf Go.Maps
attribute [local go_sem] Oper.semAt_some

/-- the words of a list that are wanted, added with their class -/
def foldC (p : List UInt8 → Bool) (c : Int) (D : DataW Unit) (l : List (List UInt8)) : DataW Unit :=
  l.foldl (fun D x => if p x then D.put (.string x) (.lit (.int .u8 c)) else D) D
theorem foldC_snoc (p : List UInt8 → Bool) (c : Int) (D : DataW Unit) (l : List (List UInt8)) (x : List UInt8) :
    foldC p c D (l ++ [x]) = if p x then (foldC p c D l).put (.string x) (.lit (.int .u8 c)) else foldC p c D l := by
  unfold foldC; rw [List.foldl_append]; rfl
theorem foldC_map (p : List UInt8 → Bool) (c : Int) (D : DataW Unit) (l : List (List UInt8)) (h : IsMap D) : IsMap (foldC p c D l) := by
  unfold foldC
  induction l generalizing D with
  | nil => exact h
  | cons x l ih =>
    rw [List.foldl_cons]
    refine ih _ ?_
    split
    · exact h.put _ _
    · exact h
theorem foldC_at (p : List UInt8 → Bool) (c : Int) (D : DataW Unit) (l : List (List UInt8)) (h : IsMap D) (y : List UInt8) (z : DataW Unit) :
    (foldC p c D l).atKey (.string y) z = if p y = true ∧ y ∈ l then .lit (.int .u8 c) else D.atKey (.string y) z := by
  unfold foldC
  induction l generalizing D with
  | nil => simp
  | cons x l ih =>
    rw [List.foldl_cons, ih _ (by split; exact h.put _ _; exact h)]
    by_cases h1 : p y = true ∧ y ∈ l
    · rw [if_pos h1, if_pos ⟨h1.1, List.mem_cons_of_mem _ h1.2⟩]
    · rw [if_neg h1]
      by_cases hx : y = x
      · subst hx
        by_cases hp : p y = true
        · rw [if_pos hp, if_pos ⟨hp, List.mem_cons_self⟩]
          exact atKey_put_same h (show WideAt.IsKeyLit (.string y) from trivial) _ _
        · rw [if_neg hp, if_neg (fun e => hp e.1)]
      · have hiff : (p y = true ∧ y ∈ x :: l) ↔ (p y = true ∧ y ∈ l) := by simp [List.mem_cons, hx]
        rw [if_neg (fun e => h1 (hiff.1 e))]
        by_cases hp : p x = true
        · rw [if_pos hp]
          exact atKey_put_other (k := .string x) (k' := .string y) (fun e => hx (Lit.string.inj e)) _ _
        · rw [if_neg hp]

theorem fieldsGo_len (x : List UInt8) : ∀ (l cur : List UInt8), x ∈ Lib.fieldsGo cur l → x.length ≤ cur.length + l.length
  | [], cur, h => by
    cases cur with
    | nil => simp [Lib.fieldsGo] at h
    | cons a r => simp [Lib.fieldsGo] at h; subst h; simp
  | b :: l, cur, h => by
    rw [Lib.fieldsGo] at h
    split at h
    · split at h
      · have := fieldsGo_len x l [] h; simp at this ⊢; omega
      · rcases List.mem_cons.1 h with rfl | h
        · simp
        · have := fieldsGo_len x l [] h; simp at this ⊢; omega
    · have := fieldsGo_len x l (cur ++ [b]) h; simp at this ⊢; omega
theorem keyStr : Keyed Tryd.prog 9 := string_keyed Tryd.underlying9

/-- what holds between two words -/
structure AddI (n0 : Nat) (w0 : World) (bw bc cb B : Nat) (fv : Value) (c : Int) (N : Nat) (D : DataW Unit) (p : List UInt8 → Bool) (pre : List ByteArray) (W : World) : Prop where
  wb : Boxed W bw 22 fv
  mb : Boxed W bc 87 (.map (some B))
  kb : Boxed W cb 39 (.int .u8 c)
  own : W.ownsMap Tryd.prog 9 (plainElem Tryd.prog 39) B (N + pre.length) (foldC p c D (pre.map (·.data.toList)))
  bel : Below n0 w0 W
  siz : n0 ≤ W.heap.size
  big : cb + 1 < W.heap.size
theorem AddI.kept {n0 : Nat} {w0 : World} {bw bc cb B : Nat} {fv : Value} {c : Int} {N : Nat} {D : DataW Unit} {p : List UInt8 → Bool} {pre : List ByteArray} {W W' : World} {row : Option Nat} (h : AddI n0 w0 bw bc cb B fv c N D p pre W) (hg : W.grownBy W' row)
    (hr : ∀ r, row = some r → n0 ≤ r ∧ r ≠ bw ∧ r ≠ bc ∧ r ≠ cb ∧ r ≠ B) : AddI n0 w0 bw bc cb B fv c N D p pre W' :=
  ⟨h.wb.kept hg (fun e => (hr bw e.symm).2.1 rfl), h.mb.kept hg (fun e => (hr bc e.symm).2.2.1 rfl), h.kb.kept hg (fun e => (hr cb e.symm).2.2.2.1 rfl), h.own.kept hg (fun e => (hr B e.symm).2.2.2.2 rfl), h.bel.grown hg h.siz (fun r e => (hr r e).1), Nat.le_trans h.siz hg.size, Nat.lt_of_lt_of_le h.big hg.size⟩

theorem AddI.skip {n0 : Nat} {w0 : World} {bw bc cb B : Nat} {fv : Value} {c : Int} {N : Nat} {D : DataW Unit} {p : List UInt8 → Bool} {pre : List ByteArray} {W : World} (h : AddI n0 w0 bw bc cb B fv c N D p pre W) (x : ByteArray) (hp : p x.data.toList = false) :
    AddI n0 w0 bw bc cb B fv c N D p (pre ++ [x]) W := by
  refine ⟨h.wb, h.mb, h.kb, ?_, h.bel, h.siz, h.big⟩
  have h1 := h.own.mono (n' := N + (pre ++ [x]).length) (by rw [List.length_append]; omega)
  rw [List.map_append, List.map_singleton, foldC_snoc, hp, if_neg (by simp)]
  exact h1
theorem AddI.step {n0 : Nat} {w0 : World} {bw bc cb B : Nat} {fv : Value} {c : Int} {N : Nat} {D : DataW Unit} {p : List UInt8 → Bool} {pre : List ByteArray} {W W' : World} (h : AddI n0 w0 bw bc cb B fv c N D p pre W) (x : ByteArray) (hp : p x.data.toList = true)
    (hB : n0 ≤ B) (ho : W'.ownsMap Tryd.prog 9 (plainElem Tryd.prog 39) B (N + pre.length + 1) ((foldC p c D (pre.map (·.data.toList))).put (.string x.data.toList) (.lit (.int .u8 c)))) (hg : W.grownBy W' (some B)) (h1 : B ≠ bw) (h2 : B ≠ bc) (h3 : B ≠ cb) :
    AddI n0 w0 bw bc cb B fv c N D p (pre ++ [x]) W' := by
  refine ⟨h.wb.kept hg (fun e => h1 (by injection e with e; exact e.symm)), h.mb.kept hg (fun e => h2 (by injection e with e; exact e.symm)), h.kb.kept hg (fun e => h3 (by injection e with e; exact e.symm)), ?_, h.bel.grown hg h.siz (fun r e => by injection e with e; omega), Nat.le_trans h.siz hg.size, Nat.lt_of_lt_of_le h.big hg.size⟩
  rw [List.map_append, List.map_singleton, foldC_snoc, hp, if_pos rfl, List.length_append]
  exact ho
theorem grownBy_drewN (w : World) (k : Nat) : w.grownBy (w.drewN k) none := ⟨rfl, rfl, rfl, Nat.le_refl _, fun _ _ _ => rfl⟩
theorem ownsMap_ne_box {w : World} {P : Program} {k t : TypeId} {R : Value → Option (DataW Unit × List MemPlace)} {b n b1 : Nat} {D : DataW Unit} {v : Value} (h : w.ownsMap P k R b n D) (hb : Boxed w b1 t v) : b ≠ b1 := by
  rintro rfl
  obtain ⟨es, cl, h1, _⟩ := h
  have := h1.symm.trans hb
  cases this

set_option maxHeartbeats 2000000 in
set_option maxRecDepth 100000 in
theorem add_c (s : ByteArray) (c : Int) (bw bc B g : Nat) (lb : Array Value) (N : Nat) (D : DataW Unit) (p : List UInt8 → Bool) (w0 w : World) (hwf : (Lit.int .u8 c).wf = true) (hs : s.size ≤ 1000000) (ha : ∀ (j : Nat) x, s.data.toList[j]? = some x → x.toNat < 128)
    (hN : N ≤ 1000000) (hl : (Lib.fields s.data.toList).length ≤ 1000000)
    (eg : ∀ args w, (callFunc g args).run Tryd.prog w = .ok (.enter g args) w)
    (hp : ∀ (x : ByteArray) (W : World), x.data.toList ∈ Lib.fields s.data.toList → Below w0.heap.size w0 W → Calls Tryd.prog g (#[.string x] ++ lb) W fun e w' => e = .returned (.bool (p x.data.toList)) ∧ ∃ k, w' = W.drewN k)
    (hw : Boxed w bw 22 (.func (.func g) #[] lb)) (hm : Boxed w bc 87 (.map (some B)))
    (ho : w.ownsMap Tryd.prog 9 (plainElem Tryd.prog 39) B N D) (hb : Below w0.heap.size w0 w) (h0 : w0.heap.size ≤ bw) (h1 : w0.heap.size ≤ bc) (h2 : w0.heap.size ≤ B) (hasc : AscS w0) :
    Calls Tryd.prog 69 #[.string s, .int .u8 c, .pointer (some ⟨bw, 0, none⟩), .pointer (some ⟨bc, 0, none⟩)] w fun e w' => e = .returned (.tuple #[]) ∧
      Boxed w' bw 22 (.func (.func g) #[] lb) ∧ Boxed w' bc 87 (.map (some B)) ∧
      w'.ownsMap Tryd.prog 9 (plainElem Tryd.prog 39) B (N + (Lib.fields s.data.toList).length) (foldC p c D (Lib.fields s.data.toList)) ∧ Below w0.heap.size w0 w' := by
  have HP := hide hp
  clear hp
  have hsz0 := hb.size
  have hbwl := hw.lt
  have hbcl := hm.lt
  have hBl := ho.lt
  have hmm : ((Lib.fields s.data.toList).map mk).map (·.data.toList) = Lib.fields s.data.toList := by
    rw [List.map_map, show ((fun x : ByteArray => x.data.toList) ∘ mk) = id from rfl, List.map_id]
  refine (callsIn_wide (n := 10)).1 (callsIn_of_wp_marks Tryd.func69 rfl trivial ?_ rfl)
  simp only [Tryd.ntmps69, List.size_toArray, List.length_cons, List.length_nil, Nat.reduceAdd, Nat.reduceSub, Array.replicate_succ, Array.replicate_zero, List.push_toArray, List.append_toArray, List.nil_append, List.cons_append]
  refine wpIn_wide.2 ?_
  go_wp2_with fail
  refine (fields_mk s _).mono ?_
  rintro e w' ⟨rfl, rfl⟩
  go_wp2_with fail
  have hbel : Below w0.heap.size w0 ((w.alloc (.cells #[.int .u8 c] 39)).alloc (.cells #[.string s] 9)) := (hb.alloc hsz0 _).alloc (by simp; omega) _
  obtain ⟨W0, hW0⟩ : ∃ W0, W0 = ((w.alloc (.cells #[.int .u8 c] 39)).alloc (.cells #[.string s] 9)) := ⟨_, rfl⟩
  rw [← hW0] at hbel
  have hsz : W0.heap.size = w.heap.size + 1 + 1 := by rw [hW0]; simp
  have hbox : Boxed W0 (w.heap.size + 1) 9 (.string s) := by
    rw [hW0]
    have := Boxed.new (w.alloc (.cells #[.int .u8 c] 39)) 9 (.string s)
    simpa using this
  have hI0 : AddI w0.heap.size w0 bw bc w.heap.size B (.func (.func g) #[] lb) c N D p [] W0 := by
    rw [hW0]
    exact ⟨(hw.alloc _).alloc _, (hm.alloc _).alloc _, (Boxed.new w _ _).alloc _, (ho.alloc _).alloc _, by rw [← hW0]; exact hbel, by simp; omega, by simp⟩
  have hseq := fields_seq 9 _ s W0 hs ha (by omega) hbox
  have HI0 := hide hI0
  clear hbox hI0
  rw [← hW0]
  refine (wpIn_wide (n := 10)).1 ?_
  refine wpIn_rangeFunc_T (n := 10) (F := Fence.wide) rfl (by omega) (gf := 101) (lb := #[.pointer (some ⟨w.heap.size + 1, 0, none⟩)]) rfl trivial (enters_of Tryd.func101 (by kernel_rfl) rfl)
    hseq (by omega) (Below.refl _ _) (fun _ => rfl) (AddI w0.heap.size w0 bw bc w.heap.size B (.func (.func g) #[] lb) c N D p) (fun _ _ _ => False) ?hI ?hIx ?hIb ?hIxb ?hIT HI0.out ?a1 ?assign ?body ?done ?stop
  case hI =>
    intro pre W W' row h hg hr
    refine h.kept hg (fun r e => ?_)
    have := (hr r e).1
    omega
  case hIx => intro c' pre W W' row h hg hr; exact h.elim
  case hIb =>
    intro pre W W' h hg
    refine h.kept hg (fun r e => ?_)
    injection e with e
    omega
  case hIxb => intro c' pre W W' h hg; exact h.elim
  case hIT => exact fun s A h => hasc.below (.inl (Nat.le_refl _)) h.bel
  case stop => intro D' c' pre W _ _ h; exact h.elim
  case assign =>
    intro l x W K hK
    gi_wp2
    exact hK
  case body =>
    intro l pre x W hl hi hpre
    have hmem : x.data.toList ∈ Lib.fields s.data.toList := by
      have h1 : x ∈ (Lib.fields s.data.toList).map mk := hpre.subset (by simp)
      obtain ⟨c1, hc1, rfl⟩ := List.mem_map.1 h1
      exact hc1
    have hxs : x.size ≤ 1000000 := by
      have := fieldsGo_len _ _ _ hmem
      rw [len_data, len_data] at this
      simp at this
      omega
    have hlen := hpre.length_le
    rw [List.length_append, List.length_map, List.length_singleton] at hlen
    have hwc := hi.wb.cell
    have hcall := hide (HP.out x W hmem hi.bel)
    have HI := hide hi
    have HL := hide hl
    clear hi hmem hpre
    cases hpx : p x.data.toList
    · rw [hpx] at hcall
      have HPX := hide hpx
      clear hpx
      gi_wp2
      refine ⟨trivial, CallsIn.inRound l (callsIn_wide.2 (hcall.out.mono ?_))⟩
      rintro e w' ⟨rfl, k, hk⟩
      have HI' : Hid (AddI w0.heap.size w0 bw bc w.heap.size B (.func (.func g) #[] lb) c N D p pre w') := by
        unfold Hid; rw [hk]; exact HI.out.kept (grownBy_drewN W k) (fun r e => by cases e)
      have HKF : Hid (KeepsFrom W0.heap.size W w' ∧ w'.heap[w.heap.size + 1]? = W.heap[w.heap.size + 1]?) := by
        unfold Hid; rw [hk]; exact ⟨⟨Nat.le_refl _, fun _ _ _ h _ => h⟩, rfl⟩
      clear hk
      gi_wp2
      exact ⟨HKF.out.1, HKF.out.2, HI'.out.skip x HPX.out⟩
    · rw [hpx] at hcall
      have HPX := hide hpx
      clear hpx
      gi_wp2
      refine ⟨trivial, CallsIn.inRound l (callsIn_wide.2 (hcall.out.mono ?_))⟩
      rintro e w' ⟨rfl, k, hk⟩
      have HI' : Hid (AddI w0.heap.size w0 bw bc w.heap.size B (.func (.func g) #[] lb) c N D p pre w') := by
        unfold Hid; rw [hk]; exact HI.out.kept (grownBy_drewN W k) (fun r e => by cases e)
      have HKF : Hid (KeepsFrom W0.heap.size W w' ∧ w'.heap[w.heap.size + 1]? = W.heap[w.heap.size + 1]?) := by
        unfold Hid; rw [hk]; exact ⟨⟨Nat.le_refl _, fun _ _ _ h _ => h⟩, rfl⟩
      clear hk
      have hmc := HI'.out.mb.cell
      have hkc := HI'.out.kb.cell
      obtain ⟨w1, hrun, hown1, hgrow1⟩ := HI'.out.own.update (t := 87) (e := 39) keyStr Tryd.underlying87 (by unfold maxLen; omega) (key := .string x) (val := .int .u8 c) (Go.WideMaps.keyOf_string_mk Tryd.underlying9 (by unfold maxLen; omega)) (plainElem_int Tryd.underlying39 hwf)
      have HO := hide hown1
      have HG := hide hgrow1
      clear hown1 hgrow1
      gi_wp2
      exact ⟨HKF.out.1.trans (KeepsFrom.of_grownBy HG.out (fun j e => by injection e with e; omega)), (HG.out.block _ HI'.out.big (fun e => by injection e with e; omega)).trans HKF.out.2, HI'.out.step x HPX.out h2 HO.out HG.out (ownsMap_ne_box HI'.out.own HI'.out.wb) (ownsMap_ne_box HI'.out.own HI'.out.mb) (ownsMap_ne_box HI'.out.own HI'.out.kb)⟩
  case done =>
    intro D' W hD hi hDK
    have HI := hide hi
    have HDK := hide hDK
    clear hi hDK
    gi_wp2
    refine ⟨by simp, .inl ⟨_, _, rfl, run_takeDeferred HDK.out, ?_⟩⟩
    have hk := HI.out.kept (grownBy_putObj' W D' (.deferred none)) (fun r e => by injection e with e; have := HI.out.big; omega)
    refine ⟨_, results_none rfl _ _ _, rfl, hk.wb, hk.mb, ?_, hk.bel⟩
    have ho2 := hk.own
    rw [hmm, List.length_map] at ho2
    exact ho2
end Go.Proofs.YthdggnkpncoikaaDoor
