/-
  CONTRACTS of repeats and Expand (layer 6, pictures).
-/
import Derived.Test.YteceealibfemjaaGreatDoorFndP
import Derived.Test.YteceealibfemjaaGreatDoorLeaP
import Derived.Test.YteceealibfemjaaGreatDoorShelf
import Derived.Lib.AtoiErrMem
namespace Go.Proofs.YteceealibfemjaaGreatDoor
open Go.RowKit Go.Shelf

theorem tab_below {w w' : World} {name : String} {k : IntKind} {zs : List Int} (h : Lib.TabIs Tryz.prog w name k zs) (hb : Below w.heap.size w w') : Lib.TabIs Tryz.prog w' name k zs := by
  unfold Lib.TabIs World.var? at *
  cases hg : Tryz.prog.globalNamed name with
  | none => rw [hg] at h; simp at h
  | some g =>
    rw [hg] at h
    simp only [Option.bind_some] at h ⊢
    cases ho : w.heap[g]? with
    | none => rw [ho] at h; simp at h
    | some o =>
      have hlt := (Array.getElem?_eq_some_iff.1 ho).1
      rw [(hb.block g hlt).trans ho]
      rw [ho] at h
      exact h
/-- what the package-level variables hold -/
structure EnvP (w : World) : Prop where
  sym : SymW w
  max : ∃ m : Int, w.cell? ⟨1, 0, none⟩ = some (.int .i64 m)
  err : ∃ ev, w.cell? ⟨3, 0, none⟩ = some ev ∧ (ev = .nilIface ∨ ∃ te pe, ev = .iface te pe)
  pow : Lib.TabIs Tryz.prog w "internal/strconv.uint64pow10" .u64 Lib.pow10Tab
theorem EnvP.below {w w' : World} (h : EnvP w) (hb : Below w.heap.size w w') : EnvP w' := by
  obtain ⟨m, hm⟩ := h.max
  obtain ⟨ev, he, hv⟩ := h.err
  exact ⟨h.sym.below hb, ⟨m, (hb.cell (p := ⟨_, 0, none⟩) (World.block_lt_of_cell? _ _ hm)).trans hm⟩, ⟨ev, (hb.cell (p := ⟨_, 0, none⟩) (World.block_lt_of_cell? _ _ he)).trans he, hv⟩, tab_below h.pow hb⟩
theorem app_mk (a b : List UInt8) : mk a ++ mk b = mk (a ++ b) := by
  apply ByteArray.ext
  apply Array.toList_inj.1
  show (mk a ++ mk b).data.toList = a ++ b
  simp [mk]
theorem mk_sz (l : List UInt8) : (mk l).size = l.length := by show l.toArray.size = _; rw [List.size_toArray]
theorem extract_mk (Y : ByteArray) (a b : Nat) : Y.extract a b = mk ((Y.data.toList.drop a).take (b - a)) := by
  rw [show (Y.data.toList.drop a).take (b - a) = (Y.extract a b).data.toList by rw [Lib.extract_data], mk_of]
theorem repeatL_one (c : UInt8) (n : Nat) : Lib.repeatL [c] n = List.replicate n c := by
  induction n with
  | zero => rfl
  | succ n ih => first | (rw [Lib.repeatL, ih]; rfl) | (unfold Lib.repeatL at ih ⊢; simp [List.replicate_succ] at ih ⊢; try exact ih)
theorem Repeat_c (c : UInt8) (n : Nat) (w : World) (hn : n ≤ 1000000) :
    Calls Tryz.prog 20 #[.string ⟨#[c]⟩, .int .i64 (n : Int)] w fun e w' => e = .returned (.string (mk (List.replicate n c))) ∧ Below w.heap.size w w' := by
  refine (Tryz.strings_Repeat ⟨#[c]⟩ n w (by omega) (by show 1 * n ≤ _; omega)).mono ?_
  rintro e w' ⟨rfl, hb⟩
  refine ⟨?_, hb⟩
  rw [show (⟨#[c]⟩ : ByteArray).data.toList = [c] from rfl, repeatL_one]
  rfl
theorem parseUintM_dig (l : List UInt8) (acc : Nat) (hd : l.all Pic.isDig = true) (hb : acc * 10 ^ l.length + 10 ^ l.length ≤ 10 ^ 6) : Lib.parseUintM (2 ^ 64 - 1) acc l = .ok (l.foldl (fun n c => n * 10 + (c.toNat - 48)) acc) := by
  induction l generalizing acc with
  | nil => rfl
  | cons c r ih =>
    simp only [List.all_cons, Bool.and_eq_true] at hd
    have hc := (Pic.isDig_iff c).1 hd.1
    simp only [List.length_cons, Nat.pow_succ] at hb
    have hp : 1 ≤ 10 ^ r.length := Nat.one_le_pow _ _ (by omega)
    have hm : acc * 1 ≤ acc * (10 ^ r.length * 10) := Nat.mul_le_mul_left _ (by omega)
    have hstep : (acc * 10 + (c.toNat - 48)) * 10 ^ r.length + 10 ^ r.length ≤ 10 ^ 6 := by
      have h1 : (acc * 10 + (c.toNat - 48)) ≤ acc * 10 + 9 := by omega
      have h2 : (acc * 10 + (c.toNat - 48)) * 10 ^ r.length ≤ (acc * 10 + 9) * 10 ^ r.length := Nat.mul_le_mul_right _ h1
      have h3 : (acc * 10 + 9) * 10 ^ r.length + 10 ^ r.length = acc * (10 ^ r.length * 10) + 10 ^ r.length * 10 := by
        rw [Nat.add_mul, Nat.mul_assoc, Nat.mul_comm 10 (10 ^ r.length)]; omega
      omega
    unfold Lib.parseUintM
    rw [if_pos hc, if_neg (by omega), if_neg (by omega), ih _ hd.2 hstep]
    rfl
/-- what ParseUint's way ends in where the text is no number -/
def badN : Lib.NumEnd Nat := Lib.parseUintM 0 0 [0]
theorem parseUintM_syn (l : List UInt8) (acc : Nat) (hd : l.all Pic.isDig = false) (hb : acc * 10 ^ l.length + 10 ^ l.length ≤ 10 ^ 6) : Lib.parseUintM (2 ^ 64 - 1) acc l = badN := by
  induction l generalizing acc with
  | nil => simp at hd
  | cons c r ih =>
    unfold Lib.parseUintM
    by_cases hc : 48 ≤ c.toNat ∧ c.toNat ≤ 57
    · have hc' : Pic.isDig c = true := (Pic.isDig_iff c).2 hc
      simp only [List.all_cons, hc', Bool.true_and] at hd
      simp only [List.length_cons, Nat.pow_succ] at hb
      have hp : 1 ≤ 10 ^ r.length := Nat.one_le_pow _ _ (by omega)
      have hm : acc * 1 ≤ acc * (10 ^ r.length * 10) := Nat.mul_le_mul_left _ (by omega)
      have hstep : (acc * 10 + (c.toNat - 48)) * 10 ^ r.length + 10 ^ r.length ≤ 10 ^ 6 := by
        have h1 : (acc * 10 + (c.toNat - 48)) ≤ acc * 10 + 9 := by omega
        have h2 : (acc * 10 + (c.toNat - 48)) * 10 ^ r.length ≤ (acc * 10 + 9) * 10 ^ r.length := Nat.mul_le_mul_right _ h1
        have h3 : (acc * 10 + 9) * 10 ^ r.length + 10 ^ r.length = acc * (10 ^ r.length * 10) + 10 ^ r.length * 10 := by
          rw [Nat.add_mul, Nat.mul_assoc, Nat.mul_comm 10 (10 ^ r.length)]; omega
        omega
      rw [if_pos hc, if_neg (by omega), if_neg (by omega), ih _ hd hstep]
    · rw [if_neg hc]; rfl
theorem parse_small (l : List UInt8) (h5 : l.length ≤ 5) : (Lib.parseUintB 64 l = badN ∧ Pic.natL l = 0) ∨ Lib.parseUintB 64 l = .ok (Pic.natL l) := by
  have hp : 10 ^ l.length ≤ 10 ^ 5 := Nat.pow_le_pow_right (by omega) h5
  unfold Lib.parseUintB Pic.natL
  by_cases h0 : l = []
  · left; rw [if_pos h0, h0]; exact ⟨rfl, rfl⟩
  · rw [if_neg h0]
    have he : l.isEmpty = false := by cases l with | nil => exact absurd rfl h0 | cons _ _ => rfl
    cases hd : l.all Pic.isDig with
    | true =>
      right
      rw [parseUintM_dig l 0 hd (by omega), he, if_neg (by simp)]; rfl
    | false =>
      left
      rw [parseUintM_syn l 0 hd (by omega), he, if_pos (by simp)]; exact ⟨rfl, rfl⟩
/-- strconv.ParseUint of at most five bytes: the number, 0 for what is none -/
theorem pu_c (s : ByteArray) (w : World) (hs : s.size ≤ 5) (he : EnvP w) :
    Calls Tryz.prog 52 #[.string s, .int .i64 10, .int .i64 64] w fun e w' => ∃ v, e = .returned (.tuple #[.int .u64 (Pic.natL s.data.toList : Int), v]) ∧ Below w.heap.size w w' := by
  rcases parse_small s.data.toList (by rw [len_data]; exact hs) with ⟨h1, h2⟩ | h1
  · obtain ⟨ev, h3, h4⟩ := he.err
    refine (Tryz.strconv_ParseUint_10_at64_syntax s (by omega) h1 ev w h3 h4).mono ?_
    rintro e w' ⟨N, rfl, _, _, hb⟩
    rw [h2]
    exact ⟨_, rfl, hb⟩
  · refine (Tryz.strconv_ParseUint_10_at64_ok s (by omega) _ h1 w).mono ?_
    rintro e w' ⟨rfl, hw⟩
    refine ⟨_, rfl, ?_⟩
    rcases hw with rfl | rfl
    · exact Below.refl _ _
    · exact Lib.bytesWorld_below _ _ _
def RepPost (l : List UInt8) (w : World) (e : Ending) (w' : World) : Prop :=
  (∃ n b, Pic.repL l = some (n, b) ∧ e = .returned (.tuple #[.int .i64 (n : Int), .string (mk b), .bool true]) ∧ Below w.heap.size w w') ∨
  (Pic.repL l = none ∧ ∃ n b, e = .returned (.tuple #[.int .i64 n, .string b, .bool false]) ∧ Below w.heap.size w w')
theorem repL_paren (r : List UInt8) : Pic.repL (40 :: r) = if (Lib.cut r [41]).2.2 = true ∧ (Lib.cut r [41]).1.length ≤ 5 ∧ 0 < Pic.natL (Lib.cut r [41]).1 then some (Pic.natL (Lib.cut r [41]).1, (Lib.cut r [41]).2.1) else none := rfl

set_option maxRecDepth 100000 in
set_option maxHeartbeats 2000000 in
theorem repeats_c (s : ByteArray) (w : World) (hs : s.size ≤ 1000000) (he : EnvP w) :
    Calls Tryz.prog 25 #[.string s] w (RepPost s.data.toList w) := by
  obtain ⟨p1, hp1⟩ : ∃ p1, p1 = Lib.hasPrefix s.data.toList [40] := ⟨_, rfl⟩
  have HP1 : Hid (∀ W, Calls Tryz.prog 36 #[.string s, .string ⟨#[40]⟩] W fun e w' => e = .returned (.bool p1) ∧ W = w') := fun W => by rw [hp1]; exact (Tryz.strings_HasPrefix s ⟨#[40]⟩ W).mono fun _ _ h => ⟨h.1, h.2.symm⟩
  cases p1 with
  | false =>
    have hr : Pic.repL s.data.toList = some (1, s.data.toList) := by
      apply Pic.repL_one
      intro e
      cases hl : s.data.toList with
      | nil => rw [hl] at e; simp at e
      | cons a r =>
        rw [hl] at e hp1
        simp at e
        rw [e] at hp1
        simp [Lib.hasPrefix, List.isPrefixOf] at hp1
    have HR := hide hr
    clear hp1 hr he
    go_enter Tryz.func25, Tryz.ntmps25
    go_wp2_with fail
    refine (HP1.out _).mono ?_
    rintro e w' ⟨rfl, rfl⟩
    go_wp2_with fail
    go_ret3
    exact .inl ⟨1, s.data.toList, HR.out, rfl, Below.refl _ _⟩
  | true =>
    obtain ⟨r, hr⟩ : ∃ r, s.data.toList = 40 :: r := by
      cases hl : s.data.toList with
      | nil => rw [hl] at hp1; simp [Lib.hasPrefix, List.isPrefixOf] at hp1
      | cons a r => rw [hl] at hp1; simp [Lib.hasPrefix, List.isPrefixOf] at hp1; exact ⟨r, by rw [← hp1]⟩
    have hs1 : 1 ≤ s.size := by have := len_data s; rw [hr, List.length_cons] at this; omega
    have hU : s.extract 1 s.size = mk r := by
      rw [extract_mk, hr]
      show mk (r.take (s.size - 1)) = mk r
      rw [List.take_of_length_le]
      have := len_data s; rw [hr, List.length_cons] at this; omega
    obtain ⟨U, hUd⟩ : ∃ U, U = s.extract 1 s.size := ⟨_, rfl⟩
    have hUl : U.data.toList = r := by rw [hUd, hU]; rfl
    have hUs : U.size ≤ s.size := by rw [← len_data, hUl]; have := len_data s; rw [hr, List.length_cons] at this; omega
    obtain ⟨a, ha⟩ : ∃ a, a = (Lib.cut r [41]).1 := ⟨_, rfl⟩
    obtain ⟨b, hb⟩ : ∃ b, b = (Lib.cut r [41]).2.1 := ⟨_, rfl⟩
    obtain ⟨d, hd⟩ : ∃ d, d = (Lib.cut r [41]).2.2 := ⟨_, rfl⟩
    have hrep : Pic.repL s.data.toList = if d = true ∧ a.length ≤ 5 ∧ 0 < Pic.natL a then some (Pic.natL a, b) else none := by
      rw [hr, repL_paren, ha, hb, hd]
    have HCut : Hid (Calls Tryz.prog 51 #[.string U, .string ⟨#[41]⟩] w fun e w' => e = .returned (.tuple #[.string (mk a), .string (mk b), .bool d]) ∧ ∃ n, w' = w.drewN n) := by
      obtain ⟨m, hm⟩ := he.max
      refine (Tryz.strings_Cut U ⟨#[41]⟩ m w (by omega) hm).mono fun e w' h => ⟨?_, h.2⟩
      rw [h.1, ha, hb, hd, hUl]; rfl
    obtain ⟨N, hN⟩ : ∃ N, N = mk a := ⟨_, rfl⟩
    obtain ⟨V, hV⟩ : ∃ V, V = mk b := ⟨_, rfl⟩
    rw [← hN, ← hV] at HCut
    have hNs : N.size = a.length := by rw [hN, mk_sz]
    have hnat := Pic.natF_lt
    have HN := hide hN
    have HV := hide hV
    have HE := hide he
    have HR := hide hrep
    clear hp1 hr hU hUl ha hb hd hN hV he hrep hnat
    have hsl : (s.extract 1 s.size) = U := hUd.symm
    have HU := hide hsl
    clear hsl hUd
    cases d with
    | false =>
      have HR0 : Hid (Pic.repL s.data.toList = none) := by unfold Hid; rw [HR.out, if_neg (by simp)]
      clear HR
      go_enter Tryz.func25, Tryz.ntmps25
      go_wp2_with fail
      refine (HP1.out _).mono ?_
      rintro e w' ⟨rfl, rfl⟩
      go_wp2_with fail
      with_reducible rw [HU.out]
      refine HCut.out.mono ?_
      rintro e w' ⟨rfl, n, rfl⟩
      go_wp2_with fail
      go_ret3
      exact .inr ⟨HR0.out, _, _, rfl, below_drewN' (Below.refl _ _) _⟩
    | true =>
      by_cases h5 : a.length ≤ 5
      · have hN5 : ¬ (5 : Int) < (N.size : Int) := by omega
        have hN5' : N.size ≤ 5 := by omega
        have HPU : Hid (∀ W, Below w.heap.size w W → Calls Tryz.prog 52 #[.string N, .int .i64 10, .int .i64 64] W fun e w' => ∃ v, e = .returned (.tuple #[.int .u64 (Pic.natL a : Int), v]) ∧ Below W.heap.size W w') := fun W hb => by
          have := pu_c N W hN5' (HE.out.below hb)
          rw [HN.out, mk_data] at this
          rw [HN.out]; exact this
        obtain ⟨k, hk⟩ : ∃ k, k = Pic.natL a := ⟨_, rfl⟩
        have hk9 : k ≤ 99999 := by
          rw [hk]
          by_cases h0 : 0 < Pic.natL a
          · obtain ⟨_, q1, q2⟩ := Pic.natL_pos a h0
            have q3 := Pic.natF_lt a q1
            have q4 : 10 ^ a.length ≤ 10 ^ 5 := Nat.pow_le_pow_right (by omega) h5
            rw [q2]; omega
          · omega
        have HR2 : Hid (Pic.repL s.data.toList = if 0 < k then some (k, b) else none) := by
          unfold Hid
          rw [HR.out, hk]
          by_cases h0 : 0 < Pic.natL a
          · rw [if_pos ⟨rfl, h5, h0⟩, if_pos h0]
          · rw [if_neg (fun h => h0 h.2.2), if_neg h0]
        rw [← hk] at HPU
        clear hk HR h5 hNs
        go_enter Tryz.func25, Tryz.ntmps25
        go_wp2_with fail
        refine (HP1.out _).mono ?_
        rintro e w' ⟨rfl, rfl⟩
        go_wp2_with fail
        with_reducible rw [HU.out]
        refine HCut.out.mono ?_
        rintro e w' ⟨rfl, n, rfl⟩
        go_wp2_with fail
        refine (HPU.out _ (below_drewN' (Below.refl _ _) _)).mono ?_
        rintro e w' ⟨v, rfl, hb⟩
        have HB := hide ((below_drewN' (Below.refl w.heap.size w) n).trans (hb.mono (Nat.le_refl _)))
        clear hb
        by_cases h0 : 0 < k
        · have h0' : decide ((0 : Int) < (k : Int)) = true := decide_eq_true (by omega)
          have HR3 : Hid (Pic.repL s.data.toList = some (k, b)) := by unfold Hid; rw [HR2.out, if_pos h0]
          clear HR2
          go_wp2_with fail
          go_ret3
          exact .inl ⟨k, b, HR3.out, by rw [← HV.out]; rfl, HB.out⟩
        · have h0' : decide ((0 : Int) < (k : Int)) = false := decide_eq_false (by omega)
          have HR3 : Hid (Pic.repL s.data.toList = none) := by unfold Hid; rw [HR2.out, if_neg h0]
          clear HR2
          go_wp2_with fail
          go_ret3
          exact .inr ⟨HR3.out, _, _, rfl, HB.out⟩
      · have hN5 : (5 : Int) < (N.size : Int) := by omega
        have HR0 : Hid (Pic.repL s.data.toList = none) := by unfold Hid; rw [HR.out, if_neg (fun h => h5 h.2.1)]
        clear HR h5 hNs
        go_enter Tryz.func25, Tryz.ntmps25
        go_wp2_with fail
        refine (HP1.out _).mono ?_
        rintro e w' ⟨rfl, rfl⟩
        go_wp2_with fail
        with_reducible rw [HU.out]
        refine HCut.out.mono ?_
        rintro e w' ⟨rfl, n, rfl⟩
        go_wp2_with fail
        go_ret3
        exact .inr ⟨HR0.out, _, _, rfl, below_drewN' (Below.refl _ _) _⟩
end Go.Proofs.YteceealibfemjaaGreatDoor
