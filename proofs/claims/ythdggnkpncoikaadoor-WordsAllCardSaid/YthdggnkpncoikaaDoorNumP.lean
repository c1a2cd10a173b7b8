/-
  NUMBERS as plain facts (layer 5, words).
-/
import Derived.Test.YthdggnkpncoikaaDoorZonW
namespace Go.Proofs.YthdggnkpncoikaaDoor
open Go.RowKit

/-- the sign of a number, and what stands behind it -/
def sgL (l : List UInt8) : List UInt8 := if Lib.hasPrefix l [43] then [43] else if Lib.hasPrefix l [45] then [45] else []
def unL (l : List UInt8) : List UInt8 := l.drop (sgL l).length
def frL (l : List UInt8) : List UInt8 := (Lib.cut (unL l) [46]).1
def bhL (l : List UInt8) : List UInt8 := (Lib.cut (unL l) [46]).2.1
def dvB (l : List UInt8) : Bool := (Lib.cut (unL l) [46]).2.2
def dgL (l : List UInt8) : List UInt8 := frL l ++ bhL l
/-- the error of a number -/
def numE (l : List UInt8) : Int := if (!isDigits (dgL l) || (dvB l && (bhL l).isEmpty)) = true then 4 else if 18 < (dgL l).length then 5 else 0
/-- its picture -/
def nines (n : Nat) : List UInt8 := List.replicate n 57
def picN (l : List UInt8) : List UInt8 := nines (frL l).length ++ if dvB l then 86 :: nines (bhL l).length else []
def picL (l : List UInt8) : List UInt8 := if sgL l = [] then picN l else 83 :: picN l
/-- internal/bytealg.MaxLen holds a number -/
def MaxW (w : World) : Prop := ∃ m : Int, w.cell? ⟨2, 0, none⟩ = some (.int .i64 m)
theorem MaxW.below {w w' : World} (h : MaxW w) (hb : Below w.heap.size w w') : MaxW w' := by
  obtain ⟨m, hm⟩ := h
  have hlt : 2 < w.heap.size := World.block_lt_of_cell? _ _ hm
  exact ⟨m, (World.cell?_of_block (hb.block _ hlt)).trans hm⟩
theorem below_drewN' {n : Nat} {w w' : World} (h : Below n w w') (k : Nat) : Below n w (w'.drewN k) := ⟨h.os, h.tape, h.output, h.size, h.block⟩

theorem app_mk (a b : List UInt8) : mk a ++ mk b = mk (a ++ b) := by
  apply ByteArray.ext
  apply Array.toList_inj.1
  show (mk a ++ mk b).data.toList = a ++ b
  simp [mk]
theorem hasPrefix_one (l : List UInt8) (c : UInt8) (h : Lib.hasPrefix l [c] = true) : ∃ r, l = c :: r := by
  unfold Lib.hasPrefix at h
  cases l with
  | nil => simp [List.isPrefixOf] at h
  | cons a r => simp [List.isPrefixOf] at h; exact ⟨r, by rw [h]⟩
/-- the parts of a number's text -/
theorem sign_of (s : ByteArray) (c : UInt8) (h : Lib.hasPrefix s.data.toList [c] = true) (hsg : sgL s.data.toList = [c]) : 1 ≤ s.size ∧ mk (sgL s.data.toList) = s.extract 0 1 ∧ mk (unL s.data.toList) = s.extract 1 s.size := by
  obtain ⟨r, hr⟩ := hasPrefix_one _ _ h
  have hl := len_data s
  rw [hr, List.length_cons] at hl
  have e : ∀ a b : Nat, s.extract a b = mk ((s.data.toList.drop a).take (b - a)) := fun a b => by
    rw [show (s.data.toList.drop a).take (b - a) = (s.extract a b).data.toList by rw [Lib.extract_data], mk_of]
  refine ⟨by omega, ?_, ?_⟩
  · rw [e, hsg, hr]; rfl
  · rw [e]
    unfold unL
    rw [hsg, hr]
    congr 1
    show r = List.take (s.size - 1) r
    rw [List.take_of_length_le (by omega)]
theorem sgL_cases (l : List UInt8) : (Lib.hasPrefix l [43] = true ∧ sgL l = [43]) ∨ (Lib.hasPrefix l [43] = false ∧ Lib.hasPrefix l [45] = true ∧ sgL l = [45]) ∨ (Lib.hasPrefix l [43] = false ∧ Lib.hasPrefix l [45] = false ∧ sgL l = []) := by
  unfold sgL
  cases h1 : Lib.hasPrefix l [43] <;> cases h2 : Lib.hasPrefix l [45] <;> simp
theorem cut_len (l sep : List UInt8) : (Lib.cut l sep).1.length + (Lib.cut l sep).2.1.length ≤ l.length := by
  unfold Lib.cut
  split
  · simp only [List.length_take, List.length_drop]; omega
  · simp
theorem dgL_len (l : List UInt8) : (frL l).length + (bhL l).length ≤ l.length := by
  have := cut_len (unL l) [46]
  unfold frL bhL
  unfold unL at this ⊢
  rw [List.length_drop] at this
  omega

theorem numE_zero (l : List UInt8) (h : numE l = 0) : isDigits (dgL l) = true ∧ (dvB l = true → bhL l ≠ []) ∧ (dgL l).length ≤ 18 := by
  unfold numE at h
  split at h
  · cases h
  · rename_i h1
    split at h
    · cases h
    · rename_i h2
      refine ⟨?_, fun hd hb => ?_, by omega⟩
      · cases hi : isDigits (dgL l) with
        | true => rfl
        | false => rw [hi] at h1; simp at h1
      · rw [hd, hb] at h1; simp at h1
theorem digits_pos (l : List UInt8) (h : isDigits l = true) : 0 < l.length := by
  cases l with
  | nil => simp [isDigits] at h
  | cons a r => simp
theorem rep9 (n : Nat) (w : World) (hn : n ≤ 1000000) :
    Calls Tryd.prog 30 #[.string ⟨#[57]⟩, .int .i64 (n : Int)] w fun e w' => e = .returned (.string (mk (nines n))) ∧ Below w.heap.size w w' := by
  refine (Tryd.strings_Repeat ⟨#[57]⟩ n w (by omega) (by show 1 * n ≤ _; omega)).mono ?_
  rintro e w' ⟨rfl, hb⟩
  refine ⟨?_, hb⟩
  rw [show (⟨#[57]⟩ : ByteArray).data.toList = [57] from rfl, repeatL_one]
  rfl
theorem Blk12.lt {w : World} {b : Nat} (h : Blk12 w b) : b < w.heap.size := (Array.getElem?_eq_some_iff.1 h).1

/-- what number returns -/
def NumPost (l : List UInt8) (w : World) (e : Ending) (w' : World) : Prop :=
  (numE l ≠ 0 ∧ e = .returned (.tuple #[fieldZ, .int .i64 (numE l)]) ∧ Below w.heap.size w w') ∨
  (numE l = 0 ∧ ∃ g, e = .returned (.tuple #[fieldV 4 (mk (picL l)) (dgL l).length (bhL l).length (!(sgL l).isEmpty) (dgL l).length (.slice (some ⟨g, 0, none⟩) (dgL l).length (dgL l).length), .int .i64 0]) ∧ w.heap.size ≤ g ∧ Row w' g (zonedL (dgL l) (sgL l)) ∧ Below w.heap.size w w')

set_option maxRecDepth 100000 in
set_option maxHeartbeats 4000000 in
theorem number_c (s : ByteArray) (w : World) (hs : s.size ≤ 1000000) (hmx : MaxW w) :
    Calls Tryd.prog 45 #[.string s] w (NumPost s.data.toList w) := by
  obtain ⟨p1, hp1⟩ : ∃ p1, p1 = Lib.hasPrefix s.data.toList [43] := ⟨_, rfl⟩
  obtain ⟨p2, hp2⟩ : ∃ p2, p2 = Lib.hasPrefix s.data.toList [45] := ⟨_, rfl⟩
  have hP1 : Hid (∀ W, Calls Tryd.prog 61 #[.string s, .string ⟨#[43]⟩] W fun e w' => e = .returned (.bool p1) ∧ W = w') := fun W => by rw [hp1]; exact (Tryd.strings_HasPrefix s ⟨#[43]⟩ W).mono fun _ _ h => ⟨h.1, h.2.symm⟩
  have hP2 : Hid (∀ W, Calls Tryd.prog 61 #[.string s, .string ⟨#[45]⟩] W fun e w' => e = .returned (.bool p2) ∧ W = w') := fun W => by rw [hp2]; exact (Tryd.strings_HasPrefix s ⟨#[45]⟩ W).mono fun _ _ h => ⟨h.1, h.2.symm⟩
  obtain ⟨SG, hSG⟩ : ∃ SG, SG = mk (sgL s.data.toList) := ⟨_, rfl⟩
  obtain ⟨U, hU⟩ : ∃ U, U = mk (unL s.data.toList) := ⟨_, rfl⟩
  obtain ⟨F, hF⟩ : ∃ F, F = mk (frL s.data.toList) := ⟨_, rfl⟩
  obtain ⟨B, hB⟩ : ∃ B, B = mk (bhL s.data.toList) := ⟨_, rfl⟩
  obtain ⟨dv, hdv⟩ : ∃ dv, dv = dvB s.data.toList := ⟨_, rfl⟩
  obtain ⟨DG, hDG⟩ : ∃ DG, DG = mk (dgL s.data.toList) := ⟨_, rfl⟩
  have hlen := dgL_len s.data.toList
  rw [len_data] at hlen
  have hUs : U.size ≤ s.size := by
    rw [hU, ← len_data, mk_data]; unfold unL; rw [List.length_drop, len_data]; omega
  have hFs : F.size = (frL s.data.toList).length := by rw [hF, ← len_data, mk_data]
  have hBs : B.size = (bhL s.data.toList).length := by rw [hB, ← len_data, mk_data]
  have hDs : DG.size = (dgL s.data.toList).length := by rw [hDG, ← len_data, mk_data]
  have hDl : (dgL s.data.toList).length = (frL s.data.toList).length + (bhL s.data.toList).length := by unfold dgL; rw [List.length_append]
  have HDG : Hid (F ++ B = DG) := by unfold Hid; rw [hF, hB, hDG]; exact app_mk _ _
  have hCut : Hid (∀ W, Below w.heap.size w W → Calls Tryd.prog 72 #[.string U, .string ⟨#[46]⟩] W fun e w' => e = .returned (.tuple #[.string F, .string B, .bool dv]) ∧ ∃ n, w' = W.drewN n) := fun W hb => by
    obtain ⟨m, hm⟩ := hmx.below hb
    refine (Tryd.strings_Cut U ⟨#[46]⟩ m W (by omega) hm).mono fun e w' h => ⟨?_, h.2⟩
    rw [h.1, hF, hB, hdv, hU]; rfl
  have hDig : Hid (∀ W, Calls Tryd.prog 73 #[.string DG] W fun e w' => e = .returned (.bool (isDigits (dgL s.data.toList))) ∧ W = w') := fun W => by
    have := IsDigits_c DG W (by unfold maxLen; omega)
    rw [hDG, mk_data] at this
    rw [hDG]; exact this
  have HC : Hid ((p1 = true ∧ 1 ≤ s.size ∧ SG = s.extract 0 1 ∧ U = s.extract 1 s.size) ∨ (p1 = false ∧ p2 = true ∧ 1 ≤ s.size ∧ SG = s.extract 0 1 ∧ U = s.extract 1 s.size) ∨ (p1 = false ∧ p2 = false ∧ SG = ⟨#[]⟩ ∧ U = s)) := by
    unfold Hid
    rw [hp1, hp2, hSG, hU]
    rcases sgL_cases s.data.toList with ⟨h1, h2⟩ | ⟨h1, h2, h3⟩ | ⟨h1, h2, h3⟩
    · exact .inl ⟨h1, sign_of s 43 h1 h2⟩
    · exact .inr (.inl ⟨h1, h2, sign_of s 45 h2 h3⟩)
    · refine .inr (.inr ⟨h1, h2, by rw [h3]; rfl, ?_⟩)
      unfold unL; rw [h3]; exact mk_of s
  have HBT : Hid (B.toList = bhL s.data.toList) := by unfold Hid; rw [ByteArray.toList_eq, hB]; rfl
  have HFs := hide hFs
  have HBs := hide hBs
  have HDs := hide hDs
  have HDl := hide hDl
  have HSG := hide hSG
  have HDG2 := hide hDG
  have HDV := hide hdv
  have hF6 : F.size ≤ 1000000 := by omega
  have hB6 : B.size ≤ 1000000 := by omega
  have hD6 : DG.size ≤ 1000000 := by omega
  clear hp1 hp2 hSG hU hF hB hdv hDG hFs hBs hDs hDl hlen hUs
  go_enter Tryd.func45, Tryd.ntmps45
  go_upto_region 2 with fail
  obtain ⟨W0, hW0⟩ : ∃ W0, W0 = w.alloc (.cells #[.int .u8 0, .int .u8 0, .string ⟨#[]⟩, .int .i64 0, .int .i64 0, .bool false, .bool false, .bool false, .bool false, .bool false, .int .i64 0, .slice none 0 0] 49) := ⟨_, rfl⟩
  have HB0 : Hid (Below w.heap.size w W0) := by unfold Hid; rw [hW0]; exact (Below.refl _ w).alloc (Nat.le_refl _) _
  have HK0 : Hid (Blk12 W0 w.heap.size) := by unfold Hid; rw [hW0]; exact heap_alloc_new w _
  rw [← hW0]
  clear hW0
  go_cut [18] (fun s18 wx => s18 = .bool (p1 || p2) ∧ W0 = wx)
  case first =>
    clear HC
    cases p1
    · cases p2
      · go_wp2_with fail
        refine (hP1.out _).mono ?_
        rintro e w' ⟨rfl, rfl⟩
        go_wp2_with fail
        refine (hP2.out _).mono ?_
        rintro e w' ⟨rfl, rfl⟩
        go_wp2_with fail
        go_meet
        exact ⟨rfl, rfl⟩
      · go_wp2_with fail
        refine (hP1.out _).mono ?_
        rintro e w' ⟨rfl, rfl⟩
        go_wp2_with fail
        refine (hP2.out _).mono ?_
        rintro e w' ⟨rfl, rfl⟩
        go_wp2_with fail
        go_meet
        exact ⟨rfl, rfl⟩
    · go_wp2_with fail
      refine (hP1.out _).mono ?_
      rintro e w' ⟨rfl, rfl⟩
      go_wp2_with fail
      go_meet
      exact ⟨rfl, rfl⟩
  case rest =>
    obtain ⟨rfl, rfl⟩ := hcut
    have HCS : Hid ((p1 || p2) = true ∧ 1 ≤ s.size ∧ SG = s.extract 0 1 ∧ U = s.extract 1 s.size ∨ (p1 || p2) = false ∧ SG = ⟨#[]⟩ ∧ U = s) := by
      unfold Hid
      rcases HC.out with ⟨h, h1⟩ | ⟨h, h2, h1⟩ | ⟨h, h2, h1⟩
      · exact .inl ⟨by rw [h]; rfl, h1⟩
      · exact .inl ⟨by rw [h2]; simp, h1⟩
      · exact .inr ⟨by rw [h, h2]; rfl, h1⟩
    generalize (p1 || p2) = pp at *
    go_upto_if 18 with fail
    go_cut [4, 5] (fun s4 s5 wx => s4 = .string SG ∧ s5 = .string U ∧ Below w.heap.size w wx ∧ Blk12 wx w.heap.size)
    case first =>
      rcases HCS.out with ⟨rfl, h1, hsg, hu⟩ | ⟨rfl, hsg, hu⟩
      · go_wp2_with fail
        go_quiet (fail)
        go_wp2_with fail
        go_meet
        exact ⟨by rw [hsg], by rw [hu], below_drewN' HB0.out _, HK0.out⟩
      · go_wp2_with fail
        go_meet
        exact ⟨by rw [hsg], by rw [hu], HB0.out, HK0.out⟩
    case rest =>
      obtain ⟨rfl, rfl, hb, hk⟩ := hcut
      obtain ⟨W1, rfl⟩ : ∃ W, W = wc := ⟨_, rfl⟩
      have HB1 := hide hb
      have HK1 := hide hk
      clear HB0 HK0 HC HCS hb hk hP1 hP2
      go_wp2_with fail
      refine (hCut.out _ HB1.out).mono ?_
      rintro e w' ⟨rfl, n, hn⟩
      have HB2 : Hid (Below w.heap.size w w') := by unfold Hid; rw [hn]; exact below_drewN' HB1.out _
      have HK2 : Hid (Blk12 w' w.heap.size) := by unfold Hid; rw [hn]; exact HK1.out
      clear hn HB1 HK1
      obtain ⟨W2, rfl⟩ : ∃ W, W = w' := ⟨_, rfl⟩
      go_upto_region 6 with fail
      rw [HDG.out]
      obtain ⟨D1, hD1⟩ : ∃ D1, D1 = isDigits (dgL s.data.toList) := ⟨_, rfl⟩
      obtain ⟨BE, hBE⟩ : ∃ BE, BE = (bhL s.data.toList).isEmpty := ⟨_, rfl⟩
      rw [← hD1] at hDig
      have hbe : (B.toList == []) = BE := by rw [HBT.out, hBE]; cases bhL s.data.toList <;> rfl
      have HE : Hid (numE s.data.toList = if (!D1 || (dv && BE)) = true then 4 else if 18 < DG.size then 5 else 0) := by
        unfold Hid numE
        rw [hD1, hBE, HDV.out, HDs.out]
      clear hD1 hBE
      go_cut [41] (fun s41 wx => s41 = .bool (!D1 || (dv && BE)) ∧ W2 = wx)
      case first =>
        cases D1
        · go_wp2_with fail
          refine (hDig.out _).mono ?_
          rintro e w' ⟨rfl, rfl⟩
          go_wp2_with fail
          go_meet
          exact ⟨rfl, rfl⟩
        · cases dv
          · go_wp2_with fail
            refine (hDig.out _).mono ?_
            rintro e w' ⟨rfl, rfl⟩
            go_wp2_with fail
            go_meet
            exact ⟨rfl, rfl⟩
          · cases BE
            · go_wp2_with fail
              refine (hDig.out _).mono ?_
              rintro e w' ⟨rfl, rfl⟩
              go_wp2_with fail
              go_meet
              exact ⟨rfl, rfl⟩
            · go_wp2_with fail
              refine (hDig.out _).mono ?_
              rintro e w' ⟨rfl, rfl⟩
              go_wp2_with fail
              go_meet
              exact ⟨rfl, rfl⟩
      case rest =>
        obtain ⟨rfl, rfl⟩ := hcut
        clear hbe hDig hCut
        have HBD := hide (show (!D1 || (dv && BE)) = true ∨ (!D1 || (dv && BE)) = false by cases (!D1 || (dv && BE)) <;> simp)
        generalize hbd : (!D1 || (dv && BE)) = bd at *
        have HBDE := hide hbd
        clear hbd
        cases bd
        · by_cases hl : 18 < DG.size
          · have HE5 : Hid (numE s.data.toList = 5) := by unfold Hid; rw [HE.out, if_neg (by simp), if_pos hl]
            have hl' : (18 : Int) < (DG.size : Int) := by omega
            go_upto_region 9 with fail
            obtain ⟨c0, c1, c2, c3, c4, c5, c6, c7, c8, c9, c10, c11⟩ := HK2.out.cells
            obtain ⟨f0, f1, f2, f3, f4, f5, f6, f7, f8, f9, f10, f11⟩ := HK2.out.free
            go_cut [2, 3] (fun s2 s3 wx => s2 = .pointer (some ⟨w.heap.size, 0, none⟩) ∧ s3 = .int .i64 5 ∧ FldAt wx w.heap.size 0 ⟨#[]⟩ 0 0 false 0 (.slice none 0 0) ∧ Below w.heap.size w wx)
            case first =>
              go_wp2_with fail
              go_meet
              obtain ⟨N, hN, h12, z12, q12, _⟩ := set12 HK2.out (.int .u8 0) (.int .u8 0) (.string ⟨#[]⟩) (.int .i64 0) (.int .i64 0) (.bool false) (.bool false) (.bool false) (.bool false) (.bool false) (.int .i64 0) (.slice none 0 0)
              rw [← hN]
              exact ⟨rfl, rfl, h12, q12 _ w (Nat.le_refl _) HB2.out⟩
            case rest =>
              obtain ⟨rfl, rfl, hf, hb⟩ := hcut
              clear c0 c1 c2 c3 c4 c5 c6 c7 c8 c9 c10 c11 f0 f1 f2 f3 f4 f5 f6 f7 f8 f9 f10 f11
              obtain ⟨c0, c1, c2, c3, c4, c5, c6, c7, c8, c9, c10, c11⟩ := hf.cells
              have HBZ := hide hb
              clear hf hb
              go_wp2_with fail
              refine bodyPost_ret (v := .tuple #[fieldZ, .int .i64 5]) ?_ rfl (.inl ⟨by rw [HE5.out]; decide, by rw [HE5.out], HBZ.out⟩)
              simp [results, Tryd.results45, go_sem, fieldZ, fieldV, shapeV, *]
          · have HE0 : Hid (numE s.data.toList = 0) := by unfold Hid; rw [HE.out, if_neg (by simp), if_neg hl]
            have hl' : ¬ (18 : Int) < (DG.size : Int) := by omega
            obtain ⟨hdg, hne, h18⟩ := numE_zero _ HE0.out
            have HDG9 := hide hdg
            clear hdg hne
            rw [← HDs.out] at h18
            obtain ⟨PF, hPF⟩ : ∃ PF, PF = mk (nines F.size) := ⟨_, rfl⟩
            have HRF : Hid (∀ W, Calls Tryd.prog 30 #[.string ⟨#[57]⟩, .int .i64 (F.size : Int)] W fun e w' => e = .returned (.string PF) ∧ Below W.heap.size W w') := fun W => by rw [hPF]; exact rep9 F.size W hF6
            obtain ⟨PB, hPB⟩ : ∃ PB, PB = mk (nines B.size) := ⟨_, rfl⟩
            have HRB : Hid (∀ W, Calls Tryd.prog 30 #[.string ⟨#[57]⟩, .int .i64 (B.size : Int)] W fun e w' => e = .returned (.string PB) ∧ Below W.heap.size W w') := fun W => by rw [hPB]; exact rep9 B.size W hB6
            obtain ⟨PN, hPN⟩ : ∃ PN, PN = mk (picN s.data.toList) := ⟨_, rfl⟩
            have hPFs : PF.size ≤ 1000000 := by rw [hPF, ← len_data, mk_data]; unfold nines; rw [List.length_replicate]; omega
            have hPBs : PB.size ≤ 1000000 := by rw [hPB, ← len_data, mk_data]; unfold nines; rw [List.length_replicate]; omega
            have hPNs : PN.size ≤ 3000000 := by
              rw [hPN, ← len_data, mk_data]
              unfold picN nines
              rw [List.length_append, List.length_replicate, ← HFs.out]
              split
              · rw [List.length_cons, List.length_replicate, ← HBs.out]; omega
              · simp; omega
            have HPNt : Hid (dv = true → PF ++ (⟨#[86]⟩ ++ PB) = PN) := fun h => by
              rw [hPF, hPB, hPN]
              unfold picN
              rw [← HDV.out, h, if_pos rfl, ← HFs.out, ← HBs.out, show (⟨#[86]⟩ : ByteArray) = mk [86] from rfl, app_mk, app_mk]
              rfl
            have HPNf : Hid (dv = false → PF = PN) := fun h => by
              rw [hPF, hPN]
              unfold picN
              rw [← HDV.out, h, if_neg (by simp), ← HFs.out, List.append_nil]
            obtain ⟨PIC, hPIC⟩ : ∃ PIC, PIC = mk (picL s.data.toList) := ⟨_, rfl⟩
            obtain ⟨sg, hsg⟩ : ∃ sg, sg = !(sgL s.data.toList).isEmpty := ⟨_, rfl⟩
            have HPt : Hid (sg = true → ⟨#[83]⟩ ++ PN = PIC) := fun h => by
              rw [hPN, hPIC]
              unfold picL
              rw [if_neg (by intro e; rw [hsg, e] at h; simp at h), show (⟨#[83]⟩ : ByteArray) = mk [83] from rfl, app_mk]
              rfl
            have HPf : Hid (sg = false → PN = PIC) := fun h => by
              rw [hPN, hPIC]
              unfold picL
              rw [if_pos (by cases hc : sgL s.data.toList with | nil => rfl | cons a r => rw [hsg, hc] at h; simp at h)]
            have he1 : (SG.toList == []) = !sg := by rw [HSG.out, hsg, ByteArray.toList_eq, mk_data]; cases sgL s.data.toList <;> rfl
            have he2 : (SG.toList != []) = sg := by rw [HSG.out, hsg, ByteArray.toList_eq, mk_data]; cases sgL s.data.toList <;> rfl
            have HZ : Hid (∀ W, Calls Tryd.prog 74 #[.string DG, .string SG] W fun e w' => ∃ g, e = .returned (.slice (some ⟨g, 0, none⟩) DG.size DG.size) ∧ W.heap.size ≤ g ∧ Row w' g (zonedL (dgL s.data.toList) (sgL s.data.toList)) ∧ Below W.heap.size W w') := fun W => by
              have hz := zoned_c DG SG W (by rw [HDs.out]; exact digits_pos _ HDG9.out) (by omega) (by rw [HDG2.out, mk_data]; exact HDG9.out) (by
                rw [HSG.out, mk_data]
                rcases sgL_cases s.data.toList with ⟨_, h⟩ | ⟨_, _, h⟩ | ⟨_, _, h⟩
                · exact .inr (.inl h)
                · exact .inr (.inr h)
                · exact .inl h)
              rw [show DG.data.toList = dgL s.data.toList by rw [HDG2.out, mk_data], show SG.data.toList = sgL s.data.toList by rw [HSG.out, mk_data]] at hz
              exact hz
            have HSGE := hide hsg
            have HPICE := hide hPIC
            clear hPF hPB hPN hPIC hsg
            go_wp2_with fail
            refine (HRF.out _).mono ?_
            rintro e W3 ⟨rfl, hb3⟩
            have HB3 := hide (HB2.out.trans (hb3.mono HB2.out.size))
            have HK3 : Hid (Blk12 W3 w.heap.size) := (hb3.block _ (HK2.out.lt)).trans HK2.out
            clear hb3 HB2 HK2 HRF
            go_upto_if 50 with fail
            go_cut [10] (fun s10 wx => s10 = .string PN ∧ Below w.heap.size w wx ∧ Blk12 wx w.heap.size)
            case first =>
              clear he1 he2
              cases dv
              · have HQ := hide (HPNf.out rfl)
                clear HPNf HPNt
                go_wp2_with fail
                go_meet
                exact ⟨by rw [HQ.out], HB3.out, HK3.out⟩
              · have HQ := hide (HPNt.out rfl)
                clear HPNf HPNt
                go_wp2_with fail
                refine (HRB.out _).mono ?_
                rintro e W4 ⟨rfl, hb4⟩
                have HB4 := hide (HB3.out.trans (hb4.mono HB3.out.size))
                have HK4 : Hid (Blk12 W4 w.heap.size) := (hb4.block _ (HK3.out.lt)).trans HK3.out
                clear hb4
                go_wp2_with fail
                go_meet
                exact ⟨by rw [HQ.out], HB4.out, HK4.out⟩
            case rest =>
              obtain ⟨rfl, hb4, hk4⟩ := hcut
              obtain ⟨W4, rfl⟩ : ∃ W, W = wc := ⟨_, rfl⟩
              have HB4 := hide hb4
              have HK4 := hide hk4
              clear hb4 hk4 HB3 HK3 HRB HPNt HPNf
              go_upto_if 58 with fail
              go_cut [10] (fun s10 wx => s10 = .string PIC ∧ W4 = wx)
              case first =>
                cases sg
                · have HQ := hide (HPf.out rfl)
                  clear HPf HPt
                  go_wp2_with fail
                  go_meet
                  exact ⟨by rw [HQ.out], rfl⟩
                · have HQ := hide (HPt.out rfl)
                  clear HPf HPt
                  go_wp2_with fail
                  go_meet
                  exact ⟨by rw [HQ.out], rfl⟩
              case rest =>
                obtain ⟨rfl, rfl⟩ := hcut
                clear HPf HPt
                go_upto_region 16 with fail
                obtain ⟨W5, hW5⟩ : ∃ W5, W5 = W4.alloc (.cells (shapeV 4 PIC DG.size B.size sg DG.size).toArray 46) := ⟨_, rfl⟩
                have hz4 := HB4.out.size
                have hz5 : W5.heap.size = W4.heap.size + 1 := by rw [hW5]; simp
                have hs5 : Shp W5 W4.heap.size (shapeV 4 PIC DG.size B.size sg DG.size) := by rw [hW5]; exact heap_alloc_new W4 _
                have HB5 : Hid (Below w.heap.size w W5) := by unfold Hid; rw [hW5]; exact HB4.out.alloc HB4.out.size _
                have HK5 : Hid (Blk12 W5 w.heap.size) := by unfold Hid; rw [hW5]; exact (heap_alloc_old W4 _ HK4.out.lt).trans HK4.out
                rw [show (Obj.cells #[.int .u8 4, .int .u8 0, .string PIC, .int .i64 DG.size, .int .i64 B.size, .bool sg, .bool false, .bool false, .bool false, .bool false, .int .i64 DG.size] 46) = Obj.cells (shapeV 4 PIC DG.size B.size sg DG.size).toArray 46 from rfl, ← hW5]
                obtain ⟨d0, d1, d2, d3, d4, d5, d6, d7, d8, d9, d10⟩ := hs5.cells
                have HS5 := hide hs5
                have hlt5 : W4.heap.size < W5.heap.size := by omega
                clear hW5 hs5 HB4 HK4 he1 he2
                go_cut [2, 3] (fun s2 s3 wx => s2 = .pointer (some ⟨w.heap.size, 0, none⟩) ∧ s3 = .int .i64 0 ∧ ∃ g, FldAt wx w.heap.size 4 PIC DG.size B.size sg DG.size (.slice (some ⟨g, 0, none⟩) DG.size DG.size) ∧ w.heap.size ≤ g ∧ Row wx g (zonedL (dgL s.data.toList) (sgL s.data.toList)) ∧ Below w.heap.size w wx)
                case first =>
                  go_region_with (go_at_call 74; refine (HZ.out _).mono ?_; rintro e W6 ⟨g, rfl, hg, hr6, hb6⟩; have hk6 : Blk12 W6 w.heap.size := (hb6.block _ HK5.out.lt).trans HK5.out; have hs6 : Shp W6 W4.heap.size (shapeV 4 PIC DG.size B.size sg DG.size) := (hb6.block _ hlt5).trans HS5.out; obtain ⟨e0, e1, e2, e3, e4, e5, e6, e7, e8, e9, e10⟩ := hs6.cells; obtain ⟨c0, c1, c2, c3, c4, c5, c6, c7, c8, c9, c10, c11⟩ := hk6.cells; obtain ⟨f0, f1, f2, f3, f4, f5, f6, f7, f8, f9, f10, f11⟩ := hk6.free; have HK6 := hide hk6; have HR6 := hide hr6; have HB6 := hide (HB5.out.drew.trans (hb6.mono HB5.out.size)); have HG6 := hide hg; clear hk6 hs6 hr6 hb6 hg)
                  all_goals
                    go_wp2_with fail
                    go_meet
                    obtain ⟨N, hN, h12, z12, q12, t12⟩ := set12 HK6.out (.int .u8 4) (.int .u8 0) (.string PIC) (.int .i64 (DG.size : Int)) (.int .i64 (B.size : Int)) (.bool sg) (.bool false) (.bool false) (.bool false) (.bool false) (.int .i64 (DG.size : Int)) (.slice (some ⟨g, 0, none⟩) DG.size DG.size)
                    rw [← hN]
                    have hg5 : W5.heap.size ≤ g := HG6.out
                    refine ⟨rfl, rfl, g, h12, by omega, ?_, q12 _ w (Nat.le_refl _) HB6.out⟩
                    exact HR6.out.block (by rw [z12]; exact HR6.out.1) (t12 g (by omega))
                case rest =>
                  obtain ⟨rfl, rfl, g, hf, hg, hr, hb⟩ := hcut
                  clear d0 d1 d2 d3 d4 d5 d6 d7 d8 d9 d10
                  obtain ⟨c0, c1, c2, c3, c4, c5, c6, c7, c8, c9, c10, c11⟩ := hf.cells
                  have HBZ := hide hb
                  have HRZ := hide hr
                  have HGZ := hide hg
                  clear hf hb hr hg
                  go_wp2_with fail
                  refine bodyPost_ret (v := .tuple #[fieldV 4 PIC DG.size B.size sg DG.size (.slice (some ⟨g, 0, none⟩) DG.size DG.size), .int .i64 0]) ?_ rfl (.inr ⟨HE0.out, g, ?_, HGZ.out, HRZ.out, HBZ.out⟩)
                  · simp [results, Tryd.results45, go_sem, fieldV, shapeV, *]
                  · rw [HPICE.out, HSGE.out, HDs.out, HBs.out]
        · have HE4 : Hid (numE s.data.toList = 4) := by unfold Hid; rw [HE.out, if_pos rfl]
          go_upto_region 7 with fail
          obtain ⟨c0, c1, c2, c3, c4, c5, c6, c7, c8, c9, c10, c11⟩ := HK2.out.cells
          obtain ⟨f0, f1, f2, f3, f4, f5, f6, f7, f8, f9, f10, f11⟩ := HK2.out.free
          go_cut [2, 3] (fun s2 s3 wx => s2 = .pointer (some ⟨w.heap.size, 0, none⟩) ∧ s3 = .int .i64 4 ∧ FldAt wx w.heap.size 0 ⟨#[]⟩ 0 0 false 0 (.slice none 0 0) ∧ Below w.heap.size w wx)
          case first =>
            go_wp2_with fail
            go_meet
            obtain ⟨N, hN, h12, z12, q12, _⟩ := set12 HK2.out (.int .u8 0) (.int .u8 0) (.string ⟨#[]⟩) (.int .i64 0) (.int .i64 0) (.bool false) (.bool false) (.bool false) (.bool false) (.bool false) (.int .i64 0) (.slice none 0 0)
            rw [← hN]
            exact ⟨rfl, rfl, h12, q12 _ w (Nat.le_refl _) HB2.out⟩
          case rest =>
            obtain ⟨rfl, rfl, hf, hb⟩ := hcut
            clear c0 c1 c2 c3 c4 c5 c6 c7 c8 c9 c10 c11 f0 f1 f2 f3 f4 f5 f6 f7 f8 f9 f10 f11
            obtain ⟨c0, c1, c2, c3, c4, c5, c6, c7, c8, c9, c10, c11⟩ := hf.cells
            have HBZ := hide hb
            clear hf hb
            go_wp2_with fail
            refine bodyPost_ret (v := .tuple #[fieldZ, .int .i64 4]) ?_ rfl (.inl ⟨by rw [HE4.out]; decide, by rw [HE4.out], HBZ.out⟩)
            simp [results, Tryd.results45, go_sem, fieldZ, fieldV, shapeV, *]
end Go.Proofs.YthdggnkpncoikaaDoor
