/-
  CONTRACT of zoned (layer 5, words): digits whose last one carries a sign.
-/
import Derived.Test.YthdggnkpncoikaaDoorTxtW
import Derived.Maps.OwnIn
import Derived.Maps.OwnOps
import Derived.Maps.OwnSet
import Derived.Maps.StringElems
import Derived.Maps.Views
import Derived.StringKeys
import Derived.Lib.FieldsLaws
import Derived.Lib.IndexBytes
namespace Go.Proofs.YthdggnkpncoikaaDoor
open Go.RowKit Go.Shelf Go.Maps

def zone0 : List UInt8 := [48, 49, 50, 51, 52, 53, 54, 55, 56, 57]
def zoneP : List UInt8 := [123, 65, 66, 67, 68, 69, 70, 71, 72, 73]
def zoneM : List UInt8 := [125, 74, 75, 76, 77, 78, 79, 80, 81, 82]
/-- the last digits with a sign -/
def zoneL (sg : List UInt8) : List UInt8 := if sg = [43] then zoneP else if sg = [45] then zoneM else zone0
/-- digits as bytes -/
def zonedL (ds sg : List UInt8) : List UInt8 := ds.set (ds.length - 1) ((zoneL sg).getD ((ds.getD (ds.length - 1) 0).toNat - 48) 0)
def zoneD : DataW Unit := (((DataW.map []).put (.string []) (.lit (.string zone0))).put (.string [43]) (.lit (.string zoneP))).put (.string [45]) (.lit (.string zoneM))
theorem zoneD_at (sg : List UInt8) (h : sg = [] ∨ sg = [43] ∨ sg = [45]) (z : DataW Unit) : zoneD.atKey (.string sg) z = .lit (.string (zoneL sg)) := by
  have h0 : IsMap (.map [] : DataW Unit) := isMap_empty
  have h1 := h0.put (.string []) (.lit (.string zone0))
  have h2 := h1.put (.string [43]) (.lit (.string zoneP))
  unfold zoneD
  rcases h with rfl | rfl | rfl
  · rw [atKey_put_other (by simp), atKey_put_other (by simp), atKey_put_same h0 (show WideAt.IsKeyLit (.string []) from trivial)]; rfl
  · rw [atKey_put_other (by simp), atKey_put_same h1 (show WideAt.IsKeyLit (.string [43]) from trivial)]; rfl
  · rw [atKey_put_same h2 (show WideAt.IsKeyLit (.string [45]) from trivial)]; rfl
theorem keyStrW : Keyed Tryd.prog 9 := string_keyed Tryd.underlying9
theorem zoneL_len (sg : List UInt8) : (zoneL sg).length = 10 := by unfold zoneL; split <;> (try split) <;> rfl
theorem zeroStr (w : World) : (zeroValue 9).run Tryd.prog w = .ok (.string ⟨#[]⟩) w := by kernel_rfl
/-- the map of the three zones, made -/
theorem zones_run (w : World) : ∃ w1 w2 w3, (Instr.mapUpdate 162 (.map (some w.heap.size)) (.string ⟨#[]⟩) (.string ⟨#[48, 49, 50, 51, 52, 53, 54, 55, 56, 57]⟩)).run Tryd.prog (w.alloc (.map #[] 0)) = .ok () w1 ∧
    (Instr.mapUpdate 162 (.map (some w.heap.size)) (.string ⟨#[43]⟩) (.string ⟨#[123, 65, 66, 67, 68, 69, 70, 71, 72, 73]⟩)).run Tryd.prog w1 = .ok () w2 ∧
    (Instr.mapUpdate 162 (.map (some w.heap.size)) (.string ⟨#[45]⟩) (.string ⟨#[125, 74, 75, 76, 77, 78, 79, 80, 81, 82]⟩)).run Tryd.prog w2 = .ok () w3 ∧
    w3.ownsMap Tryd.prog 9 (plainElem (H := Unit) Tryd.prog 9) w.heap.size 3 zoneD ∧ Below w.heap.size w w3 ∧ w.heap.size < w3.heap.size := by
  have h0 := World.ownsMap_made (H := Unit) w Tryd.prog 9 (plainElem (H := Unit) Tryd.prog 9)
  have hk : ∀ l : List UInt8, l.length ≤ 100 → keyOf Tryd.prog 9 (.string (mk l)) = some (.string l) := fun l h => Go.WideMaps.keyOf_string_mk Tryd.underlying9 (by show l.toArray.size ≤ _; rw [List.size_toArray]; unfold maxLen; omega)
  have hv : ∀ l : List UInt8, l.length ≤ 100 → plainElem (H := Unit) Tryd.prog 9 (.string (mk l)) = some (.lit (.string l), []) := fun l h => plainElem_string Tryd.underlying9 (by show l.toArray.size ≤ _; rw [List.size_toArray]; unfold maxLen; omega)
  obtain ⟨w1, r1, o1, g1⟩ := h0.update (t := 162) (e := 9) keyStrW Tryd.underlying162 (by unfold maxLen; omega) (hk [] (by decide)) (hv zone0 (by decide))
  obtain ⟨w2, r2, o2, g2⟩ := o1.update (t := 162) (e := 9) keyStrW Tryd.underlying162 (by unfold maxLen; omega) (hk [43] (by decide)) (hv zoneP (by decide))
  obtain ⟨w3, r3, o3, g3⟩ := o2.update (t := 162) (e := 9) keyStrW Tryd.underlying162 (by unfold maxLen; omega) (hk [45] (by decide)) (hv zoneM (by decide))
  have z1 := g1.size
  have z2 := g2.size
  have z3 := g3.size
  rw [World.size_alloc] at z1
  have b0 : Below w.heap.size w (w.alloc (.map #[] 0)) := (Below.refl _ w).alloc (Nat.le_refl _) _
  have b1 := b0.grown g1 (by simp) (fun k e => by injection e with e; omega)
  have b2 := b1.grown g2 (by omega) (fun k e => by injection e with e; omega)
  have b3 := b2.grown g3 (by omega) (fun k e => by injection e with e; omega)
  exact ⟨w1, w2, w3, r1, r2, r3, o3, b3, by omega⟩

set_option maxHeartbeats 2000000 in
set_option maxRecDepth 100000 in
theorem zoned_c (s sg : ByteArray) (w : World) (h0 : 0 < s.size) (h1 : s.size ≤ 100) (hd : isDigits s.data.toList = true) (hsg : sg.data.toList = [] ∨ sg.data.toList = [43] ∨ sg.data.toList = [45]) :
    Calls Tryd.prog 74 #[.string s, .string sg] w fun e w' => ∃ g, e = .returned (.slice (some ⟨g, 0, none⟩) s.size s.size) ∧ w.heap.size ≤ g ∧ Row w' g (zonedL s.data.toList sg.data.toList) ∧ Below w.heap.size w w' := by
  obtain ⟨m, hm⟩ : ∃ m, s.size = m + 1 := ⟨s.size - 1, by omega⟩
  obtain ⟨w1, w2, w3, r1, r2, r3, ho, hb3, hz3⟩ := zones_run w
  have hmm := @run_makeMap Tryd.prog
  have hrow : Hid (∀ W, ∃ cap C, s.size ≤ cap ∧ (convert 9 47 (.string s)).run Tryd.prog W = .ok (.slice (some ⟨W.heap.size, 0, none⟩) s.size cap) (W.drew.alloc (.cells C 5 (C.size, C.size + 1))) ∧
    Row (W.drew.alloc (.cells C 5 (C.size, C.size + 1))) W.heap.size s.data.toList) := fun W => row_of_string W s
  have HO := hide ho
  have HB3 := hide hb3
  have HM := hide hm
  clear ho hb3 hm
  go_enter Tryd.func74, Tryd.ntmps74
  obtain ⟨cap, C, hcap, hconv, hrw⟩ := hrow.out w3
  obtain ⟨W4, hW4⟩ : ∃ W4, W4 = w3.drew.alloc (.cells C 5 (C.size, C.size + 1)) := ⟨_, rfl⟩
  rw [← hW4] at hconv hrw
  have hml : m < s.data.toList.length := by rw [len_data, HM.out]; omega
  obtain ⟨d, hdd⟩ : ∃ d, d = s.data.toList[m] := ⟨_, rfl⟩
  have hdig : dig d = true := by
    unfold isDigits at hd
    rw [Bool.and_eq_true, Bool.not_eq_true'] at hd
    have h2 := hd.2
    rw [Bool.not_eq_true'] at h2
    have h3 := (List.any_eq_false.1 h2) d (by rw [hdd]; exact List.getElem_mem hml)
    unfold nodig at h3
    simpa using h3
  unfold dig at hdig
  rw [Bool.and_eq_true, decide_eq_true_eq, decide_eq_true_eq] at hdig
  obtain ⟨k, hk⟩ : ∃ k : Nat, d.toNat = 48 + k := ⟨d.toNat - 48, by omega⟩
  have hk10 : k < 10 := by omega
  have hrl := hrw.at_ m hml
  rw [← hdd] at hrl
  obtain ⟨hcl, hfl⟩ := hrl
  have hcl1 : W4.cell? ⟨w3.heap.size, m, none⟩ = some (.int .u8 (48 + (k : Int))) := by rw [hcl, hk]; simp
  have hw4 : W4.heap.size = w3.heap.size + 1 := by rw [hW4]; show (World.alloc _ _).heap.size = _; simp
  have hlt4 : w3.heap.size < W4.heap.size := by omega
  have ho4 : W4.drew.ownsMap Tryd.prog 9 (plainElem (H := Unit) Tryd.prog 9) w.heap.size 3 zoneD := by rw [hW4]; exact HO.out.drew.alloc _
  have hsgm : sg.size ≤ maxLen := by
    have : sg.data.toList.length ≤ 1 := by rcases hsg with e | e | e <;> simp [e]
    rw [len_data] at this
    unfold maxLen
    omega
  obtain ⟨v, ps, hlook, hv⟩ := ho4.lookup (t := 162) keyStrW Tryd.underlying162 (zeroStr _) (plainElem_string Tryd.underlying9 (by show 0 ≤ _; omega)) (Go.WideMaps.keyOf_string_mk Tryd.underlying9 (s := sg) hsgm)
  obtain ⟨Z, rfl, hZ⟩ := plainElem_string_inv Tryd.underlying9 hv
  have hZL : Z.data.toList = zoneL sg.data.toList := by
    rw [zoneD_at _ hsg] at hZ
    exact (Lit.string.inj (DataW.lit.inj (Prod.mk.inj hZ.1).1)).symm
  have hzs : Z.size = 10 := by rw [← len_data, hZL]; exact zoneL_len _
  have hkz : k < Z.size := by omega
  have HZ : Hid (zonedL s.data.toList sg.data.toList = s.data.toList.set m Z[k]) := by
    unfold Hid zonedL
    rw [← hZL, len_data, HM.out, Nat.add_sub_cancel, List.getD_eq_getElem?_getD (l := s.data.toList), List.getElem?_eq_getElem hml, ← hdd, Option.getD_some, hk, Nat.add_sub_cancel_left, getD_at Z k hkz]
  have HRW := hide hrw
  have HB4 : Hid (Below w.heap.size w W4) := by unfold Hid; rw [hW4]; exact (HB3.out.drew).alloc (by show _ ≤ w3.heap.size; omega) _
  rw [HM.out] at h0 h1 hcap hconv ⊢
  have HC := hide (fun W => clip8 (some ⟨w3.heap.size, 0, none⟩) (m + 1) cap W (by omega) hcap)
  have hidx : IntKind.i64.wrap (((m + 1 : Nat) : Int) - 1) = (m : Int) := by rw [IntWalk.i64_in _ (by omega)]; omega
  rw [hW4] at hconv
  clear hcap hd hdd hdig hk hcl hrw ho4 hv hZ hZL hsg hw4 hrow hzs
  go_wp2_with fail
  rw [show (w3.alloc (.cells C 5 (C.size, C.size + 1))).drew = W4 from hW4.symm]
  refine (HC.out _).mono ?_
  rintro e w' ⟨rfl, rfl⟩
  clear hW4 hconv hmm r1 r2 r3
  go_wp2_with fail
  have HML := hide hml
  have hwu : IntKind.u8.wrap (48 + (k : Int) - 48) = (k : Int) := by rw [show 48 + (k : Int) - 48 = (k : Int) by omega]; exact IntWalk.u8_in _ (by omega)
  go_region
  all_goals
    go_wp2_with fail
    go_ret
    refine ⟨_, rfl, ?_, ?_, ?_⟩
    · have := HB3.out.size; exact this
    · rw [HZ.out]
      exact HRW.out.drew.set_ m HML.out _
    · exact HB4.out.drew.setCell (by have := HB3.out.size; exact this) _
end Go.Proofs.YthdggnkpncoikaaDoor
