/-
  CONTRACT of Literal (layer 5, words).
-/
import Derived.Test.YthdggnkpncoikaaDoorNumP
import Derived.Test.YthdggnkpncoikaaDoorBytC
namespace Go.Proofs.YthdggnkpncoikaaDoor
open Go.RowKit Go.Shelf

/-- a field, plainly -/
structure FieldR where
  c : Int
  pic : List UInt8
  d : Nat
  sc : Nat
  sg : Bool
  bytes : List UInt8
def numR (l : List UInt8) : Except Int FieldR := if numE l = 0 then .ok ⟨4, picL l, (dgL l).length, (bhL l).length, !(sgL l).isEmpty, zonedL (dgL l) (sgL l)⟩ else .error (numE l)
def txtR (l : List UInt8) : Except Int FieldR := if l.length = 0 ∨ 256 < l.length then .error 5 else .ok ⟨2, List.replicate l.length 88, 0, 0, false, l⟩
def figR (l : List UInt8) : Except Int FieldR := if byteB l then (if byteN l = 48 then numR [48] else txtR [UInt8.ofNat (byteN l).toNat]) else .error 11
/-- what Literal answers for a token of kind k with text l -/
def litR (k : Int) (l : List UInt8) : Except Int FieldR := if k = 2 then numR l else if k = 3 then txtR l else if k = 1 then figR l else .error 12
def ResAt (r : Except Int FieldR) (w : World) (c : Int) (pic : ByteArray) (d sc : Int) (sg : Bool) (n : Int) (A : Option Addr) (k cp : Nat) (E : Int) (w' : World) : Prop :=
  Below w.heap.size w w' ∧ match r with
  | .error x => E = x ∧ c = 0 ∧ pic = ⟨#[]⟩ ∧ d = 0 ∧ sc = 0 ∧ sg = false ∧ n = 0 ∧ A = none ∧ k = 0 ∧ cp = 0
  | .ok f => E = 0 ∧ c = f.c ∧ pic = mk f.pic ∧ d = f.d ∧ sc = f.sc ∧ sg = f.sg ∧ n = f.bytes.length ∧ ∃ g, A = some ⟨g, 0, none⟩ ∧ k = f.bytes.length ∧ cp = f.bytes.length ∧ w.heap.size ≤ g ∧ Row w' g f.bytes
def ResPost (r : Except Int FieldR) (w : World) (e : Ending) (w' : World) : Prop :=
  ∃ c pic d sc sg n A k cp E, e = .returned (.tuple #[fieldV c pic d sc sg n (.slice A k cp), .int .i64 E]) ∧ ResAt r w c pic d sc sg n A k cp E w'
theorem ResAt.fwd {r : Except Int FieldR} {w W w1 N : World} {b : Nat} {c : Int} {pic : ByteArray} {d sc : Int} {sg : Bool} {n : Int} {A : Option Addr} {k cp : Nat} {E : Int} (h : ResAt r W c pic d sc sg n A k cp E w1) (hb : Below w.heap.size w W) (hlt : b < W.heap.size) (hbw : w.heap.size ≤ b)
    (z : N.heap.size = w1.heap.size) (q : ∀ B w', B ≤ b → Below B w' w1 → Below B w' N) (t : ∀ j, b ≠ j → N.heap[j]? = w1.heap[j]?) : ResAt r w c pic d sc sg n A k cp E N := by
  obtain ⟨h1, h2⟩ := h
  refine ⟨q _ _ hbw (hb.trans (h1.mono hb.size)), ?_⟩
  cases r with
  | error x => exact h2
  | ok f =>
    obtain ⟨a1, a2, a3, a4, a5, a6, a7, g, a8, b1, b2, a9, a10⟩ := h2
    exact ⟨a1, a2, a3, a4, a5, a6, a7, g, a8, b1, b2, by have := hb.size; omega, a10.block (by rw [z]; exact a10.1) (t g (by omega))⟩
theorem zonedL_len (a b : List UInt8) : (zonedL a b).length = a.length := by unfold zonedL; rw [List.length_set]
theorem number_r (s : ByteArray) (w : World) (hs : s.size ≤ 1000000) (hmx : MaxW w) : Calls Tryd.prog 45 #[.string s] w (ResPost (numR s.data.toList) w) := by
  refine (number_c s w hs hmx).mono fun e w' h => ?_
  unfold numR
  rcases h with ⟨h1, rfl, h3⟩ | ⟨h1, g, rfl, h3, h4, h5⟩
  · rw [if_neg h1]
    exact ⟨0, ⟨#[]⟩, 0, 0, false, 0, none, 0, 0, _, rfl, h3, rfl, rfl, rfl, rfl, rfl, rfl, rfl, rfl, rfl, rfl⟩
  · rw [if_pos h1]
    exact ⟨_, _, _, _, _, _, _, _, _, _, rfl, h5, rfl, rfl, rfl, rfl, rfl, rfl, by rw [zonedL_len], g, rfl, by rw [zonedL_len], by rw [zonedL_len], h3, h4⟩
theorem text_r (s : ByteArray) (w : World) (hs : s.size ≤ maxLen) : Calls Tryd.prog 46 #[.string s] w (ResPost (txtR s.data.toList) w) := by
  unfold txtR
  rw [len_data]
  by_cases h : s.size = 0 ∨ 256 < s.size
  · rw [if_pos h]
    refine (text_bad s w h hs).mono fun e w' ⟨he, hb⟩ => ?_
    exact ⟨0, ⟨#[]⟩, 0, 0, false, 0, none, 0, 0, _, he, hb, rfl, rfl, rfl, rfl, rfl, rfl, rfl, rfl, rfl, rfl⟩
  · rw [if_neg h]
    refine (text_ok s w (by omega) (by omega)).mono fun e w' ⟨g, he, hg, hr, hb⟩ => ?_
    exact ⟨_, _, _, _, _, _, _, _, _, _, he, hb, rfl, rfl, rfl, rfl, rfl, rfl, by rw [len_data], g, rfl, by rw [len_data], by rw [len_data], hg, hr⟩

theorem byteN_bound (l : List UInt8) : 0 ≤ byteN l ∧ byteN l ≤ 255 := by
  unfold byteN byteL
  cases h : figT.find? (fun p => p.1 == l) with
  | none => simp
  | some p =>
    have := List.mem_of_find?_eq_some h
    simp only [Option.map_some, Option.getD_some]
    revert this
    have hall : ∀ p ∈ figT, 0 ≤ p.2 ∧ p.2 ≤ 255 := by decide
    exact hall p
set_option maxRecDepth 100000 in
set_option maxHeartbeats 4000000 in
theorem figurative_r (s : ByteArray) (w : World) (hmx : MaxW w) : Calls Tryd.prog 47 #[.string s] w (ResPost (figR s.data.toList) w) := by
  have hN : Hid (∀ W, Below w.heap.size w W → Calls Tryd.prog 45 #[.string ⟨#[48]⟩] W (ResPost (numR [48]) W)) := fun W hb => number_r ⟨#[48]⟩ W (by decide) (hmx.below hb)
  have hBy := hide (fun W => Byte_c s W)
  obtain ⟨is, his⟩ : ∃ is, is = byteB s.data.toList := ⟨_, rfl⟩
  obtain ⟨b, hb⟩ : ∃ b, b = byteN s.data.toList := ⟨_, rfl⟩
  have hbb := byteN_bound s.data.toList
  rw [← hb] at hbb
  have hbu : ((UInt8.ofNat b.toNat).toNat : Int) = b := by
    rw [UInt8.toNat_ofNat']
    omega
  obtain ⟨x, hx⟩ : ∃ x, x = UInt8.ofNat b.toNat := ⟨_, rfl⟩
  have HT : Hid (∀ W, Calls Tryd.prog 46 #[.string (mk [x])] W (ResPost (txtR [x]) W)) := fun W => text_r (mk [x]) W (by show 1 ≤ _; unfold maxLen; omega)
  have HR : Hid (figR s.data.toList = if is = true then (if b = 48 then numR [48] else txtR [x]) else .error 11) := by
    unfold Hid figR; rw [← his, ← hb, hx]
  rw [← his, ← hb] at hBy
  have HB : Hid (Below w.heap.size w (w.alloc (.cells #[.int .u8 0, .int .u8 0, .string ⟨#[]⟩, .int .i64 0, .int .i64 0, .bool false, .bool false, .bool false, .bool false, .bool false, .int .i64 0, .slice none 0 0] 49))) := (Below.refl _ w).alloc (Nat.le_refl _) _
  have HK : Hid (Blk12 (w.alloc (.cells #[.int .u8 0, .int .u8 0, .string ⟨#[]⟩, .int .i64 0, .int .i64 0, .bool false, .bool false, .bool false, .bool false, .bool false, .int .i64 0, .slice none 0 0] 49)) w.heap.size) := heap_alloc_new w _
  rw [← hx] at hbu
  have HBU := hide hbu
  clear his hb hx hbu
  cases is
  · rw [show figR s.data.toList = .error 11 by rw [HR.out, if_neg (by simp)]]
    clear HR HT HBU hN
    go_enter Tryd.func47, Tryd.ntmps47
    go_wp2_with fail
    refine (hBy.out _).mono ?_
    rintro e w' ⟨rfl, rfl⟩
    go_wp2_with fail
    refine bodyPost_ret (v := .tuple #[fieldZ, .int .i64 11]) ?_ rfl ⟨0, ⟨#[]⟩, 0, 0, false, 0, none, 0, 0, 11, rfl, ?_, ?_⟩
    · simp [results, Tryd.results47, go_sem, fieldZ, fieldV, shapeV]
    · exact HB.out
    · exact ⟨rfl, rfl, rfl, rfl, rfl, rfl, rfl, rfl, rfl, rfl⟩
  · by_cases h48 : b = 48
    · rw [show figR s.data.toList = numR [48] by rw [HR.out, if_pos rfl, if_pos h48]]
      clear HR HT HBU
      subst h48
      obtain ⟨r, hr⟩ : ∃ r, r = numR [48] := ⟨_, rfl⟩
      rw [← hr] at hN ⊢
      clear hr
      go_enter Tryd.func47, Tryd.ntmps47
      go_wp2_with fail
      refine (hBy.out _).mono ?_
      rintro e w' ⟨rfl, rfl⟩
      go_upto_region 5 with fail
      go_cut [2, 3] (fun s2 s3 wx => ∃ c pic d sc sg n A k cp E, s2 = .pointer (some ⟨w.heap.size, 0, none⟩) ∧ s3 = .int .i64 E ∧ FldAt wx (w.heap.size) c pic d sc sg n (.slice A k cp) ∧ ResAt r w c pic d sc sg n A k cp E wx)
      case first =>
        go_wp2_with fail
        refine (hN.out _ HB.out).mono ?_
        rintro e W6 ⟨c, pic, d, sc, sg, n, A, k, cp, E, rfl, hres⟩
        have hk6 : Blk12 W6 (w.heap.size) := (hres.1.block _ HK.out.lt).trans HK.out
        obtain ⟨c0, c1, c2, c3, c4, c5, c6, c7, c8, c9, c10, c11⟩ := hk6.cells
        obtain ⟨f0, f1, f2, f3, f4, f5, f6, f7, f8, f9, f10, f11⟩ := hk6.free
        have HK6 := hide hk6
        have HRES := hide hres
        clear hk6 hres
        unfold fieldV shapeV
        go_wp2_with fail
        go_meet
        obtain ⟨N, hN, h12, z12, q12, t12⟩ := set12 HK6.out (.int .u8 c) (.int .u8 0) (.string pic) (.int .i64 d) (.int .i64 sc) (.bool sg) (.bool false) (.bool false) (.bool false) (.bool false) (.int .i64 n) (.slice A k cp)
        rw [← hN]
        exact ⟨c, pic, d, sc, sg, n, A, k, cp, E, rfl, rfl, h12, HRES.out.fwd HB.out HK.out.lt (by omega) z12 (fun B w' h => q12 B w' h) t12⟩
      case rest =>
        obtain ⟨c, pic, d, sc, sg, n, A, k, cp, E, rfl, rfl, hf, hres⟩ := hcut
        obtain ⟨c0, c1, c2, c3, c4, c5, c6, c7, c8, c9, c10, c11⟩ := hf.cells
        have HRES := hide hres
        clear hf hres
        go_wp2_with fail
        refine bodyPost_ret (v := .tuple #[fieldV c pic d sc sg n (.slice A k cp), .int .i64 E]) ?_ rfl ⟨c, pic, d, sc, sg, n, A, k, cp, E, rfl, HRES.out⟩
        simp [results, Tryd.results47, go_sem, fieldV, shapeV, *]
    · rw [show figR s.data.toList = txtR [x] by rw [HR.out, if_pos rfl, if_neg h48]]
      have h48' : (b == 48) = false := by simpa using h48
      obtain ⟨r, hr⟩ : ∃ r, r = txtR [x] := ⟨_, rfl⟩
      rw [← hr] at HT ⊢
      obtain ⟨W0, hW0⟩ : ∃ W0, W0 = w.alloc (.cells #[.int .u8 0, .int .u8 0, .string ⟨#[]⟩, .int .i64 0, .int .i64 0, .bool false, .bool false, .bool false, .bool false, .bool false, .int .i64 0, .slice none 0 0] 49) := ⟨_, rfl⟩
      rw [← hW0] at HB HK
      have hrow : Row (W0.alloc (.cells #[.int .u8 b] 5)) W0.heap.size [x] := by
        refine ⟨by simp, fun j u hu => ?_⟩
        have hj : j = 0 := by
          rcases Nat.eq_zero_or_pos j with h | h
          · exact h
          · rw [List.getElem?_eq_none (by rw [List.length_singleton]; omega)] at hu; cases hu
        subst hj
        have hu' : u = x := by simpa using hu.symm
        subst hu'
        have h0 := heap_alloc_new W0 (.cells #[.int .u8 b] 5)
        exact ⟨by rw [HBU.out]; exact cell_of_row _ _ 0 _ _ _ h0, frozen_of_row _ _ 0 _ _ h0⟩
      have hconv := hrow.text 1 1 rfl
      have HB2 : Hid (Below w.heap.size w (W0.alloc (.cells #[.int .u8 b] 5))) := HB.out.alloc HB.out.size _
      have HK2 : Hid (Blk12 (W0.alloc (.cells #[.int .u8 b] 5)) w.heap.size) := (heap_alloc_old W0 _ HK.out.lt).trans HK.out
      rw [show (⟨[x].toArray⟩ : ByteArray) = mk [x] from rfl] at hconv
      rw [hW0] at HB2 HK2
      rw [hW0, World.size_alloc] at hconv
      clear hr hrow h48 hN HR HBU hW0 HB HK
      go_enter Tryd.func47, Tryd.ntmps47
      go_wp2_with fail
      refine (hBy.out _).mono ?_
      rintro e w' ⟨rfl, rfl⟩
      have HB := HB2
      have HK := HK2
      clear HB2 HK2
      go_upto_region 6 with fail
      go_cut [2, 3] (fun s2 s3 wx => ∃ c pic d sc sg n A k cp E, s2 = .pointer (some ⟨w.heap.size, 0, none⟩) ∧ s3 = .int .i64 E ∧ FldAt wx (w.heap.size) c pic d sc sg n (.slice A k cp) ∧ ResAt r w c pic d sc sg n A k cp E wx)
      case first =>
        go_wp2_with fail
        refine (HT.out _).mono ?_
        rintro e W6 ⟨c, pic, d, sc, sg, n, A, k, cp, E, rfl, hres⟩
        have hk6 : Blk12 W6 (w.heap.size) := (hres.1.block _ HK.out.lt).trans HK.out
        obtain ⟨c0, c1, c2, c3, c4, c5, c6, c7, c8, c9, c10, c11⟩ := hk6.cells
        obtain ⟨f0, f1, f2, f3, f4, f5, f6, f7, f8, f9, f10, f11⟩ := hk6.free
        have HK6 := hide hk6
        have HRES := hide hres
        clear hk6 hres
        unfold fieldV shapeV
        go_wp2_with fail
        go_meet
        obtain ⟨N, hN, h12, z12, q12, t12⟩ := set12 HK6.out (.int .u8 c) (.int .u8 0) (.string pic) (.int .i64 d) (.int .i64 sc) (.bool sg) (.bool false) (.bool false) (.bool false) (.bool false) (.int .i64 n) (.slice A k cp)
        rw [← hN]
        exact ⟨c, pic, d, sc, sg, n, A, k, cp, E, rfl, rfl, h12, HRES.out.fwd HB.out HK.out.lt (by omega) z12 (fun B w' h => q12 B w' h) t12⟩
      case rest =>
        obtain ⟨c, pic, d, sc, sg, n, A, k, cp, E, rfl, rfl, hf, hres⟩ := hcut
        obtain ⟨c0, c1, c2, c3, c4, c5, c6, c7, c8, c9, c10, c11⟩ := hf.cells
        have HRES := hide hres
        clear hf hres
        go_wp2_with fail
        refine bodyPost_ret (v := .tuple #[fieldV c pic d sc sg n (.slice A k cp), .int .i64 E]) ?_ rfl ⟨c, pic, d, sc, sg, n, A, k, cp, E, rfl, HRES.out⟩
        simp [results, Tryd.results47, go_sem, fieldV, shapeV, *]
set_option maxRecDepth 100000 in
set_option maxHeartbeats 4000000 in
theorem Literal_r (kd : Int) (s : ByteArray) (tl tc : Int) (lf : Bool) (w : World) (hs : s.size ≤ 1000000) (hmx : MaxW w) :
    Calls Tryd.prog 19 #[.agg #[.int .u8 kd, .string s, .int .i64 tl, .int .i64 tc, .bool lf]] w (ResPost (litR kd s.data.toList) w) := by
  have hN : Hid (∀ W, Below w.heap.size w W → Calls Tryd.prog 45 #[.string s] W (ResPost (numR s.data.toList) W)) := fun W hb => number_r s W hs (hmx.below hb)
  have hT : Hid (∀ W, Calls Tryd.prog 46 #[.string s] W (ResPost (txtR s.data.toList) W)) := fun W => text_r s W (by unfold maxLen; omega)
  have hF : Hid (∀ W, Below w.heap.size w W → Calls Tryd.prog 47 #[.string s] W (ResPost (figR s.data.toList) W)) := fun W hb => figurative_r s W (hmx.below hb)
  have HB : Hid (Below w.heap.size w ((w.alloc (.cells #[.int .u8 kd, .string s, .int .i64 tl, .int .i64 tc, .bool lf] 56)).alloc (.cells #[.int .u8 0, .int .u8 0, .string ⟨#[]⟩, .int .i64 0, .int .i64 0, .bool false, .bool false, .bool false, .bool false, .bool false, .int .i64 0, .slice none 0 0] 49))) := ((Below.refl _ w).alloc (Nat.le_refl _) _).alloc (by simp) _
  have HK : Hid (Blk12 ((w.alloc (.cells #[.int .u8 kd, .string s, .int .i64 tl, .int .i64 tc, .bool lf] 56)).alloc (.cells #[.int .u8 0, .int .u8 0, .string ⟨#[]⟩, .int .i64 0, .int .i64 0, .bool false, .bool false, .bool false, .bool false, .bool false, .int .i64 0, .slice none 0 0] 49)) (w.heap.size + 1)) := by
    have := heap_alloc_new (w.alloc (.cells #[.int .u8 kd, .string s, .int .i64 tl, .int .i64 tc, .bool lf] 56)) (.cells #[.int .u8 0, .int .u8 0, .string ⟨#[]⟩, .int .i64 0, .int .i64 0, .bool false, .bool false, .bool false, .bool false, .bool false, .int .i64 0, .slice none 0 0] 49)
    rw [World.size_alloc] at this
    exact this
  by_cases h2 : kd = 2
  · obtain ⟨r, hr⟩ : ∃ r, r = numR s.data.toList := ⟨_, rfl⟩
    rw [show litR kd s.data.toList = r by unfold litR; rw [if_pos h2, hr]]
    rw [← hr] at hN
    clear hr hT hF
    subst h2
    go_enter Tryd.func19, Tryd.ntmps19
    go_upto_region 3 with fail
    go_cut [2, 3] (fun s2 s3 wx => ∃ c pic d sc sg n A k cp E, s2 = .pointer (some ⟨w.heap.size + 1, 0, none⟩) ∧ s3 = .int .i64 E ∧ FldAt wx (w.heap.size + 1) c pic d sc sg n (.slice A k cp) ∧ ResAt r w c pic d sc sg n A k cp E wx)
    case first =>
      go_wp2_with fail
      refine (hN.out _ HB.out).mono ?_
      rintro e W6 ⟨c, pic, d, sc, sg, n, A, k, cp, E, rfl, hres⟩
      have hk6 : Blk12 W6 (w.heap.size + 1) := (hres.1.block _ HK.out.lt).trans HK.out
      obtain ⟨c0, c1, c2, c3, c4, c5, c6, c7, c8, c9, c10, c11⟩ := hk6.cells
      obtain ⟨f0, f1, f2, f3, f4, f5, f6, f7, f8, f9, f10, f11⟩ := hk6.free
      have HK6 := hide hk6
      have HRES := hide hres
      clear hk6 hres
      unfold fieldV shapeV
      go_wp2_with fail
      go_meet
      obtain ⟨N, hN, h12, z12, q12, t12⟩ := set12 HK6.out (.int .u8 c) (.int .u8 0) (.string pic) (.int .i64 d) (.int .i64 sc) (.bool sg) (.bool false) (.bool false) (.bool false) (.bool false) (.int .i64 n) (.slice A k cp)
      rw [← hN]
      exact ⟨c, pic, d, sc, sg, n, A, k, cp, E, rfl, rfl, h12, HRES.out.fwd HB.out HK.out.lt (by omega) z12 (fun B w' h => q12 B w' h) t12⟩
    case rest =>
      obtain ⟨c, pic, d, sc, sg, n, A, k, cp, E, rfl, rfl, hf, hres⟩ := hcut
      obtain ⟨c0, c1, c2, c3, c4, c5, c6, c7, c8, c9, c10, c11⟩ := hf.cells
      have HRES := hide hres
      clear hf hres
      go_wp2_with fail
      refine bodyPost_ret (v := .tuple #[fieldV c pic d sc sg n (.slice A k cp), .int .i64 E]) ?_ rfl ⟨c, pic, d, sc, sg, n, A, k, cp, E, rfl, HRES.out⟩
      simp [results, Tryd.results19, go_sem, fieldV, shapeV, *]
  · by_cases h3 : kd = 3
    · obtain ⟨r, hr⟩ : ∃ r, r = txtR s.data.toList := ⟨_, rfl⟩
      rw [show litR kd s.data.toList = r by unfold litR; rw [if_neg h2, if_pos h3, hr]]
      rw [← hr] at hT
      clear hr hN hF h2
      subst h3
      go_enter Tryd.func19, Tryd.ntmps19
      go_upto_region 5 with fail
      go_cut [2, 3] (fun s2 s3 wx => ∃ c pic d sc sg n A k cp E, s2 = .pointer (some ⟨w.heap.size + 1, 0, none⟩) ∧ s3 = .int .i64 E ∧ FldAt wx (w.heap.size + 1) c pic d sc sg n (.slice A k cp) ∧ ResAt r w c pic d sc sg n A k cp E wx)
      case first =>
        go_wp2_with fail
        refine (hT.out _).mono ?_
        rintro e W6 ⟨c, pic, d, sc, sg, n, A, k, cp, E, rfl, hres⟩
        have hk6 : Blk12 W6 (w.heap.size + 1) := (hres.1.block _ HK.out.lt).trans HK.out
        obtain ⟨c0, c1, c2, c3, c4, c5, c6, c7, c8, c9, c10, c11⟩ := hk6.cells
        obtain ⟨f0, f1, f2, f3, f4, f5, f6, f7, f8, f9, f10, f11⟩ := hk6.free
        have HK6 := hide hk6
        have HRES := hide hres
        clear hk6 hres
        unfold fieldV shapeV
        go_wp2_with fail
        go_meet
        obtain ⟨N, hN, h12, z12, q12, t12⟩ := set12 HK6.out (.int .u8 c) (.int .u8 0) (.string pic) (.int .i64 d) (.int .i64 sc) (.bool sg) (.bool false) (.bool false) (.bool false) (.bool false) (.int .i64 n) (.slice A k cp)
        rw [← hN]
        exact ⟨c, pic, d, sc, sg, n, A, k, cp, E, rfl, rfl, h12, HRES.out.fwd HB.out HK.out.lt (by omega) z12 (fun B w' h => q12 B w' h) t12⟩
      case rest =>
        obtain ⟨c, pic, d, sc, sg, n, A, k, cp, E, rfl, rfl, hf, hres⟩ := hcut
        obtain ⟨c0, c1, c2, c3, c4, c5, c6, c7, c8, c9, c10, c11⟩ := hf.cells
        have HRES := hide hres
        clear hf hres
        go_wp2_with fail
        refine bodyPost_ret (v := .tuple #[fieldV c pic d sc sg n (.slice A k cp), .int .i64 E]) ?_ rfl ⟨c, pic, d, sc, sg, n, A, k, cp, E, rfl, HRES.out⟩
        simp [results, Tryd.results19, go_sem, fieldV, shapeV, *]
    · by_cases h1 : kd = 1
      · obtain ⟨r, hr⟩ : ∃ r, r = figR s.data.toList := ⟨_, rfl⟩
        rw [show litR kd s.data.toList = r by unfold litR; rw [if_neg h2, if_neg h3, if_pos h1, hr]]
        rw [← hr] at hF
        clear hr hN hT h2 h3
        subst h1
        go_enter Tryd.func19, Tryd.ntmps19
        go_upto_region 7 with fail
        go_cut [2, 3] (fun s2 s3 wx => ∃ c pic d sc sg n A k cp E, s2 = .pointer (some ⟨w.heap.size + 1, 0, none⟩) ∧ s3 = .int .i64 E ∧ FldAt wx (w.heap.size + 1) c pic d sc sg n (.slice A k cp) ∧ ResAt r w c pic d sc sg n A k cp E wx)
        case first =>
          go_wp2_with fail
          refine (hF.out _ HB.out).mono ?_
          rintro e W6 ⟨c, pic, d, sc, sg, n, A, k, cp, E, rfl, hres⟩
          have hk6 : Blk12 W6 (w.heap.size + 1) := (hres.1.block _ HK.out.lt).trans HK.out
          obtain ⟨c0, c1, c2, c3, c4, c5, c6, c7, c8, c9, c10, c11⟩ := hk6.cells
          obtain ⟨f0, f1, f2, f3, f4, f5, f6, f7, f8, f9, f10, f11⟩ := hk6.free
          have HK6 := hide hk6
          have HRES := hide hres
          clear hk6 hres
          unfold fieldV shapeV
          go_wp2_with fail
          go_meet
          obtain ⟨N, hN, h12, z12, q12, t12⟩ := set12 HK6.out (.int .u8 c) (.int .u8 0) (.string pic) (.int .i64 d) (.int .i64 sc) (.bool sg) (.bool false) (.bool false) (.bool false) (.bool false) (.int .i64 n) (.slice A k cp)
          rw [← hN]
          exact ⟨c, pic, d, sc, sg, n, A, k, cp, E, rfl, rfl, h12, HRES.out.fwd HB.out HK.out.lt (by omega) z12 (fun B w' h => q12 B w' h) t12⟩
        case rest =>
          obtain ⟨c, pic, d, sc, sg, n, A, k, cp, E, rfl, rfl, hf, hres⟩ := hcut
          obtain ⟨c0, c1, c2, c3, c4, c5, c6, c7, c8, c9, c10, c11⟩ := hf.cells
          have HRES := hide hres
          clear hf hres
          go_wp2_with fail
          refine bodyPost_ret (v := .tuple #[fieldV c pic d sc sg n (.slice A k cp), .int .i64 E]) ?_ rfl ⟨c, pic, d, sc, sg, n, A, k, cp, E, rfl, HRES.out⟩
          simp [results, Tryd.results19, go_sem, fieldV, shapeV, *]
      · rw [show litR kd s.data.toList = .error 12 by unfold litR; rw [if_neg h2, if_neg h3, if_neg h1]]
        have k2 : (kd == 2) = false := by simpa using h2
        have k3 : (kd == 3) = false := by simpa using h3
        have k1 : (kd == 1) = false := by simpa using h1
        clear hN hT hF h1 h2 h3 HK
        go_enter Tryd.func19, Tryd.ntmps19
        go_wp2_with fail
        refine bodyPost_ret (v := .tuple #[fieldZ, .int .i64 12]) ?_ rfl ⟨0, ⟨#[]⟩, 0, 0, false, 0, none, 0, 0, 12, rfl, ?_, ?_⟩
        · simp [results, Tryd.results19, go_sem, fieldZ, fieldV, shapeV]
        · exact HB.out
        · exact ⟨rfl, rfl, rfl, rfl, rfl, rfl, rfl, rfl, rfl, rfl⟩
end Go.Proofs.YthdggnkpncoikaaDoor
