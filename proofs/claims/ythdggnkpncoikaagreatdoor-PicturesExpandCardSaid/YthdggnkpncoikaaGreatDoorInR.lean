/-
  CONTRACT of the reference's in (layer 6, pictures); PURE FACTS of its Expand.
-/
import Derived.Test.YthdggnkpncoikaaGreatDoorShtE
import Derived.Test.YthdggnkpncoikaaGreatDoorExqP
namespace Go.Proofs.YthdggnkpncoikaaGreatDoor
open Go.RowKit Go.Shelf

theorem byteAt (G : ByteArray) (j : Nat) (h : j < G.size) (x : UInt8) (hx : G[j] = x) : G.data.toList[j]? = some x := by
  have := Lib.data_getElem? G j h
  rw [hx] at this
  exact this
set_option maxRecDepth 100000 in
theorem in_c (c : UInt8) (S : ByteArray) (w : World) (hS : S.size ≤ 1000) :
    Calls Tryz.prog 17 #[.int .u8 (c.toNat : Int), .string S] w fun e w' => e = .returned (.bool (S.data.toList.contains c)) ∧ w = w' := by
  have hl := len_data S
  have HL := hide hl
  clear hl
  go_enter Tryz.func17, Tryz.ntmps17
  go_wp2_with fail
  go_loopw [5] (fun iv wr => ∃ i : Nat, iv = .int .i64 (i : Int) ∧ i ≤ S.size ∧ Hid (∀ j, j < i → S.data.toList[j]? ≠ some c) ∧ Hid (w = wr)) (fun iv _ => S.size - (intOf iv).toNat)
  case atStart => exact ⟨0, rfl, by omega, fun j hj => by omega, rfl⟩
  case round =>
    obtain ⟨i, rfl, hi, hn, hw⟩ := hrel
    obtain ⟨W, rfl⟩ : ∃ W, W = wr := ⟨_, rfl⟩
    by_cases hlt : i < S.size
    · obtain ⟨x, hx⟩ : ∃ x, S[i] = x := ⟨_, rfl⟩
      have HX := hide (byteAt S i hlt x hx)
      cases hxc : ((x.toNat : Int) == (c.toNat : Int)) with
      | true =>
        have hxe : x = c := by
          have := eq_of_beq hxc
          apply UInt8.toNat_inj.1
          omega
        have HR : Hid (S.data.toList.contains c = true) := by
          unfold Hid
          rw [List.contains_iff_mem]
          exact List.mem_of_getElem? (HX.out.trans (congrArg some hxe))
        clear hxe
        go_wp2_with fail
        go_ret
        exact ⟨by rw [HR.out]; rfl, hw.out⟩
      | false =>
        have HN : Hid (∀ j, j < i + 1 → S.data.toList[j]? ≠ some c) := fun j hj h => by
          by_cases e : j = i
          · rw [e, HX.out] at h
            cases h
            rw [beq_self_eq_true] at hxc
            cases hxc
          · exact hn.out j (by omega) h
        go_wp2_with fail
        exact ⟨⟨i + 1, rfl, by omega, HN.out, hw.out⟩, by simp [intOf]; omega⟩
    · have HR : Hid (S.data.toList.contains c = false) := by
        unfold Hid
        rw [Bool.eq_false_iff]
        intro h
        rw [List.contains_iff_mem] at h
        obtain ⟨j, hj⟩ := List.mem_iff_getElem?.1 h
        have := (List.getElem?_eq_some_iff.1 hj).1
        rw [HL.out] at this
        exact hn.out j (by omega) hj
      go_wp2_with fail
      go_ret
      exact ⟨by rw [HR.out]; rfl, hw.out⟩
/-- what the reference answers -/
def refR (x : Option (List UInt8 × Nat)) : List UInt8 × Int := match x with
  | none => ([], 4)
  | some (o, n) => if n = 0 then ([], 4) else if 256 < n then ([], 3) else (o, 0)
theorem refR_exp (l : List UInt8) : refR (Pic.refG l.length [] 0 l) = Pic.expL l := by
  by_cases hl : l = []
  · subst hl; rfl
  · have he : Pic.expL l = Pic.expR (Pic.expG l.length [] l) := by
      unfold Pic.expL
      rw [if_neg (by simpa using hl)]
    rcases Pic.ref_exp l.length [] 0 [] l (.inl ⟨by omega, rfl, rfl⟩) with ⟨h1, h2⟩ | ⟨o, n, p, h1, h2, h3⟩
    · rw [h1, he, h2]; rfl
    · rw [h1, he, h2]
      unfold refR Pic.expR
      simp only []
      rcases h3 with ⟨h3, h4, h5⟩ | ⟨h3, h4⟩
      · have hn : n ≠ 0 := by
          intro hn
          have hp : p = [] := List.eq_nil_of_length_eq_zero (by omega)
          have hx : Pic.expL l = ([], 0) := by rw [he, h2, hp]; rfl
          exact (expL_ok l [] hx).2.2.1 rfl
        rw [if_neg hn, if_neg (by omega), if_neg (by omega), h4]
      · rw [if_neg (by omega), if_pos h3, if_pos h4]
theorem refG_cons (f : Nat) (out : List UInt8) (n : Nat) (c : UInt8) (r : List UInt8) : Pic.refG (f + 1) out n (c :: r) = if Pic.isSym c then match Pic.repL r with
      | none => none
      | some (m, b) => Pic.refG f ((out ++ List.replicate m c).take 257) (n + m) b else none := rfl
theorem refG_nil (f : Nat) (out : List UInt8) (n : Nat) : Pic.refG f out n [] = some (out, n) := by cases f <;> rfl
theorem drop_cons (l : List UInt8) (i : Nat) (c : UInt8) (h : l[i]? = some c) : l.drop i = c :: l.drop (i + 1) := by
  obtain ⟨h1, h2⟩ := List.getElem?_eq_some_iff.1 h
  rw [List.drop_eq_getElem_cons h1, h2]
end Go.Proofs.YthdggnkpncoikaaGreatDoor
