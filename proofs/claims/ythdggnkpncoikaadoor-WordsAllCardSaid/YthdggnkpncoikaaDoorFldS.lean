/-
  THE CONTRACT of strings.FieldsSeq at texts of ASCII bytes (layer 5, words): the iterator hands over the fields.
-/
import Derived.Test.YthdggnkpncoikaaDoorBase
import Derived.Test.YthdggnkpncoikaaDoorRngT
import Derived.RangeFuncBox
import Derived.Shelf.Abstract
import Derived.Shelf.RegionOpen
import Derived.OwnWalkIn
import Derived.TacticsInMore
import Derived.LoopNIn
import Derived.LoopIn
import Derived.Outline
import Derived.Lib.FieldsLaws
import Derived.Lib.IndexBytes
namespace Go.Proofs.YthdggnkpncoikaaDoor
open Go.RowKit Go.Shelf
attribute [local go_sem] Oper.semAt_some

/-- the library's table of white space -/
def AscS (w : World) : Prop := ∀ c : Nat, c < 256 → w.cell? ⟨0, c, none⟩ = some (.int .u8 (if Lib.isSp (UInt8.ofNat c) then 1 else 0))
theorem AscS.below {n : Nat} {w w' : World} (h : AscS w) (hn : w.heap.size ≤ n ∨ 0 < n) (hb : Below n w w') : AscS w' := by
  intro c hc
  have h0 := h c hc
  have hlt : 0 < w.heap.size := World.block_lt_of_cell? _ _ h0
  exact (World.cell?_of_block (a := ⟨0, c, none⟩) (hb.block 0 (by rcases hn with hn | hn <;> omega))).trans h0

set_option maxHeartbeats 400000 in
theorem fields_mk (s : ByteArray) (w : World) :
    Calls Tryd.prog 70 #[.string s] w fun e w' => e = .returned (.func (.func 101) #[] #[.pointer (some ⟨w.heap.size, 0, none⟩)]) ∧ w' = w.alloc (.cells #[.string s] 9) := by
  go_enter Tryd.func70, Tryd.ntmps70
  go_wp2_with fail
  go_ret
  exact ⟨rfl, rfl⟩

theorem mk_piece (s : ByteArray) (a b : Nat) : mk ((s.data.toList.drop a).take (b - a)) = s.extract a b := by
  rw [show (s.data.toList.drop a).take (b - a) = (s.extract a b).data.toList by rw [Lib.extract_data], mk_of]

set_option maxHeartbeats 2000000 in
set_option maxRecDepth 100000 in
theorem fields_seq (n b0 : Nat) (s : ByteArray) (w : World) (hs : s.size ≤ 1000000) (ha : ∀ (j : Nat) x, s.data.toList[j]? = some x → x.toNat < 128) (hb0 : b0 < w.heap.size) (hbox : Boxed w b0 9 (.string s)) :
    SeqT Fence.wide n Tryd.prog 101 #[.pointer (some ⟨b0, 0, none⟩)] (fun x : ByteArray => #[.string x]) b0 ((Lib.fields s.data.toList).map mk) AscS w := by
  intro l J Jx W hbel hJT hJ hJx hY h0
  have hboxW : Boxed W b0 9 (.string s) := (hbel.block b0 hb0).trans hbox
  refine callsIn_of_wp Tryd.func101 rfl trivial ?_ rfl
  simp only [Tryd.ntmps101, List.size_toArray, List.length_cons, List.length_nil, Nat.reduceAdd, Nat.reduceSub, Array.replicate_succ, Array.replicate_zero, List.push_toArray, List.append_toArray, List.nil_append, List.cons_append]
  have HA := hide ha
  clear ha
  gi_wp2
  gi_loopw [3, 4] (fun v3 v4 wr => ∃ (pre : List ByteArray) (k : Nat) (z : Int), k ≤ s.size ∧ v4 = .int .i64 (k : Int) ∧ v3 = .int .i64 z ∧ Boxed wr b0 9 (.string s) ∧ J pre wr ∧
      ((z = -1 ∧ Lib.fields s.data.toList = pre.map (·.data.toList) ++ Lib.fieldsGo [] (s.data.toList.drop k)) ∨ (∃ a : Nat, z = a ∧ a < k ∧ Lib.fields s.data.toList = pre.map (·.data.toList) ++ Lib.fieldsGo ((s.data.toList.drop a).take (k - a)) (s.data.toList.drop k))))
    (fun _ v4 _ => s.size - (intOf v4).toNat)
  case atStart => exact ⟨[], 0, -1, Nat.zero_le _, rfl, rfl, hboxW, h0, .inl ⟨rfl, by simp [Lib.fields]⟩⟩
  case round =>
    obtain ⟨pre, k, z, hk, rfl, rfl, hbx, hJs, hcase⟩ := hrel
    have hcb := hbx.cell
    have hfb := hbx.frozen
    by_cases hlt : k < s.size
    · obtain ⟨x, hx⟩ : ∃ x : UInt8, s[k] = x := ⟨_, rfl⟩
      have hxl : s.data.toList[k]? = some x := by rw [← hx]; exact Lib.data_getElem? s k hlt
      have hx128 : x.toNat < 128 := HA.out k x hxl
      have hdr := Lib.drop_at hxl
      have hTx : wr.cell? ⟨0, x.toNat, none⟩ = some (.int .u8 (if Lib.isSp x then 1 else 0)) := by
        have := hJT _ _ hJs x.toNat (by omega)
        simpa using this
      rw [hdr] at hcase
      have HJ := hide hJs
      have HB := hide hbx
      clear hJs hbx hdr
      cases hsp : Lib.isSp x
      · rw [hsp] at hTx
        simp only [Bool.false_eq_true, if_false] at hTx
        rcases hcase with ⟨rfl, hf⟩ | ⟨a, rfl, hak, hf⟩
        · have hf2 : Hid (Lib.fields s.data.toList = pre.map (·.data.toList) ++ Lib.fieldsGo ((s.data.toList.drop k).take (k + 1 - k)) (s.data.toList.drop (k + 1))) := by
            unfold Hid
            rw [hf, Lib.fieldsGo_more _ _ _ hsp, Lib.piece_more (Nat.le_refl k) hxl, Lib.piece_nil]
          clear hf hxl
          gi_wp2
          go_roundw
          case rel => exact ⟨pre, k + 1, k, hlt, by go_num, rfl, HB.out, HJ.out, .inr ⟨k, rfl, by omega, hf2.out⟩⟩
          case measure => simp [intOf]; omega
        · have hf2 : Hid (Lib.fields s.data.toList = pre.map (·.data.toList) ++ Lib.fieldsGo ((s.data.toList.drop a).take (k + 1 - a)) (s.data.toList.drop (k + 1))) := by
            unfold Hid
            rw [hf, Lib.fieldsGo_more _ _ _ hsp, Lib.piece_more (Nat.le_of_lt hak) hxl]
          clear hf hxl
          gi_wp2
          go_roundw
          case rel => exact ⟨pre, k + 1, a, hlt, by go_num, rfl, HB.out, HJ.out, .inr ⟨a, rfl, by omega, hf2.out⟩⟩
          case measure => simp [intOf]; omega
      · rw [hsp] at hTx
        simp only [if_true] at hTx
        rcases hcase with ⟨rfl, hf⟩ | ⟨a, rfl, hak, hf⟩
        · have hf2 : Hid (Lib.fields s.data.toList = pre.map (·.data.toList) ++ Lib.fieldsGo [] (s.data.toList.drop (k + 1))) := by
            unfold Hid
            rw [hf, Lib.fieldsGo_sp _ _ hsp]
          clear hf hxl
          gi_wp2
          go_roundw
          case rel => exact ⟨pre, k + 1, -1, hlt, by go_num, rfl, HB.out, HJ.out, .inl ⟨rfl, hf2.out⟩⟩
          case measure => simp [intOf]; omega
        · have hne := Lib.piece_ne (l := s.data.toList) hak (by rw [len_data]; omega)
          have hf1 : Lib.fields s.data.toList = (pre ++ [s.extract a k]).map (·.data.toList) ++ Lib.fieldsGo [] (s.data.toList.drop (k + 1)) := by
            rw [hf, Lib.fieldsGo_end _ _ _ hsp hne, ← mk_piece]
            simp [mk_data]
          have hpre : (pre ++ [s.extract a k]) <+: (Lib.fields s.data.toList).map mk := by
            refine ⟨(Lib.fieldsGo [] (s.data.toList.drop (k + 1))).map mk, ?_⟩
            rw [hf1, List.map_append, List.map_map, show (mk ∘ fun x : ByteArray => x.data.toList) = id from rfl, List.map_id]
          obtain ⟨fn, tmps, assign, body, hy, hR⟩ := hY pre (s.extract a k) _ HJ.out hpre
          have hf2 : Hid (Lib.fields s.data.toList = (pre ++ [s.extract a k]).map (·.data.toList) ++ Lib.fieldsGo [] (s.data.toList.drop (k + 1))) := hf1
          have HPRE := hide hpre
          clear hf hxl hf1 hpre hne
          gi_wp2
          refine ⟨(fun h => by cases h), hR.mono ?_⟩
          rintro e W3 (⟨rfl, hJ3, hk3⟩ | ⟨rfl, hJx3⟩)
          · have hbx3 : Boxed W3 b0 9 (.string s) := hk3.trans HB.out
            gi_wp2
            go_roundw
            case rel => exact ⟨_, k + 1, -1, hlt, by go_num, rfl, hbx3, hJ3, .inl ⟨rfl, hf2.out⟩⟩
            case measure => simp [intOf]; omega
          · have hpx := HPRE.out
            gi_wp2
            refine bodyPost_ret (results_none rfl _ _ _) rfl ?_
            exact ⟨⟨_, rfl⟩, .inr ⟨_, hpx, hJx3⟩⟩
    · obtain rfl : k = s.size := by omega
      have hd : s.data.toList.drop s.size = [] := List.drop_eq_nil_of_le (by rw [len_data]; exact Nat.le_refl _)
      rw [hd] at hcase
      have HJ := hide hJs
      have HB := hide hbx
      clear hJs hbx hd
      rcases hcase with ⟨rfl, hf⟩ | ⟨a, rfl, hak, hf⟩
      · have HF : Hid (pre = (Lib.fields s.data.toList).map mk) := by
          unfold Hid
          rw [hf, Lib.fieldsGo]
          simp [Function.comp_def, mk_of]
        clear hf
        gi_wp2
        go_end0
        exact ⟨⟨_, rfl⟩, .inl (by rw [← HF.out]; exact HJ.out)⟩
      · have hne := Lib.piece_ne (l := s.data.toList) hak (by rw [len_data]; omega)
        have hf1 : Lib.fields s.data.toList = (pre ++ [s.extract a s.size]).map (·.data.toList) := by
          rw [hf, ← mk_piece]
          cases hc : (s.data.toList.drop a).take (s.size - a) with
          | nil => exact absurd hc hne
          | cons c r => rw [Lib.fieldsGo]; simp [mk_data]
        have HF : Hid (pre ++ [s.extract a s.size] = (Lib.fields s.data.toList).map mk) := by
          unfold Hid
          rw [hf1, List.map_map, show (mk ∘ fun x : ByteArray => x.data.toList) = id from rfl, List.map_id]
        have hpre : (pre ++ [s.extract a s.size]) <+: (Lib.fields s.data.toList).map mk := by
          rw [HF.out]; exact List.prefix_refl _
        obtain ⟨fn, tmps, assign, body, hy, hR⟩ := hY pre (s.extract a s.size) _ HJ.out hpre
        have HPRE := hide hpre
        clear hf hf1 hpre hne
        gi_wp2
        refine ⟨(fun h => by cases h), hR.mono ?_⟩
        rintro e W3 (⟨rfl, hJ3, hk3⟩ | ⟨rfl, hJx3⟩)
        · gi_wp2
          go_end0
          exact ⟨⟨_, rfl⟩, .inl (by rw [← HF.out]; exact hJ3)⟩
        · have hpx := HPRE.out
          gi_wp2
          go_end0
          exact ⟨⟨_, rfl⟩, .inr ⟨_, hpx, hJx3⟩⟩
end Go.Proofs.YthdggnkpncoikaaDoor
