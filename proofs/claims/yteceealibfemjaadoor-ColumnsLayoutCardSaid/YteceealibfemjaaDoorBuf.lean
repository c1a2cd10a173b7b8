/-
  THE BUFFER THAT WRITE FILLS (layer 2, columns): a builder in a block of its own; the lines that stand in it; the table of strconv.
-/
import Derived.Test.YteceealibfemjaaDoorWr1
import Derived.Test.YteceealibfemjaaDoorRea
namespace Go.Proofs.YteceealibfemjaaDoor
open Go.RowKit Go.Shelf

/-- the output lines of pieces, numbered behind n -/
def outL : Nat → List (List UInt8 × List UInt8) → List UInt8
  | _, [] => []
  | n, p :: r => numL (n + 1) ++ p.1 ++ p.2 ++ [10] ++ outL (n + 1) r
theorem outL_snoc (n : Nat) (ps : List (List UInt8 × List UInt8)) (p : List UInt8 × List UInt8) : outL n (ps ++ [p]) = outL n ps ++ (numL (n + ps.length + 1) ++ p.1 ++ p.2 ++ [10]) := by
  induction ps generalizing n with
  | nil => simp [outL]
  | cons q r ih =>
    simp only [List.cons_append, outL, ih, List.length_cons, List.append_assoc]
    rw [show n + 1 + r.length + 1 = n + (r.length + 1) + 1 by omega]
theorem tab_below {w w' : World} {name : String} {k : IntKind} {zs : List Int} (h : Lib.TabIs Tryd.prog w name k zs) (hb : Below w.heap.size w w') : Lib.TabIs Tryd.prog w' name k zs := by
  unfold Lib.TabIs World.var? at *
  cases hg : Tryd.prog.globalNamed name with
  | none => rw [hg] at h; simp at h
  | some g =>
    rw [hg] at h
    simp only [Option.bind_some] at h ⊢
    cases ho : w.heap[g]? with
    | none => rw [ho] at h; simp at h
    | some o =>
      have hlt := (Array.getElem?_eq_some_iff.1 ho).1
      rw [(hb.block g hlt).trans ho]
      rw [ho] at h
      exact h

/-- the builder in block m holds these bytes -/
def BufAt (B m : Nat) (w : World) (bs : List UInt8) : Prop := ∃ p v, Blk w m #[p, v] 46 ∧ (p = .pointer none ∨ p = .pointer (some ⟨m, 0, none⟩)) ∧ w.ownsRow B 5 1 v bs.length (Lib.byteCells bs)
theorem bin_of_buf {w : World} {m : Nat} {cs : Array Value} (h : Blk w m cs 46) (hs : cs.size = 2) : BIn w m 0 46 cs :=
  ⟨h, by omega, by rw [hs]; kernel_rfl, by decide⟩
theorem BufAt.mods {M : Nat → Prop} {B m : Nat} {w w' : World} {bs : List UInt8} (h : BufAt B m w bs) (hm : Mods M w w') (hM : ∀ j, M j → j ≠ m ∧ (j < B ∨ ∀ o, w.heap[j]? = some o → elemT o ≠ some 5)) : BufAt B m w' bs := by
  obtain ⟨p, v, h1, h2, h3⟩ := h
  refine ⟨p, v, h1.mods hm (fun e => (hM m e).1 rfl), h2, own_kept h3 hm (fun j hj hMj => ?_)⟩
  obtain ⟨o, ho, he, hB⟩ := own_elem h3 j hj
  rcases (hM j hMj).2 with h | h
  · omega
  · exact h o ho he
theorem BufAt.new (B : Nat) (w : World) : BufAt B w.heap.size (w.alloc (.cells #[.pointer none, .slice none 0 0] 46)) [] := ⟨_, _, blk_new w _ _, .inl rfl, World.ownsRow_nil _ _ _ _⟩

set_option maxHeartbeats 1000000 in
theorem buf_write (B m : Nat) (w : World) (bs : List UInt8) (s : ByteArray) (h : BufAt B m w bs) (hB : B ≤ w.heap.size) (hlen : bs.length + s.size ≤ 10000000) :
    Calls Tryd.prog 16 #[.pointer (some ⟨m, 0, none⟩), .string s] w fun e w' => e = .returned (.tuple #[.int .i64 s.size, .nilIface]) ∧ BufAt B m w' (bs ++ s.data.toList) ∧
      Mods (fun j => j = m ∨ (B ≤ j ∧ ∃ o, w.heap[j]? = some o ∧ elemT o = some 5)) w w' := by
  obtain ⟨p, v, h1, h2, h3⟩ := h
  have hbl : (Lib.byteCells bs).length = bs.length := by simp [Lib.byteCells]
  refine (bWrite_c B m 0 46 _ v (Lib.byteCells bs) s w (bin_of_buf h1 rfl) ?_ rfl (by rw [hbl]; exact h3) hB (by rw [hbl]; exact hlen)).mono ?_
  · rcases h2 with rfl | rfl
    · exact .inl rfl
    · exact .inr rfl
  · rintro e w' ⟨he, v', hb, ho, hm⟩
    refine ⟨he, ⟨.pointer (some ⟨m, 0, none⟩), v', ?_, .inr rfl, ?_⟩, hm.weak (fun i _ hi => ?_)⟩
    · exact hb.heap
    · rw [hbl] at ho
      rw [List.length_append, len_data]
      have e : Lib.byteCells (bs ++ s.data.toList) = Lib.byteCells bs ++ Lib.strCells s := by simp [Lib.byteCells, Lib.strCells]
      rw [e]; exact ho
    · rcases hi with e | e
      · exact .inl e
      · obtain ⟨o, ho, he, hB⟩ := own_elem h3 i e
        exact .inr ⟨hB, o, ho, he⟩
theorem buf_len (B m : Nat) (w : World) (bs : List UInt8) (h : BufAt B m w bs) :
    Calls Tryd.prog 18 #[.pointer (some ⟨m, 0, none⟩)] w fun e w' => e = .returned (.int .i64 (bs.length : Int)) ∧ w = w' := by
  obtain ⟨p, v, h1, h2, h3⟩ := h
  obtain ⟨A, c, rfl⟩ := own_shape h3
  exact bLen_c m 0 w A bs.length c (h1.cell 1)
end Go.Proofs.YteceealibfemjaaDoor
