/-
  RdP Rdc Scn SrcP (layer 3, tokens), in one text.
-/
import Derived.Test.YtghnffdjdjlomaaGreatDoorTkC
/-! ONE ROUND OF THE SCANNER (layer 3, tokens): plain facts. -/
namespace Go.Proofs.YtghnffdjdjlomaaGreatDoor
open Go.RowKit Go.Shelf

/-- the tokens of a card, from a place on at which what separates is skipped -/
def headL (c : CardL) (fuel : Nat) (ts : List TokL) (j : Nat) : Except (Int × Int × Int) (List TokL) :=
  if c.text.length ≤ j then .ok ts
  else match nextL ts c.text j with
    | .error e => .error (e, (posL c j).1, (posL c j).2)
    | .ok (k, x, n) => if ts.length = 65536 then .error (3, (posL c j).1, (posL c j).2)
      else goL c fuel (ts ++ [⟨k, x, (posL c j).1, (posL c j).2, decide ((posL c j).2 < 12)⟩]) (j + n)
theorem goL_head (c : CardL) (fuel : Nat) (ts : List TokL) (i : Nat) : goL c (fuel + 1) ts i = headL c fuel ts (i + skipN ts (c.text.drop i)) := rfl
theorem skipN_stop (ts : List TokL) (l : List UInt8) (h : skipN ts l < l.length) : l.getD (skipN ts l) 0 ≠ 32 := by
  induction l with
  | nil => simp at h
  | cons c r ih =>
    unfold skipN at h ⊢
    split
    · rename_i hc
      rw [if_pos hc] at h
      simpa using ih (by simpa using h)
    · rename_i hc
      rw [if_neg hc] at h
      split
      · rename_i h2
        rw [if_pos h2] at h
        split
        · rename_i h3
          rw [if_pos h3] at h
          simpa using ih (by simpa using h)
        · simpa using hc
      · simpa using hc
theorem skipN_stop' (ts : List TokL) (t : List UInt8) (i : Nat) (h : i + skipN ts (t.drop i) < t.length) : t.getD (i + skipN ts (t.drop i)) 0 ≠ 32 := by
  have := skipN_stop ts (t.drop i) (by rw [List.length_drop]; omega)
  simpa [List.getD_eq_getElem?_getD] using this
theorem next_err {ts : List TokL} {t : List UInt8} {j : Nat} {e : Int} (h : nextL ts t j = .error e) : e = 4 ∨ e = 5 := by
  unfold nextL at h
  simp only at h
  split at h
  · unfold pictureL at h
    obtain ⟨g, hg⟩ : ∃ g, g = (if lastIn (Lib.cut (t.drop j) [32]).1 then (Lib.cut (t.drop j) [32]).1.take ((Lib.cut (t.drop j) [32]).1.length - 1) else (Lib.cut (t.drop j) [32]).1) := ⟨_, rfl⟩
    simp only [← hg] at h
    split at h
    · injection h with h; exact .inl h.symm
    · split at h
      · injection h with h; exact .inl h.symm
      · split at h
        · injection h with h; exact .inl h.symm
        · cases h
  · split at h
    · unfold quoteL at h
      split at h
      · injection h with h; exact .inl h.symm
      · injection h with h; exact .inl h.symm
      · cases h
    · split at h
      · cases h
      · split at h
        · cases h
        · split at h
          · unfold numberL at h
            split at h
            · injection h with h; exact .inl h.symm
            · split at h
              · injection h with h; exact .inr h.symm
              · cases h
          · split at h
            · unfold wordL at h
              split at h
              · injection h with h; exact .inl h.symm
              · split at h
                · split at h
                  · injection h with h; exact .inr h.symm
                  · cases h
                · injection h with h; exact .inl h.symm
            · unfold signL at h
              split at h
              · cases h
              · split at h
                · injection h with h; exact .inl h.symm
                · cases h
/-- what a token's reading comes to: its kind, text, length, the error with the limit's -/
structure NextR (c : CardL) (ts : List TokL) (j : Nat) (K : Int) (X : ByteArray) (N : Nat) (E0 E : Int) : Prop where
  laidN ::
  res : resN (nextL ts c.text j) = tokR K X (N : Nat) E0
  err : (E0 == 0) = true → E = if ts.length = 65536 then 3 else 0
  err2 : (E0 == 0) = false → E = E0
  bad : ∀ fuel, E ≠ 0 → headL c fuel ts j = .error (E, (posL c j).1, (posL c j).2)
  good : ∀ fuel, E = 0 → headL c fuel ts j = goL c fuel (ts ++ [⟨K, X.data.toList, (posL c j).1, (posL c j).2, decide ((posL c j).2 < 12)⟩]) (j + N) ∧ 1 ≤ N ∧ j + N ≤ c.text.length ∧ ts.length ≠ 65536
theorem nextR (c : CardL) (ts : List TokL) (j : Nat) (hj : j < c.text.length) : ∃ K X N E0 E, NextR c ts j K X N E0 E := by
  cases h : nextL ts c.text j with
  | error e =>
    have he := next_err h
    have he0 : e ≠ 0 := by omega
    refine ⟨0, ⟨#[]⟩, 0, e, e, ⟨by rw [h]; rfl, fun h0 => absurd (by simpa using h0) he0, fun _ => rfl, fun fuel _ => ?_, fun fuel h0 => absurd h0 he0⟩⟩
    unfold headL
    rw [if_neg (by omega), h]
  | ok r =>
    obtain ⟨k, x, n⟩ := r
    have hs := next_size hj h
    by_cases hl : ts.length = 65536
    · refine ⟨k, mk x, n, 0, 3, ⟨by rw [h]; rfl, fun _ => by rw [if_pos hl], fun h0 => by simp at h0, fun fuel _ => ?_, fun fuel h0 => by simp at h0⟩⟩
      unfold headL
      rw [if_neg (by omega), h]
      simp only [if_pos hl]
    · refine ⟨k, mk x, n, 0, 0, ⟨by rw [h]; rfl, fun _ => by rw [if_neg hl], fun h0 => by simp at h0, fun fuel h0 => absurd rfl h0, fun fuel _ => ⟨?_, hs.1, hs.2.1, hl⟩⟩⟩
      unfold headL
      rw [if_neg (by omega), h]
      simp only [if_neg hl]
      rfl
end Go.Proofs.YtghnffdjdjlomaaGreatDoor

/-! CONTRACT of the scanner's read (layer 3, tokens): the tokens of one card. -/
namespace Go.Proofs.YtghnffdjdjlomaaGreatDoor
open Go.RowKit Go.Shelf

/-- what may turn in a reading: the scanner's block, its row, what is made -/
def ModB (B br : Nat) (w w' : World) : Prop := Mods (fun k => k = br ∨ B ≤ k) w w'
theorem ModB.refl (B br : Nat) (w : World) : ModB B br w w := Mods.refl _ w
theorem ModB.trans {B br : Nat} {a b c : World} (h : ModB B br a b) (k : ModB B br b c) : ModB B br a c := Mods.trans h k
theorem ModB.below {B br : Nat} {a b c : World} (h : ModB B br a b) (k : Below b.heap.size b c) : ModB B br a c := Mods.below h k
theorem ModB.s {B br : Nat} {a b c : World} (h : ModB B br a b) (k : ModS br b c) : ModB B br a c := Mods.trans' h k (fun _ _ e => .inl e)
theorem ModB.alloc {B br : Nat} {a b : World} (h : ModB B br a b) (o : Obj) : ModB B br a (b.alloc o) := Mods.alloc h o
theorem ModB.far {B br : Nat} {a b : World} (h : ModB B br a b) (blk j : Nat) (v : Value) (hb : blk = br ∨ B ≤ blk) : ModB B br a (b.setCell ⟨blk, j, none⟩ v) := Mods.set h blk j v (fun _ => hb)
theorem ModB.drewN {B br : Nat} {a b : World} (h : ModB B br a b) (n : Nat) : ModB B br a (b.drewN n) := Mods.drewN h n
/-- the scanner before a card: whatever card was read last -/
structure Sc0 (B br : Nat) (w : World) (ts : List TokL) (TA : Option Addr) (tc : Nat) : Prop where
  laid0 ::
  blk : ∃ v0 v1 v2 v3 v4, Blk w br #[v0, v1, v2, v3, v4, .slice TA ts.length tc] 101
  own : w.ownsRow B 49 5 (.slice TA ts.length tc) ts.length (tokCells ts)
  low : br < B
  size : B ≤ w.heap.size
theorem Sc0.of {B br : Nat} {w : World} {c : CardL} {A : Option Addr} {cap i m : Nat} {ts : List TokL} {TA : Option Addr} {tc : Nat} (h : ScAt B br w c A cap i m ts TA tc) : Sc0 B br w ts TA tc := ⟨⟨_, _, _, _, _, h.blk⟩, h.own, h.low, h.size⟩
theorem Sc0.below {B br : Nat} {w w' : World} {ts : List TokL} {TA : Option Addr} {tc : Nat} (h : Sc0 B br w ts TA tc) (hb : Below w.heap.size w w') : Sc0 B br w' ts TA tc := by
  obtain ⟨v0, v1, v2, v3, v4, hb1⟩ := h.blk
  exact ⟨⟨v0, v1, v2, v3, v4, blk_kept hb hb1⟩, own_kept h.own (Mods.of_below hb) (fun _ _ e => e), h.low, by have := hb.size; have := h.size; omega⟩
theorem MaxI.lt {w : World} (h : MaxI w) : 0 < w.heap.size := by
  obtain ⟨m, hm⟩ := h
  rcases Nat.lt_or_ge 0 w.heap.size with h | h
  · exact h
  · exfalso
    have : w.heap[0]? = none := Array.getElem?_eq_none h
    simp [World.cell?, this] at hm
theorem MaxI.mods {M : Nat → Prop} {w w' : World} (h : MaxI w) (hm : Mods M w w') (hM : ¬ M 0) : MaxI w' := by
  have hlt := h.lt
  obtain ⟨m, h⟩ := h
  exact ⟨m, (World.cell?_of_block (hm.block _ hlt hM)).trans h⟩
theorem MaxI.modB {B br : Nat} {w w' : World} (h : MaxI w) (hm : ModB B br w w') (hg : 0 < br) (hB : br < B) : MaxI w' := h.mods hm (fun e => by rcases e with e | e <;> omega)
theorem MaxI.modS {br : Nat} {w w' : World} (h : MaxI w) (hm : ModS br w w') (hg : 0 < br) : MaxI w' := h.mods hm (fun e => by omega)
/-- what read leaves -/
def ReadPost (B br : Nat) (w : World) (c : CardL) (ts : List TokL) (e : Ending) (w' : World) : Prop := match cardT c ts with
  | .error f => e = .returned (fault f) ∧ ModB B br w w'
  | .ok ts' => e = .returned (fault (0, 0, 0)) ∧ ts'.length ≤ 65536 ∧ (∃ TA tc, Sc0 B br w' ts' TA tc) ∧ ModB B br w w'

/-- behind the append of a token -/
def AppC (B br : Nat) (W : World) (c : CardL) (A : Option Addr) (cap i m : Nat) (ts' : List TokL) (o : Option Nat) (wx : World) : Prop :=
  ∃ TA' tc', ScAt B br wx c A cap i m ts' TA' tc' ∧ (o = (Value.slice TA' ts'.length tc').ownBlock ∨ (Value.slice TA' ts'.length tc').ownBlock = some (W.heap.size + 1)) ∧ Mods (fun k => k = br ∨ o = some k) W wx
theorem app_core {B br : Nat} {W : World} {c : CardL} {A : Option Addr} {cap i m : Nat} {ts : List TokL} {TA : Option Addr} {tc : Nat} (h : ScAt B br W c A cap i m ts TA tc) (n : Nat) (k : Int) (x : ByteArray) (p q : Int) (d : Bool) (g1 c1 : Nat) (w1 : World)
    (hown : w1.ownsRow B 49 5 (.slice (some ⟨g1, 0, none⟩) (ts.length + 1) c1) (ts.length + 1) (tokCells ts ++ [.int .u8 k, .string x, .int .i64 p, .int .i64 q, .bool d]))
    (hg : ((W.drewN n).alloc (.cells #[.int .u8 k, .string x, .int .i64 p, .int .i64 q, .bool d] 49)).grownBy w1 (Value.slice TA ts.length tc).ownBlock) (hat : (Value.slice TA ts.length tc).ownBlock = some g1 ∨ g1 = W.heap.size + 1) :
    AppC B br W c A cap i m (ts ++ [⟨k, x.data.toList, p, q, d⟩]) (Value.slice TA ts.length tc).ownBlock (w1.setCell ⟨br, 5, none⟩ (.slice (some ⟨g1, 0, none⟩) (ts.length + 1) c1)) := by
  have hlow := h.low
  have hsz := h.size
  have hbg : ∀ j, (Value.slice TA ts.length tc).ownBlock = some j → B ≤ j ∧ j < W.heap.size := fun j hj => h.own.lt j hj
  have hm1 : Mods (fun j => (Value.slice TA ts.length tc).ownBlock = some j) W w1 := (((Mods.refl _ W).drewN n).alloc _).trans' (Mods.of_grown hg) (fun j _ e => e)
  have hm2 : Mods (fun j => j = br ∨ (Value.slice TA ts.length tc).ownBlock = some j) W (w1.setCell ⟨br, 5, none⟩ (.slice (some ⟨g1, 0, none⟩) (ts.length + 1) c1)) := (hm1.weak (fun _ _ e => .inr e)).set br 5 _ (fun _ => .inl rfl)
  have hg1 : g1 ≠ br := by
    rcases hat with e | e
    · have := hbg g1 e; omega
    · omega
  have hbk : Blk w1 br #[.bool c.left, .string (mk c.text), .slice A c.marks.length cap, .int .i64 (i : Int), .int .i64 (m : Int), .slice TA ts.length tc] 101 := h.blk.mods hm1 (fun e => by have := hbg br e; omega)
  have hl : (ts ++ [(⟨k, x.data.toList, p, q, d⟩ : TokL)]).length = ts.length + 1 := by simp
  have htc : tokCells (ts ++ [(⟨k, x.data.toList, p, q, d⟩ : TokL)]) = tokCells ts ++ [.int .u8 k, .string x, .int .i64 p, .int .i64 q, .bool d] := by rw [tokCells_append]; rfl
  refine ⟨some ⟨g1, 0, none⟩, c1, ⟨?_, ?_, ?_, hlow, ?_⟩, ?_, hm2⟩
  · rw [hl]; exact hbk.set 5 _
  · rw [hl, htc]
    exact own_kept hown ((Mods.refl (· = br) w1).set br 5 _ (fun _ => rfl)) (fun j hj e => by
      have : j = g1 := by simpa [Value.ownBlock] using hj.symm
      omega)
  · exact h.marks.mods hm2 (fun j hj e => by
      rcases e with e | e
      · omega
      · have := hbg j e; omega) (by omega) (Nat.le_refl _)
  · have := hm2.size; omega
  · rcases hat with e | e
    · left; rw [e]; rfl
    · right; rw [e]; rfl
theorem tokInfo : (Tryz.prog.info? 49).map (fun i => (i.zero, i.size, i.bytes)) = some (some (.agg #[.int .u8 0, .string ⟨#[]⟩, .int .i64 0, .int .i64 0, .bool false]), 5, 48) := by kernel_rfl
theorem beq_c (a b : Nat) : ((a : Int) == (b : Int)) = (a == b) := by
  by_cases h : a = b
  · subst h; simp
  · rw [beq_n h]; exact (by simpa using h : (a == b) = false).symm
theorem readPost_err {B br : Nat} {w w' : World} {c : CardL} {ts : List TokL} {f : Int × Int × Int} (h : cardT c ts = .error f) (hm : ModB B br w w') : ReadPost B br w c ts (.returned (fault f)) w' := by
  unfold ReadPost; rw [h]; exact ⟨rfl, hm⟩
theorem readPost_ok {B br : Nat} {w w' : World} {c : CardL} {ts ts' : List TokL} {TA : Option Addr} {tc : Nat} (h : cardT c ts = .ok ts') (hl : ts'.length ≤ 65536) (hs : Sc0 B br w' ts' TA tc) (hm : ModB B br w w') : ReadPost B br w c ts (.returned (fault (0, 0, 0))) w' := by
  unfold ReadPost; rw [h]; exact ⟨rfl, hl, ⟨TA, tc, hs⟩, hm⟩
/-- the state at the head of a round -/
structure RdX (B br rp : Nat) (w wr : World) (c : CardL) (A : Option Addr) (cap : Nat) (RT : Except (Int × Int × Int) (List TokL)) (i m : Nat) (ts : List TokL) (TA : Option Addr) (tc fuel : Nat) : Prop where
  laidX ::
  le : i ≤ c.text.length
  sc : ScAt B br wr c A cap i m ts TA tc
  mk : ∃ h : m < c.marks.length, c.marks[m].1 ≤ (i : Int)
  few : ts.length ≤ 65536
  far : ∀ k, (Value.slice TA ts.length tc).ownBlock = some k → k ≠ rp
  res : Blk wr rp #[.int .i64 0, .int .i64 0, .int .i64 0] 28
  maxi : MaxI wr
  mod : ModB B br w wr
  rt : RT = headL c fuel ts i
  fu : c.text.length < i + fuel + 1
  sp : i < c.text.length → c.text.getD i 0 ≠ 32
theorem RdX.shut {B br rp : Nat} {w wr : World} {c : CardL} {A : Option Addr} {cap : Nat} {RT : Except (Int × Int × Int) (List TokL)} {i m : Nat} {ts : List TokL} {TA : Option Addr} {tc fuel : Nat} (h : RdX B br rp w wr c A cap RT i m ts TA tc fuel) (hrp : B ≤ rp) (n : Nat) (x y z : Value) :
    Sc0 B br ((((wr.drewN n).setCell ⟨rp, 0, none⟩ x).setCell ⟨rp, 1, none⟩ y).setCell ⟨rp, 2, none⟩ z) ts TA tc ∧ ModB B br w ((((wr.drewN n).setCell ⟨rp, 0, none⟩ x).setCell ⟨rp, 1, none⟩ y).setCell ⟨rp, 2, none⟩ z) := by
  have hl := h.sc.low
  refine ⟨.of (h.sc.mods (((((Mods.refl (· = rp) wr).drewN n).set _ 0 _ (fun _ => rfl)).set _ 1 _ (fun _ => rfl)).set _ 2 _ (fun _ => rfl)) (fun j hj e => by omega) (fun k hk e => h.far k hk e)), ?_⟩
  exact (((h.mod.drewN n).far rp 0 _ (.inr hrp)).far rp 1 _ (.inr hrp)).far rp 2 _ (.inr hrp)
def RdI (B br rp : Nat) (w : World) (c : CardL) (A : Option Addr) (cap : Nat) (RT : Except (Int × Int × Int) (List TokL)) (k : Nat) (wr : World) : Prop :=
  ∃ i m ts TA tc fuel, k = c.text.length - i ∧ RdX B br rp w wr c A cap RT i m ts TA tc fuel
theorem valid_first {c : CardL} (h : validL c = true) : ∃ h : 0 < c.marks.length, c.marks[0].1 ≤ ((0 : Nat) : Int) := by
  unfold validL at h
  simp only [Bool.and_eq_true, Bool.not_eq_true', decide_eq_true_eq] at h
  obtain ⟨-, h1, h2, -⟩ := h
  cases hm : c.marks with
  | nil => rw [hm] at h1; simp at h1
  | cons m r =>
    rw [hm] at h2
    refine ⟨by simp, ?_⟩
    simpa using Int.le_of_eq h2

set_option maxHeartbeats 4000000 in
set_option maxRecDepth 100000 in
theorem read_c {B br : Nat} {w : World} {ts0 : List TokL} {TA0 : Option Addr} {tc0 : Nat} (h : Sc0 B br w ts0 TA0 tc0) (left : Bool) (t : List UInt8) (ms : List MarkL) (A : Option Addr) (cap : Nat) (hma : MarksAt w br A ms) (ht : t.length ≤ 2000000) (hl : ms.length ≤ 2000000)
    (ht0 : ts0.length ≤ 65536) (hm : MaxI w) (hg : 0 < br) :
    Calls Tryz.prog 44 #[.pointer (some ⟨br, 0, none⟩), .agg #[.bool left, .string (mk t), .slice A ms.length cap]] w (ReadPost B br w ⟨left, t, ms⟩ ts0) := by
  obtain ⟨c, hc⟩ : ∃ c : CardL, c = ⟨left, t, ms⟩ := ⟨_, rfl⟩
  obtain ⟨RT, hRT⟩ : ∃ RT, RT = cardT c ts0 := ⟨_, rfl⟩
  obtain ⟨S, hS⟩ : ∃ S, S = mk t := ⟨_, rfl⟩
  obtain ⟨v0, v1, v2, v3, v4, hbk⟩ := h.blk
  have hHP : Hid (ReadPost B br w ⟨left, t, ms⟩ ts0 = ReadPost B br w c ts0) := by rw [hc]; rfl
  rw [hHP.out, ← hS]
  have hlow := h.low
  have hsz := h.size
  have hbrw : br < w.heap.size := by omega
  have hTk : Hid (∀ k, (Value.slice TA0 ts0.length tc0).ownBlock = some k → B ≤ k ∧ k < w.heap.size) := fun k hk => h.own.lt k hk
  obtain ⟨W1, hW1⟩ : ∃ W1, W1 = (w.alloc (.cells #[.bool left, .string S, .slice A ms.length cap] 34)).alloc (.cells #[.int .i64 0, .int .i64 0, .int .i64 0] 28) := ⟨_, rfl⟩
  have hbw1 : Below w.heap.size w W1 := by rw [hW1]; exact below2 w _ _
  have hW1s : W1.heap.size = w.heap.size + 2 := by rw [hW1]; simp
  have hb1 : Blk W1 br #[v0, v1, v2, v3, v4, .slice TA0 ts0.length tc0] 101 := blk_kept hbw1 hbk
  have hq1 : Blk W1 w.heap.size #[.bool left, .string S, .slice A ms.length cap] 34 := by rw [hW1]; exact (blk_new w _ _).alloc _
  have hfr : Blk W1 (w.heap.size + 1) #[.int .i64 0, .int .i64 0, .int .i64 0] 28 := by
    rw [hW1]
    have := blk_new (w.alloc (.cells #[.bool left, .string S, .slice A ms.length cap] 34)) #[.int .i64 0, .int .i64 0, .int .i64 0] 28
    rw [World.size_alloc] at this
    exact this
  have e0 : W1.cell? ⟨br, 0, none⟩ = some v0 := hb1.cell 0
  have e1 : W1.cell? ⟨br, 1, none⟩ = some v1 := hb1.cell 1
  have e2 : W1.cell? ⟨br, 2, none⟩ = some v2 := hb1.cell 2
  have e3 : W1.cell? ⟨br, 3, none⟩ = some v3 := hb1.cell 3
  have e4 : W1.cell? ⟨br, 4, none⟩ = some v4 := hb1.cell 4
  have f0 := hb1.free 0
  have f1 := hb1.free 1
  have f2 := hb1.free 2
  have f3 := hb1.free 3
  have f4 := hb1.free 4
  have q0 : W1.cell? ⟨w.heap.size, 0, none⟩ = some (.bool left) := hq1.cell 0
  have q1 : W1.cell? ⟨w.heap.size, 1, none⟩ = some (.string S) := hq1.cell 1
  have q2 : W1.cell? ⟨w.heap.size, 2, none⟩ = some (.slice A ms.length cap) := hq1.cell 2
  have hms0 : Mods (· = br) W1 (((((W1.setCell ⟨br, 0, none⟩ (.bool left)).setCell ⟨br, 1, none⟩ (.string S)).setCell ⟨br, 2, none⟩ (.slice A ms.length cap)).setCell ⟨br, 3, none⟩ (.int .i64 0)).setCell ⟨br, 4, none⟩ (.int .i64 0)) :=
    (((((Mods.refl (· = br) W1).set br 0 _ (fun _ => rfl)).set br 1 _ (fun _ => rfl)).set br 2 _ (fun _ => rfl)).set br 3 _ (fun _ => rfl)).set br 4 _ (fun _ => rfl)
  obtain ⟨W2, hW2⟩ : ∃ W2, W2 = ((((W1.setCell ⟨br, 0, none⟩ (.bool left)).setCell ⟨br, 1, none⟩ (.string S)).setCell ⟨br, 2, none⟩ (.slice A ms.length cap)).setCell ⟨br, 3, none⟩ (.int .i64 0)).setCell ⟨br, 4, none⟩ (.int .i64 0) := ⟨_, rfl⟩
  rw [← hW2] at hms0
  have hms : Mods (· = br) w W2 := Mods.trans ((Mods.of_below hbw1).weak (fun _ _ e => e.elim)) hms0
  have HFR0 := hide (hfr.mods hms0 (by omega))
  have hsc : ScAt B br W2 c A cap 0 0 ts0 TA0 tc0 := by
    have hm0 : Mods (· = br) w W2 := hms
    refine ⟨?_, own_kept h.own hm0 (fun k hk e => by have := hTk.out k hk; omega), ?_, hlow, Nat.le_trans hsz hm0.size⟩
    · rw [hc, hW2]
      have := ((((hb1.set 0 (.bool left)).set 1 (.string S)).set 2 (.slice A ms.length cap)).set 3 (.int .i64 0)).set 4 (.int .i64 0)
      rw [hS] at this ⊢
      exact this
    · rw [hc]
      exact hma.mods hm0 (fun j hj e => by omega) (by omega) (Nat.le_refl _)
  have HMS : Hid (ModB B br w W2) := Mods.weak hms (fun _ _ e => .inl e)
  have HSC := hide hsc
  have HMI := hide (hm.mods hms (by omega))
  have HAT : Hid (∀ w1, MarksAt w1 br A ms → br ≤ w1.heap.size → Calls Tryz.prog 23 #[.agg #[.bool left, .string S, .slice A ms.length cap], .int .i64 0] w1 fun e w' => AtRes c 0 e ∧ Below w1.heap.size w1 w') := fun w1 h1 h2 => by
    rw [hS, hc]; exact At_c left t ms A cap br 0 w1 h1 h2 ht hl
  have htc : c.text = t := by rw [hc]
  have hmc : c.marks = ms := by rw [hc]
  have HTC := hide htc
  have HMC := hide hmc
  have hma2 := HSC.out.marks
  rw [hmc] at hma2
  have HMA := hide hma2
  clear hma2
  have HRT := hide hRT
  have HW2 := hide hW2
  have HSm := hide hS
  have HSz : Hid (S.size = t.length) := by unfold Hid; rw [hS]; exact mk_size _
  have HC0 : Hid (W2.cell? ⟨br, 0, none⟩ = some (.bool left)) := by unfold Hid; rw [hsc.blk.cell 0, hc]; rfl
  have HC1 : Hid (W2.cell? ⟨br, 1, none⟩ = some (.string S)) := by unfold Hid; rw [hsc.blk.cell 1, hc, hS]; rfl
  have HC2 : Hid (W2.cell? ⟨br, 2, none⟩ = some (.slice A ms.length cap)) := by unfold Hid; rw [hsc.blk.cell 2, hc]; rfl
  clear hms hms0 hfr hsc hb1 hq1 hbk h hma hm hS htc hmc hHP hc hRT hbw1 hW2
  go_enter Tryz.func44, Tryz.ntmps44
  go_upto_region 1 with fail
  rw [← hW1]
  clear hW1
  go_upto_region 2 with fail
  rw [← HW2.out]
  clear HW2 e0 e1 e2 e3 e4 f0 f1 f2 f3 f4 q0 q1 q2
  have c0 : W2.cell? ⟨br, 0, none⟩ = some (.bool left) := HC0.out
  have c1 : W2.cell? ⟨br, 1, none⟩ = some (.string S) := HC1.out
  have c2 : W2.cell? ⟨br, 2, none⟩ = some (.slice A ms.length cap) := HC2.out
  have hbr2 : br < W2.heap.size := HSC.out.blk.lt
  have HA := hide (HAT.out W2 HMA.out (Nat.le_of_lt hbr2))
  by_cases hok : atOk c 0 = true
  · have HRe : Hid (RT = goL c (c.text.length + 1) ts0 0) := by unfold Hid; rw [HRT.out]; unfold cardT; rw [if_pos hok]
    have hval : validL c = true := by
      unfold atOk at hok
      simp only [Bool.and_eq_true] at hok
      exact hok.1
    have hE : atE c 0 = 0 := atE_yes hok
    obtain ⟨P1, P2, hP⟩ : ∃ P1 P2, atP c 0 = (P1, P2) := ⟨_, _, rfl⟩
    have HA2 : Hid (Calls Tryz.prog 23 #[.agg #[.bool left, .string S, .slice A ms.length cap], .int .i64 0] W2 fun e w' => e = .returned (.tuple #[.agg #[.int .i64 P1, .int .i64 P2], .int .i64 0]) ∧ Below W2.heap.size W2 w') :=
      HA.out.mono fun e w' ⟨h1, h2⟩ => ⟨by rw [h1.eq, hP, hE], h2⟩
    have HVAL := hide hval
    clear hok HA HAT hE hP hval
    go_wp2_with fail
    refine HA2.out.mono ?_
    rintro e w3 ⟨rfl, hb3⟩
    have HSC3 := hide ((HSC.out.below hb3).alloc (.cells #[.int .i64 P1, .int .i64 P2] 26))
    have HMS3 := hide ((HMS.out.below hb3).alloc (.cells #[.int .i64 P1, .int .i64 P2] 26))
    have HMI3 := hide ((HMI.out.below hb3).mods ((Mods.refl (fun _ => False) w3).alloc (.cells #[.int .i64 P1, .int .i64 P2] 26)) (fun e => e))
    have HFR3 := hide ((blk_kept hb3 HFR0.out).alloc (.cells #[.int .i64 P1, .int .i64 P2] 26))
    clear hb3 c0 c1 c2 HSC HMS HMI HFR0 HMA HA2
    go_wp2_with fail
    refine (skip_c HSC3.out (by rw [HTC.out]; exact ht) (by omega) (Nat.zero_le _)).mono ?_
    rintro e w4 ⟨rfl, hs4, hm4⟩
    have HI : Hid (RdI B br (w.heap.size + 1) w c A cap RT (c.text.length - (0 + skipN ts0 (c.text.drop 0))) w4) := by
      obtain ⟨hm0, hm1⟩ := valid_first HVAL.out
      have hsk := skipN_le ts0 (c.text.drop 0)
      rw [List.length_drop] at hsk
      refine ⟨_, 0, ts0, TA0, tc0, c.text.length, rfl, ⟨by omega, hs4, ⟨hm0, by omega⟩, by omega, fun k hk => by have := hTk.out k hk; omega, HFR3.out.mods hm4 (by omega), HMI3.out.modS hm4 hg, HMS3.out.s hm4, ?_, by omega, fun h => skipN_stop' ts0 c.text 0 h⟩⟩
      rw [HRe.out]; exact goL_head c _ ts0 0
    clear hs4 hm4 HSC3 HMS3 HMI3 HFR3 HRe
    obtain ⟨g0, hg0⟩ : ∃ g0, g0 = c.text.length - (0 + skipN ts0 (c.text.drop 0)) := ⟨_, rfl⟩
    rw [← hg0] at HI
    clear hg0
    go_wp2_with fail
    go_loopg [] g0 (fun k wr => RdI B br (w.heap.size + 1) w c A cap RT k wr)
    case atStart => exact HI.out
    case round =>
      obtain ⟨i, m, ts, TA, tc, fuel, rfl, hX⟩ := hrel
      have HX := hide hX
      have k1 : wr.cell? ⟨br, 1, none⟩ = some (.string (mk c.text)) := hX.sc.blk.cell 1
      rw [HTC.out, ← HSm.out] at k1
      have k3 : wr.cell? ⟨br, 3, none⟩ = some (.int .i64 (i : Int)) := hX.sc.blk.cell 3
      have hbr := hX.sc.blk.lt
      clear hX HI
      by_cases hlt : i < S.size
      · have hd : decide ((i : Int) < (S.size : Int)) = true := decide_eq_true (by omega)
        go_wp2_with fail
        go_quiet (fail)
        go_wp2_with fail
        have hit : i < c.text.length := by rw [HTC.out, ← HSz.out]; exact hlt
        obtain ⟨K, X, N, E0, E, hN⟩ := nextR c ts i hit
        have HSCq := hide (HX.out.sc.drewN nq)
        have HNX : Hid (Calls Tryz.prog 84 #[.pointer (some ⟨br, 0, none⟩)] (wr.drewN nq) fun e w' => e = .returned (tokR K X (N : Nat) E0) ∧ Below (wr.drewN nq).heap.size (wr.drewN nq) w') := by
          rw [← hN.res]
          exact next_c HSCq.out (by rw [HTC.out]; exact ht) (by have := HX.out.few; omega) hit (HX.out.sp hit) (HX.out.maxi.mods ((Mods.refl (fun _ => False) wr).drewN nq) (fun e => e))
        have HN := hide hN
        clear hN
        refine HNX.out.mono ?_
        rintro e w5 ⟨rfl, hb5⟩
        have hb5' : Below wr.heap.size wr w5 := (below_drewN (Below.refl wr.heap.size wr) nq).trans hb5
        obtain ⟨nb, hnb⟩ : ∃ nb, nb = w5.heap.size := ⟨_, rfl⟩
        obtain ⟨W6, hW6⟩ : ∃ W6, W6 = w5.alloc (.cells #[.int .u8 K, .string X, .int .i64 0, .int .i64 0, .bool false] 49) := ⟨_, rfl⟩
        have hb6 : Below wr.heap.size wr W6 := by rw [hW6]; exact hb5'.alloc hb5'.size _
        have HNB : Hid (Blk W6 nb #[.int .u8 K, .string X, .int .i64 0, .int .i64 0, .bool false] 49) := by rw [hW6, hnb]; exact blk_new w5 _ _
        have hnbr : wr.heap.size ≤ nb := by rw [hnb]; exact hb5'.size
        have HX6 := hide (HX.out.sc.below hb6)
        have k5 : W6.cell? ⟨br, 5, none⟩ = some (.slice TA ts.length tc) := HX6.out.blk.cell 5
        have hbr6 := HX6.out.blk.lt
        have HB6 := hide hb6
        have hfew : ts.length ≤ 65536 := HX.out.few
        clear hb5 hb5' hb6 HNX HSCq k1 k3 hd
        obtain ⟨t62, ht62⟩ : ∃ t62, t62 = ((E0 == 0) && (ts.length == 65536)) := ⟨_, rfl⟩
        go_upto_region 9 with fail
        rw [← hnb, ← hW6]
        clear hW6 hnb
        go_cut [62] (fun s62 wx => s62 = .bool t62 ∧ W6 = wx)
        case first =>
          cases hE0 : (E0 == 0)
          · have HT : Hid (t62 = false) := by unfold Hid; rw [ht62, hE0]; rfl
            clear ht62
            go_wp2_with fail
            go_meet
            exact ⟨by rw [HT.out], rfl⟩
          · have HT : Hid (t62 = (ts.length == 65536)) := by unfold Hid; rw [ht62, hE0]; rfl
            clear ht62
            go_wp2_with fail
            go_meet
            exact ⟨by rw [HT.out]; exact congrArg Value.bool (beq_c ts.length 65536), rfl⟩
        case rest =>
          obtain ⟨rfl, rfl⟩ := hcut
          have HE : Hid (E = if t62 then 3 else E0) := by
            unfold Hid
            rw [ht62]
            cases hE0 : (E0 == 0)
            · rw [HN.out.err2 hE0]; rfl
            · rw [HN.out.err hE0]
              by_cases hl : ts.length = 65536
              · simp [hl]
              · simp [hl]
                simpa using (by simpa using hE0 : E0 = 0).symm
          clear ht62
          go_upto_if 62 with fail
          go_cut [9] (fun s9 wx => s9 = .int .i64 E ∧ W6 = wx)
          case first =>
            cases t62
            · have HE2 : Hid (E = E0) := HE.out
              go_wp2_with fail
              go_meet
              exact ⟨by rw [HE2.out], rfl⟩
            · have HE2 : Hid (E = 3) := HE.out
              go_wp2_with fail
              go_meet
              exact ⟨by rw [HE2.out], rfl⟩
          case rest =>
            obtain ⟨rfl, rfl⟩ := hcut
            clear HE k5
            obtain ⟨P1, P2, hP⟩ : ∃ P1 P2, posL c i = (P1, P2) := ⟨_, _, rfl⟩
            have HPO := hide (position_c HX6.out (by rw [HTC.out]; exact ht) HX.out.le (by rw [HMC.out]; exact hl) HVAL.out HX.out.mk.1 HX.out.mk.2)
            rw [hP] at HPO
            have HP := hide hP
            clear hP
            go_wp2_with fail
            refine HPO.out.mono ?_
            rintro e w7 ⟨rfl, ⟨m7, hs7, hm7⟩, hmod7⟩
            have HNB7 := hide (ModS.blk HNB.out hmod7 (by omega))
            have HS7 := hide hs7
            have HM7 := hide hm7
            have HMD7 := hide hmod7
            have n2 : w7.cell? ⟨nb, 2, none⟩ = some (.int .i64 0) := HNB7.out.cell 2
            have n3 : w7.cell? ⟨nb, 3, none⟩ = some (.int .i64 0) := HNB7.out.cell 3
            have m2 := HNB7.out.free 2
            have m3 := HNB7.out.free 3
            have hnl := HNB7.out.lt
            clear hs7 hm7 hmod7 HPO
            obtain ⟨W8, hW8⟩ : ∃ W8, W8 = (w7.setCell ⟨nb, 2, none⟩ (.int .i64 P1)).setCell ⟨nb, 3, none⟩ (.int .i64 P2) := ⟨_, rfl⟩
            have HNB8 : Hid (Blk W8 nb #[.int .u8 K, .string X, .int .i64 P1, .int .i64 P2, .bool false] 49) := by rw [hW8]; exact (HNB7.out.set 2 _).set 3 _
            have hm78 : Mods (· = nb) w7 W8 := by rw [hW8]; exact ((Mods.refl (· = nb) w7).set nb 2 _ (fun _ => rfl)).set nb 3 _ (fun _ => rfl)
            have hTn : ∀ k, (Value.slice TA ts.length tc).ownBlock = some k → k < nb := fun k hk => by have := (HX.out.sc.own.lt k hk).2; omega
            have HS8 : Hid (ScAt B br W8 c A cap i m7 ts TA tc) := HS7.out.mods hm78 (fun j hj e => by omega) (fun k hk e => by have := hTn k hk; omega)
            have HMD8 : Hid (ModB B br w W8) := ((HX.out.mod.below HB6.out).s HMD7.out).trans (hm78.weak (fun _ _ e => .inr (by have := HX.out.sc.size; omega)))
            have hresb : w.heap.size + 1 < wr.heap.size := HX.out.res.lt
            have HRS8 : Hid (Blk W8 (w.heap.size + 1) #[.int .i64 0, .int .i64 0, .int .i64 0] 28) := ((blk_kept HB6.out HX.out.res).mods HMD7.out (by omega)).mods hm78 (by omega)
            have HMI8 : Hid (MaxI W8) := ((HX.out.maxi.below HB6.out).modS HMD7.out hg).mods hm78 (by omega)
            have HTN := hide hTn
            clear hTn hm78 HNB7 HS7 HMD7 HB6 HX6 HNB
            go_upto_region 12 with fail
            rw [← hW8]
            clear hW8 n2 n3 m2 m3 hnl
            have n0 : W8.cell? ⟨nb, 0, none⟩ = some (.int .u8 K) := HNB8.out.cell 0
            have n1 : W8.cell? ⟨nb, 1, none⟩ = some (.string X) := HNB8.out.cell 1
            have n2 : W8.cell? ⟨nb, 2, none⟩ = some (.int .i64 P1) := HNB8.out.cell 2
            have n3 : W8.cell? ⟨nb, 3, none⟩ = some (.int .i64 P2) := HNB8.out.cell 3
            have n4 : W8.cell? ⟨nb, 4, none⟩ = some (.bool false) := HNB8.out.cell 4
            have m4 := HNB8.out.free 4
            have hnl := HNB8.out.lt
            by_cases hE : E = 0
            · have hb : (E != 0) = false := by rw [hE]; rfl
              have hgood := HN.out.good fuel hE
              have HG := hide hgood
              obtain ⟨D, hD⟩ : ∃ D, D = decide (P2 < 12) := ⟨_, rfl⟩
              have HD := hide hD
              clear hE hgood hD
              obtain ⟨W9, hW9⟩ : ∃ W9, W9 = W8.setCell ⟨nb, 4, none⟩ (.bool (decide (P2 < 12))) := ⟨_, rfl⟩
              have hm89 : Mods (· = nb) W8 W9 := by rw [hW9]; exact (Mods.refl (· = nb) W8).set nb 4 _ (fun _ => rfl)
              have HNB9 : Hid (Blk W9 nb #[.int .u8 K, .string X, .int .i64 P1, .int .i64 P2, .bool D] 49) := by rw [hW9, HD.out]; exact HNB8.out.set 4 _
              have HS9 : Hid (ScAt B br W9 c A cap i m7 ts TA tc) := HS8.out.mods hm89 (fun j hj e => by omega) (fun k hk e => by have := HTN.out k hk; omega)
              have HMD9 : Hid (ModB B br w W9) := HMD8.out.trans (hm89.weak (fun _ _ e => .inr (by have := HX.out.sc.size; omega)))
              have HRS9 : Hid (Blk W9 (w.heap.size + 1) #[.int .i64 0, .int .i64 0, .int .i64 0] 28) := HRS8.out.mods hm89 (by omega)
              have HMI9 : Hid (MaxI W9) := HMI8.out.mods hm89 (by omega)
              go_upto_region 15 with fail
              rw [← hW9]
              clear hW9 hm89 n0 n1 n2 n3 n4 m4 hnl
              have n0 : W9.cell? ⟨nb, 0, none⟩ = some (.int .u8 K) := HNB9.out.cell 0
              have n1 : W9.cell? ⟨nb, 1, none⟩ = some (.string X) := HNB9.out.cell 1
              have n2 : W9.cell? ⟨nb, 2, none⟩ = some (.int .i64 P1) := HNB9.out.cell 2
              have n3 : W9.cell? ⟨nb, 3, none⟩ = some (.int .i64 P2) := HNB9.out.cell 3
              have n4 : W9.cell? ⟨nb, 4, none⟩ = some (.bool D) := HNB9.out.cell 4
              have hnl := HNB9.out.lt
              have k5 : W9.cell? ⟨br, 5, none⟩ = some (.slice TA ts.length tc) := HS9.out.blk.cell 5
              have hbr9 := HS9.out.blk.lt
              go_cut [] (fun wx => AppC B br W9 c A cap i m7 (ts ++ [⟨K, X.data.toList, P1, P2, D⟩]) (Value.slice TA ts.length tc).ownBlock wx)
              case first =>
                obtain ⟨i0, hi, hz0, hz1, hz2⟩ := info_parts tokInfo
                have hbgw : ∀ j, (Value.slice TA ts.length tc).ownBlock = some j → B ≤ j := fun j hj => (HS9.out.own.lt j hj).1
                have hall : Hid (∀ (W' : World), W'.heap = (W9.alloc (.cells #[.int .u8 K, .string X, .int .i64 P1, .int .i64 P2, .bool D] 49)).heap → W'.ownsRow B 49 5 (.slice TA ts.length tc) ts.length (tokCells ts) ∧ B ≤ W'.heap.size ∧ W'.heap.size = W9.heap.size + 1 ∧ (∀ w1 : World, W'.grownBy w1 (Value.slice TA ts.length tc).ownBlock → w1.cell? ⟨br, 5, none⟩ = some (.slice TA ts.length tc) ∧ w1.frozen? ⟨br, 5, none⟩ = false)) := fun W' he => by
                  have e : W'.heap[br]? = W9.heap[br]? := by rw [he]; exact heap_alloc_old W9 _ hbr9
                  have e3 : W'.heap.size = W9.heap.size + 1 := by rw [he]; simp
                  refine ⟨⟨HS9.out.own.1, by rw [he]; exact (HS9.out.own.alloc (.cells #[.int .u8 K, .string X, .int .i64 P1, .int .i64 P2, .bool D] 49)).2⟩, by have := HS9.out.size; omega, e3, fun w1 hg => ?_⟩
                  have hne : (Value.slice TA ts.length tc).ownBlock ≠ some br := fun e => by have := hbgw br e; omega
                  exact ⟨(hg.cell_far ⟨br, 5, none⟩ (by show br < _; omega) (fun e => hne e.symm)).trans ((World.cell?_of_block (a := ⟨br, 5, none⟩) e).trans k5), (hg.frozen_far ⟨br, 5, none⟩ (by show br < _; omega) (fun e => hne e.symm)).trans ((World.frozen?_of_block (a := ⟨br, 5, none⟩) e).trans (HS9.out.blk.free 5))⟩
                have hnum : Hid ((ts.length + 1 ≤ maxLen) ∧ (ts.length + 1) * 48 ≤ 140737488355328) := ⟨by unfold maxLen; omega, by omega⟩
                have hne1 : Hid (∀ u ∈ [Value.int .u8 K, .string X, .int .i64 P1, .int .i64 P2, .bool D], u.oneCell' = true) := by simp [Hid, Value.oneCell']
                have hnew : Hid (∀ (W' : World), W'.heap = (W9.alloc (.cells #[.int .u8 K, .string X, .int .i64 P1, .int .i64 P2, .bool D] 49)).heap → ∀ j u, (#[Value.int .u8 K, .string X, .int .i64 P1, .int .i64 P2, .bool D] : Array Value).toList[j]? = some u → W'.cell? ((⟨W9.heap.size, 0, none⟩ : Addr).add j) = some u) := fun W' he => World.news_of_block (w := W') (B := W9.heap.size) (cs := #[.int .u8 K, .string X, .int .i64 P1, .int .i64 P2, .bool D]) (t := 49) (fr := (0, 0)) (by rw [he]; exact heap_alloc_new W9 _)
                have hfin : Hid (∀ (g1 c1 : Nat) (w1 : World), w1.ownsRow B 49 5 (.slice (some ⟨g1, 0, none⟩) (ts.length + 1) c1) (ts.length + 1) (tokCells ts ++ [.int .u8 K, .string X, .int .i64 P1, .int .i64 P2, .bool D]) → ((W9.drewN 1).alloc (.cells #[.int .u8 K, .string X, .int .i64 P1, .int .i64 P2, .bool D] 49)).grownBy w1 (Value.slice TA ts.length tc).ownBlock → ((Value.slice TA ts.length tc).ownBlock = some g1 ∨ g1 = W9.heap.size + 1) → AppC B br W9 c A cap i m7 (ts ++ [⟨K, X.data.toList, P1, P2, D⟩]) (Value.slice TA ts.length tc).ownBlock (w1.setCell ⟨br, 5, none⟩ (.slice (some ⟨g1, 0, none⟩) (ts.length + 1) c1))) := fun g1 c1 w1 h1 h2 h3 => app_core HS9.out 1 K X P1 P2 D g1 c1 w1 h1 h2 h3
                clear HX HNB9 HMD9 HRS9 HMI9 HNB8 HS8 HMD8 HRS8 HMI8 HTN HG HD HN HP HM7 HS9 HVAL HMC HTC HSm HSz hTk HRT hb hnbr hresb hlt hit hbgw
                go_region_law (refine step_append_lies _ (by rfl) _ _ _ (by rfl) B 49 i0 _ 5 48 Tryz.underlying36 hi hz0 hz1 hz2 rfl (by decide) (.slice TA ts.length tc) ts.length (tokCells ts) (by rfl) (hall.out ((W9.drewN 1).alloc (.cells #[.int .u8 K, .string X, .int .i64 P1, .int .i64 P2, .bool D] 49)) rfl).1 ⟨W9.heap.size, 0, none⟩ 1 1 [.int .u8 K, .string X, .int .i64 P1, .int .i64 P2, .bool D] (by rfl) (by rfl) (hnew.out ((W9.drewN 1).alloc (.cells #[.int .u8 K, .string X, .int .i64 P1, .int .i64 P2, .bool D] 49)) rfl) hne1.out (by decide) hnum.out.1 hnum.out.2 (hall.out ((W9.drewN 1).alloc (.cells #[.int .u8 K, .string X, .int .i64 P1, .int .i64 P2, .bool D] 49)) rfl).2.1 (W9.heap.size + 1) (hall.out ((W9.drewN 1).alloc (.cells #[.int .u8 K, .string X, .int .i64 P1, .int .i64 P2, .bool D] 49)) rfl).2.2.1 ?_; intro g1 c1 w1 hown1 hgrow hat hlt1; obtain ⟨z1, z2⟩ := (hall.out ((W9.drewN 1).alloc (.cells #[.int .u8 K, .string X, .int .i64 P1, .int .i64 P2, .bool D] 49)) rfl).2.2.2 w1 hgrow)
                all_goals
                  go_wp2_with fail
                  go_meet
                  exact hfin.out _ _ _ hown1 hgrow hat
              case rest =>
                obtain ⟨TA', tc', hs10, hown10, hm10⟩ := hcut
                have hbr10 := hs10.blk.lt
                have k3 : wc.cell? ⟨br, 3, none⟩ = some (.int .i64 (i : Int)) := hs10.blk.cell 3
                have f3 := hs10.blk.free 3
                have HS10 := hide hs10
                have HO10 := hide hown10
                have HM10 := hide hm10
                obtain ⟨hG1, hG2, hG3, hG4⟩ := HG.out
                have HG1 := hide hG1
                have hiN : i + N ≤ 2000000 := by rw [HTC.out] at hG3; omega
                clear hs10 hown10 hm10 hG1 n0 n1 n2 n3 n4 k5
                go_wp2_with fail
                have hfew' : ts.length + 1 ≤ 65536 := by omega
                have hs11 := HS10.out.seti (i + N)
                rw [Int.natCast_add] at hs11
                refine (skip_c hs11 (by rw [HTC.out]; exact ht) (by simp; omega) (by omega)).mono ?_
                rintro e w12 ⟨rfl, hs12, hm12⟩
                have hm11 : ModS br wc w12 := ((ModS.refl br wc).set 3 _).trans hm12
                clear hs11
                have hsk := skipN_le (ts ++ [⟨K, X.data.toList, P1, P2, D⟩]) (c.text.drop (i + N))
                rw [List.length_drop] at hsk
                have hfar : ∀ k, (Value.slice TA' (ts ++ [(⟨K, X.data.toList, P1, P2, D⟩ : TokL)]).length tc').ownBlock = some k → k ≠ w.heap.size + 1 := fun k hk => by
                  rcases HO10.out with e | e
                  · exact HX.out.far k (e.trans hk)
                  · rw [e] at hk; injection hk with hk; have := HRS9.out.lt; omega
                have hB10 : ModB B br w wc := HMD9.out.trans (HM10.out.weak (fun j _ e => by
                  rcases e with e | e
                  · exact .inl e
                  · exact .inr (HS9.out.own.lt j e).1))
                have hres10 := (HRS9.out.mods HM10.out (fun e => by
                  rcases e with e | e
                  · omega
                  · exact HX.out.far _ e rfl)).mods hm11 (by omega)
                have hmi10 := (HMI9.out.mods HM10.out (fun e => by
                  rcases e with e | e
                  · omega
                  · have := (HS9.out.own.lt _ e).1; omega)).modS hm11 hg
                have hfu := HX.out.fu
                obtain ⟨f', rfl⟩ : ∃ f', fuel = f' + 1 := ⟨fuel - 1, by omega⟩
                have hend : RdX B br (w.heap.size + 1) w w12 c A cap RT (i + N + skipN (ts ++ [⟨K, X.data.toList, P1, P2, D⟩]) (c.text.drop (i + N))) m7 (ts ++ [⟨K, X.data.toList, P1, P2, D⟩]) TA' tc' f' := by
                  obtain ⟨hm7a, hm7b⟩ := HM7.out
                  refine ⟨by omega, hs12, ⟨hm7a, by omega⟩, by simp; omega, hfar, hres10, hmi10, hB10.s hm11, ?_, by omega, fun h => skipN_stop' _ c.text (i + N) h⟩
                  rw [HX.out.rt, HG1.out, HP.out, HD.out]; exact goL_head c f' _ (i + N)
                go_wp2_with fail
                go_roundg (c.text.length - (i + N + skipN (ts ++ [⟨K, X.data.toList, P1, P2, D⟩]) (c.text.drop (i + N))))
                case measure => omega
                case rel => exact ⟨_, m7, _, TA', tc', f', rfl, hend⟩
            · have hb : (E != 0) = true := by simpa using hE
              have hR : Hid (cardT c ts0 = .error (E, P1, P2)) := by
                unfold Hid; rw [← HRT.out, HX.out.rt, HN.out.bad fuel hE, HP.out]
              have r0 : W8.cell? ⟨w.heap.size + 1, 0, none⟩ = some (.int .i64 0) := HRS8.out.cell 0
              have r1 : W8.cell? ⟨w.heap.size + 1, 1, none⟩ = some (.int .i64 0) := HRS8.out.cell 1
              have r2 : W8.cell? ⟨w.heap.size + 1, 2, none⟩ = some (.int .i64 0) := HRS8.out.cell 2
              have g0 := HRS8.out.free 0
              have g1 := HRS8.out.free 1
              have g2 := HRS8.out.free 2
              have hrl := HRS8.out.lt
              clear hE
              go_wp2_with fail
              refine bodyPost_ret (v := .agg #[.int .i64 E, .int .i64 P1, .int .i64 P2]) (by simp [results, Tryz.results44, go_sem, r0, r1, r2, hrl]) rfl ?_
              exact readPost_err hR.out (((HMD8.out.far _ 0 _ (.inr (by omega))).far _ 1 _ (.inr (by omega))).far _ 2 _ (.inr (by omega)))
      · have hd : decide ((i : Int) < (S.size : Int)) = false := decide_eq_false (by omega)
        have hR : Hid (cardT c ts0 = .ok ts) := by
          rw [HRT.out] at HX
          unfold Hid; rw [HX.out.rt]; unfold headL; rw [if_pos (by rw [HTC.out, ← HSz.out]; omega)]
        have r0 : wr.cell? ⟨w.heap.size + 1, 0, none⟩ = some (.int .i64 0) := HX.out.res.cell 0
        have r1 : wr.cell? ⟨w.heap.size + 1, 1, none⟩ = some (.int .i64 0) := HX.out.res.cell 1
        have r2 : wr.cell? ⟨w.heap.size + 1, 2, none⟩ = some (.int .i64 0) := HX.out.res.cell 2
        have g0 := HX.out.res.free 0
        have g1 := HX.out.res.free 1
        have g2 := HX.out.res.free 2
        have hrl := HX.out.res.lt
        go_wp2_with fail
        go_quiet (fail)
        go_wp2_with fail
        refine bodyPost_ret (v := .agg #[.int .i64 0, .int .i64 0, .int .i64 0]) (by simp [results, Tryz.results44, go_sem, r0, r1, r2, hrl]) rfl ?_
        have hsh := HX.out.shut (by omega) nq (.int .i64 0) (.int .i64 0) (.int .i64 0)
        exact readPost_ok hR.out HX.out.few hsh.1 hsh.2
  · have hok' : atOk c 0 = false := by simpa using hok
    have hE : atE c 0 = 1 := atE_no hok'
    have hR : Hid (cardT c ts0 = .error (1, 0, 0)) := by unfold Hid cardT; rw [if_neg hok]
    obtain ⟨P1, P2, hP⟩ : ∃ P1 P2, atP c 0 = (P1, P2) := ⟨_, _, rfl⟩
    have HA2 : Hid (Calls Tryz.prog 23 #[.agg #[.bool left, .string S, .slice A ms.length cap], .int .i64 0] W2 fun e w' => e = .returned (.tuple #[.agg #[.int .i64 P1, .int .i64 P2], .int .i64 1]) ∧ Below W2.heap.size W2 w') :=
      HA.out.mono fun e w' ⟨h1, h2⟩ => ⟨by rw [h1.eq, hP, hE], h2⟩
    clear hok hok' HA HAT hE hP
    go_wp2_with fail
    refine HA2.out.mono ?_
    rintro e w3 ⟨rfl, hb3⟩
    have HMS3 := hide ((HMS.out.below hb3).alloc (.cells #[.int .i64 P1, .int .i64 P2] 26))
    have HFR3 := hide ((blk_kept hb3 HFR0.out).alloc (.cells #[.int .i64 P1, .int .i64 P2] 26))
    clear hb3 c0 c1 c2 HSC HMS HMI HFR0 HMA HA2
    have r0 : (w3.alloc (.cells #[.int .i64 P1, .int .i64 P2] 26)).cell? ⟨w.heap.size + 1, 0, none⟩ = some (.int .i64 0) := HFR3.out.cell 0
    have r1 : (w3.alloc (.cells #[.int .i64 P1, .int .i64 P2] 26)).cell? ⟨w.heap.size + 1, 1, none⟩ = some (.int .i64 0) := HFR3.out.cell 1
    have r2 : (w3.alloc (.cells #[.int .i64 P1, .int .i64 P2] 26)).cell? ⟨w.heap.size + 1, 2, none⟩ = some (.int .i64 0) := HFR3.out.cell 2
    have g0 := HFR3.out.free 0
    have g1 := HFR3.out.free 1
    have g2 := HFR3.out.free 2
    have hrl := HFR3.out.lt
    go_wp2_with fail
    refine bodyPost_ret (v := .agg #[.int .i64 1, .int .i64 0, .int .i64 0]) (by simp [results, Tryz.results44, go_sem, r0, r1, r2, hrl]) rfl ?_
    exact readPost_err hR.out (((HMS3.out.far _ 0 _ (.inr (by omega))).far _ 1 _ (.inr (by omega))).far _ 2 _ (.inr (by omega)))
end Go.Proofs.YtghnffdjdjlomaaGreatDoor

/-! CONTRACT of Scan (layer 3, tokens). -/
namespace Go.Proofs.YtghnffdjdjlomaaGreatDoor
open Go.RowKit Go.Shelf

theorem goL_err (c : CardL) (fuel : Nat) (ts : List TokL) (i : Nat) (f : Int × Int × Int) (h : goL c fuel ts i = .error f) : f.1 = 3 ∨ f.1 = 4 ∨ f.1 = 5 := by
  induction fuel generalizing ts i with
  | zero => simp [goL] at h
  | succ n ih =>
    rw [goL_head] at h
    unfold headL at h
    split at h
    · cases h
    · split at h
      · rename_i e he
        injection h with h
        have := next_err he
        rw [← h]; right; exact this
      · split at h
        · injection h with h; rw [← h]; exact .inl rfl
        · exact ih _ _ h
theorem cardT_err {c : CardL} {ts : List TokL} {f : Int × Int × Int} (h : cardT c ts = .error f) : f.1 ≠ 0 := by
  unfold cardT at h
  split at h
  · have := goL_err c _ _ _ f h; omega
  · injection h with h; rw [← h]; decide
/-- tokens in memory below a block -/
def TokAt (w : World) (B : Nat) (A : Option Addr) (ts : List TokL) : Prop :=
  ts = [] ∨ ∃ b, A = some ⟨b, 0, none⟩ ∧ b < B ∧ ∀ j (h : j < ts.length), w.cell? ⟨b, j * 5, none⟩ = some (.int .u8 ts[j].kind) ∧ w.cell? ⟨b, j * 5 + 1, none⟩ = some (.string (mk ts[j].text)) ∧ w.cell? ⟨b, j * 5 + 2, none⟩ = some (.int .i64 ts[j].line) ∧ w.cell? ⟨b, j * 5 + 3, none⟩ = some (.int .i64 ts[j].col) ∧ w.cell? ⟨b, j * 5 + 4, none⟩ = some (.bool ts[j].left)
theorem TokAt.at_ {w : World} {B : Nat} {A : Option Addr} {ts : List TokL} (h : TokAt w B A ts) (j : Nat) (hj : j < ts.length) : ∃ b, A = some ⟨b, 0, none⟩ ∧ b < B ∧ w.cell? ⟨b, j * 5, none⟩ = some (.int .u8 ts[j].kind) ∧ w.cell? ⟨b, j * 5 + 1, none⟩ = some (.string (mk ts[j].text)) ∧ w.cell? ⟨b, j * 5 + 2, none⟩ = some (.int .i64 ts[j].line) ∧ w.cell? ⟨b, j * 5 + 3, none⟩ = some (.int .i64 ts[j].col) ∧ w.cell? ⟨b, j * 5 + 4, none⟩ = some (.bool ts[j].left) := by
  rcases h with rfl | ⟨b, rfl, hb, hc⟩
  · simp at hj
  · exact ⟨b, rfl, hb, hc j hj⟩
theorem TokAt.below {w w' : World} {B : Nat} {A : Option Addr} {ts : List TokL} (h : TokAt w B A ts) (hb : Below B w w') (B' : Nat) (hB : B ≤ B') : TokAt w' B' A ts := by
  rcases h with h | ⟨b, hA, hlt, hc⟩
  · exact .inl h
  · refine .inr ⟨b, hA, by omega, fun j hj => ?_⟩
    have hbl := hb.block b hlt
    obtain ⟨h1, h2, h3, h4, h5⟩ := hc j hj
    exact ⟨(World.cell?_of_block hbl).trans h1, (World.cell?_of_block hbl).trans h2, (World.cell?_of_block hbl).trans h3, (World.cell?_of_block hbl).trans h4, (World.cell?_of_block hbl).trans h5⟩
theorem TokAt.mods {M : Nat → Prop} {w w' : World} {B B' : Nat} {A : Option Addr} {ts : List TokL} (h : TokAt w B A ts) (hm : Mods M w w') (hM : ∀ a, A = some a → ¬ M a.block) (hB : B ≤ w.heap.size) (hB' : B ≤ B') : TokAt w' B' A ts := by
  rcases h with h | ⟨b, hA, hlt, hc⟩
  · exact .inl h
  · refine .inr ⟨b, hA, by omega, fun j hj => ?_⟩
    have hbl := hm.block b (by omega) (hM _ hA)
    obtain ⟨h1, h2, h3, h4, h5⟩ := hc j hj
    exact ⟨(World.cell?_of_block hbl).trans h1, (World.cell?_of_block hbl).trans h2, (World.cell?_of_block hbl).trans h3, (World.cell?_of_block hbl).trans h4, (World.cell?_of_block hbl).trans h5⟩
theorem tokAt_own {w : World} {B cap : Nat} {A : Option Addr} {ts : List TokL} (h : w.ownsRow B 49 5 (.slice A ts.length cap) ts.length (tokCells ts)) : TokAt w w.heap.size A ts := by
  by_cases h0 : ts.length = 0
  · exact .inl (List.eq_nil_of_length_eq_zero h0)
  · obtain ⟨g, cap', e, _, hlt⟩ := World.ownsRow.form h (by omega)
    injection e with e1 _ e2
    subst e1; subst e2
    refine .inr ⟨g, rfl, hlt, fun j hj => ?_⟩
    obtain ⟨h1, h2, h3, h4, h5⟩ := tokCells_at ts j hj
    exact ⟨by rw [h.cellAt _ (by omega), h1], by rw [h.cellAt _ (by omega), h2], by rw [h.cellAt _ (by omega), h3], by rw [h.cellAt _ (by omega), h4], by rw [h.cellAt _ (by omega), h5]⟩
theorem clipT_c (A : Option Addr) (n c : Nat) (w : World) (_hn : n ≤ 2000000) (hc : n ≤ c) :
    Calls Tryz.prog 45 #[.slice A n c] w fun e w' => e = .returned (.slice A n n) ∧ w = w' := by
  go_enter Tryz.func45, Tryz.ntmps45
  go_wp2_with fail
  go_ret
  exact ⟨rfl, rfl⟩
/-- what Scan returns -/
def ScanPost (w : World) (r : Except (Int × Int × Int) (List TokL)) (e : Ending) (w' : World) : Prop := match r with
  | .error f => e = .returned (.tuple #[.slice none 0 0, fault f]) ∧ Below w.heap.size w w'
  | .ok ts => ts.length ≤ 65536 ∧ (∃ A, e = .returned (.tuple #[.slice A ts.length ts.length, fault (0, 0, 0)]) ∧ TokAt w' w'.heap.size A ts ∧ ∀ a, A = some a → w.heap.size < a.block) ∧ Below w.heap.size w w'
theorem scanPost_err {w w' : World} {r : Except (Int × Int × Int) (List TokL)} {f : Int × Int × Int} (h : r = .error f) (hb : Below w.heap.size w w') : ScanPost w r (.returned (.tuple #[.slice none 0 0, fault f])) w' := by
  rw [h]; exact ⟨rfl, hb⟩
theorem scanPost_ok {w w' : World} {r : Except (Int × Int × Int) (List TokL)} {ts : List TokL} {A : Option Addr} (h : r = .ok ts) (hl : ts.length ≤ 65536) (ht : TokAt w' w'.heap.size A ts) (hf : ∀ a, A = some a → w.heap.size < a.block) (hb : Below w.heap.size w w') : ScanPost w r (.returned (.tuple #[.slice A ts.length ts.length, fault (0, 0, 0)])) w' := by
  rw [h]; exact ⟨hl, ⟨A, rfl, ht, hf⟩, hb⟩
/-- the state at the head of a round -/
structure ScI (w : World) (cs : List CardL) (R : Except (Int × Int × Int) (List TokL)) (k : Nat) (ts : List TokL) (TA : Option Addr) (tc : Nat) (wr : World) : Prop where
  laidC ::
  sc : Sc0 (w.heap.size + 2) (w.heap.size + 1) wr ts TA tc
  few : ts.length ≤ 65536
  rt : R = scanT (cs.drop k) ts
  maxi : MaxI wr
  bel : Below w.heap.size w wr
  res : Blk wr w.heap.size #[.int .i64 0, .int .i64 0, .int .i64 0] 28

set_option maxHeartbeats 2000000 in
set_option maxRecDepth 100000 in
theorem Scan_c (cs : List CardL) (A : Option Addr) (cap B : Nat) (w : World) (hcs : CardsAt w B A cs) (hB : B ≤ w.heap.size) (hn : cs.length ≤ 2000000) (ht : ∀ c ∈ cs, c.text.length ≤ 2000000 ∧ c.marks.length ≤ 2000000) (hm : MaxI w) :
    Calls Tryz.prog 16 #[.slice A cs.length cap] w (ScanPost w (scanT cs [])) := by
  obtain ⟨R, hR⟩ : ∃ R, R = scanT cs [] := ⟨_, rfl⟩
  rw [← hR]
  obtain ⟨W0, hW0⟩ : ∃ W0, W0 = (w.alloc (.cells #[.int .i64 0, .int .i64 0, .int .i64 0] 28)).alloc (.cells #[.bool false, .string ⟨#[]⟩, .slice none 0 0, .int .i64 0, .int .i64 0, .slice none 0 0] 101) := ⟨_, rfl⟩
  have hb0 : Below w.heap.size w W0 := by rw [hW0]; exact below2 w _ _
  have hs0 : W0.heap.size = w.heap.size + 2 := by rw [hW0]; simp
  have HI : Hid (ScI w cs R 0 [] none 0 W0) := by
    refine ⟨⟨⟨.bool false, .string ⟨#[]⟩, .slice none 0 0, .int .i64 0, .int .i64 0, ?_⟩, World.ownsRow_nil _ _ _ _, by omega, by omega⟩, by simp, hR, hm.below hb0, hb0, by rw [hW0]; exact (blk_new w _ _).alloc _⟩
    rw [hW0]
    have := blk_new (w.alloc (.cells #[.int .i64 0, .int .i64 0, .int .i64 0] 28)) #[.bool false, .string ⟨#[]⟩, .slice none 0 0, .int .i64 0, .int .i64 0, .slice none 0 0] 101
    rw [World.size_alloc] at this
    exact this
  have HC := hide hcs
  have HT := hide ht
  have hgl : 0 < w.heap.size + 1 := by have := hm.lt; omega
  clear hR hcs ht hm
  go_enter Tryz.func16, Tryz.ntmps16
  go_wp2_with fail
  rw [← hW0]
  clear hW0
  go_loopw [10] (fun v wr => ∃ k : Nat, k ≤ cs.length ∧ v = .int .i64 (k : Int) ∧ ∃ ts TA tc, ScI w cs R k ts TA tc wr) (fun v _ => cs.length - (intOf v).toNat)
  case atStart => exact ⟨0, Nat.zero_le _, rfl, [], none, 0, HI.out⟩
  case round =>
    obtain ⟨k, hk, rfl, ts, TA, tc, hX⟩ := hrel
    have HX := hide hX
    have hws := hX.bel.size
    clear hX HI
    by_cases hlt : k < cs.length
    · obtain ⟨b, off, rfl, hb, h0, h1, A1, cap1, h2, hma⟩ := HC.out.at_ k hlt
      have hbw : b < w.heap.size := by omega
      have c0 : wr.cell? ⟨b, off + k * 3, none⟩ = some (.bool cs[k].left) := (World.cell?_of_block (HX.out.bel.block b hbw)).trans h0
      have c1 : wr.cell? ⟨b, off + k * 3 + 1, none⟩ = some (.string (mk cs[k].text)) := (World.cell?_of_block (HX.out.bel.block b hbw)).trans h1
      have c2 : wr.cell? ⟨b, off + k * 3 + 2, none⟩ = some (.slice A1 cs[k].marks.length cap1) := (World.cell?_of_block (HX.out.bel.block b hbw)).trans h2
      have hcd := HT.out cs[k] (List.getElem_mem hlt)
      obtain ⟨W1, hW1⟩ : ∃ W1, W1 = wr.alloc (.cells #[.bool cs[k].left, .string (mk cs[k].text), .slice A1 cs[k].marks.length cap1] 34) := ⟨_, rfl⟩
      have hb1 : Below wr.heap.size wr W1 := by rw [hW1]; exact below1 wr _
      have HRD := hide (read_c (HX.out.sc.below hb1) cs[k].left cs[k].text cs[k].marks A1 cap1 (hma.mods (Mods.of_below ((HX.out.bel.trans (hb1.mono hws)))) (fun _ _ e => e) hB (by omega)) hcd.1 hcd.2 HX.out.few (HX.out.maxi.below hb1) hgl)
      have HW1 := hide hW1
      have HB1 := hide hb1
      clear h0 h1 h2 hma hb1 hcd hW1
      have hrt : R = match cardT cs[k] ts with
          | .error f => .error f
          | .ok ts' => scanT (cs.drop (k + 1)) ts' := by rw [HX.out.rt, List.drop_eq_getElem_cons hlt]; rfl
      have HRT := hide hrt
      clear hrt
      cases hcard : cardT cs[k] ts with
      | error f =>
        have hfe := cardT_err hcard
        obtain ⟨f1, f2, f3⟩ := f
        have hRE : R = .error (f1, f2, f3) := by rw [HRT.out, hcard]
        have HRE := hide hRE
        have hf : (f1 == 0) = false := by simpa using hfe
        have HRD2 : Hid (Calls Tryz.prog 44 #[.pointer (some ⟨w.heap.size + 1, 0, none⟩), .agg #[.bool cs[k].left, .string (mk cs[k].text), .slice A1 cs[k].marks.length cap1]] W1 fun e w' => e = .returned (.agg #[.int .i64 f1, .int .i64 f2, .int .i64 f3]) ∧ ModB (w.heap.size + 2) (w.heap.size + 1) W1 w') :=
          HRD.out.mono fun e w' h => by unfold ReadPost at h; rw [show (⟨cs[k].left, cs[k].text, cs[k].marks⟩ : CardL) = cs[k] from rfl, hcard] at h; exact h
        clear hfe hRE hcard HRD
        go_wp2_with fail
        rw [← HW1.out]
        refine HRD2.out.mono ?_
        rintro e w2 ⟨rfl, hm2⟩
        have hbel : Below (w.heap.size + 1) W1 w2 := hm2.toBelow (by have := HB1.out.size; have := HX.out.sc.size; omega) (fun i hi e => by rcases e with e | e <;> omega)
        have hres2 : Blk w2 w.heap.size #[.int .i64 0, .int .i64 0, .int .i64 0] 28 := (blk_kept HB1.out HX.out.res).mods hm2 (fun e => by rcases e with e | e <;> omega)
        have HBE := hide hbel
        have r0 : (w2.alloc (.cells #[.int .i64 f1, .int .i64 f2, .int .i64 f3] 28)).cell? ⟨w.heap.size, 0, none⟩ = some (.int .i64 0) := (hres2.alloc _).cell 0
        have r1 : (w2.alloc (.cells #[.int .i64 f1, .int .i64 f2, .int .i64 f3] 28)).cell? ⟨w.heap.size, 1, none⟩ = some (.int .i64 0) := (hres2.alloc _).cell 1
        have r2 : (w2.alloc (.cells #[.int .i64 f1, .int .i64 f2, .int .i64 f3] 28)).cell? ⟨w.heap.size, 2, none⟩ = some (.int .i64 0) := (hres2.alloc _).cell 2
        have g0 := (hres2.alloc (.cells #[.int .i64 f1, .int .i64 f2, .int .i64 f3] 28)).free 0
        have g1 := (hres2.alloc (.cells #[.int .i64 f1, .int .i64 f2, .int .i64 f3] 28)).free 1
        have g2 := (hres2.alloc (.cells #[.int .i64 f1, .int .i64 f2, .int .i64 f3] 28)).free 2
        have hrl := hres2.lt
        clear hm2 hbel hres2
        go_wp2_with fail
        have HZ := hide (blk_new w2 #[.int .i64 f1, .int .i64 f2, .int .i64 f3] 28)
        obtain ⟨W3, hW3⟩ : ∃ W3, W3 = w2.alloc (.cells #[.int .i64 f1, .int .i64 f2, .int .i64 f3] 28) := ⟨_, rfl⟩
        have hw3 : w2.heap.size < W3.heap.size := by rw [hW3]; simp
        have HB3 : Hid (Below w.heap.size w W3) := by
          rw [hW3]
          have h1 := HX.out.bel.trans (HB1.out.mono hws)
          exact (h1.trans (HBE.out.mono (by omega))).alloc (by have := h1.size; have := HBE.out.size; omega) _
        rw [← hW3] at HZ r0 r1 r2 g0 g1 g2 ⊢
        have z0 : W3.cell? ⟨w2.heap.size, 0, none⟩ = some (.int .i64 f1) := HZ.out.cell 0
        have z1 : W3.cell? ⟨w2.heap.size, 1, none⟩ = some (.int .i64 f2) := HZ.out.cell 1
        have z2 : W3.cell? ⟨w2.heap.size, 2, none⟩ = some (.int .i64 f3) := HZ.out.cell 2
        have hrl3 : w.heap.size < W3.heap.size := by omega
        clear hW3
        go_region
        go_wp2_with fail
        refine bodyPost_ret (v := .tuple #[.slice none 0 0, .agg #[.int .i64 f1, .int .i64 f2, .int .i64 f3]]) (by simp [results, Tryz.results16, go_sem, r0, r1, r2, hrl3]) rfl ?_
        exact scanPost_err HRE.out (below_drewN (below_set3 HB3.out (Nat.le_refl _) _ _ _) 1)
      | ok ts' =>
        have hRE : R = scanT (cs.drop (k + 1)) ts' := by rw [HRT.out, hcard]
        have HRE := hide hRE
        have HRD2 : Hid (Calls Tryz.prog 44 #[.pointer (some ⟨w.heap.size + 1, 0, none⟩), .agg #[.bool cs[k].left, .string (mk cs[k].text), .slice A1 cs[k].marks.length cap1]] W1 fun e w' => e = .returned (.agg #[.int .i64 0, .int .i64 0, .int .i64 0]) ∧ ts'.length ≤ 65536 ∧ (∃ TA tc, Sc0 (w.heap.size + 2) (w.heap.size + 1) w' ts' TA tc) ∧ ModB (w.heap.size + 2) (w.heap.size + 1) W1 w') :=
          HRD.out.mono fun e w' h => by unfold ReadPost at h; rw [show (⟨cs[k].left, cs[k].text, cs[k].marks⟩ : CardL) = cs[k] from rfl, hcard] at h; exact h
        clear hRE hcard HRD
        go_wp2_with fail
        rw [← HW1.out]
        refine HRD2.out.mono ?_
        rintro e w2 ⟨rfl, hfew, ⟨TA', tc', hsc'⟩, hm2⟩
        have hbel : Below (w.heap.size + 1) W1 w2 := hm2.toBelow (by have := HB1.out.size; have := HX.out.sc.size; omega) (fun i hi e => by rcases e with e | e <;> omega)
        have hres2 : Blk w2 w.heap.size #[.int .i64 0, .int .i64 0, .int .i64 0] 28 := (blk_kept HB1.out HX.out.res).mods hm2 (fun e => by rcases e with e | e <;> omega)
        have hmi2 := (HX.out.maxi.below HB1.out).modB hm2 hgl (by omega)
        have h1 := HX.out.bel.trans (HB1.out.mono hws)
        have HX2 : Hid (ScI w cs R (k + 1) ts' TA' tc' (w2.alloc (.cells #[.int .i64 0, .int .i64 0, .int .i64 0] 28))) :=
          ⟨hsc'.below (below1 w2 _), hfew, HRE.out, hmi2.below (below1 w2 _), (h1.trans (hbel.mono (by omega))).alloc (by have := h1.size; have := hbel.size; omega) _, hres2.alloc _⟩
        clear hm2 hbel hres2 hmi2 h1 hsc'
        go_wp2_with fail
        go_roundw
        case rel => exact ⟨k + 1, by omega, by go_num, ts', TA', tc', HX2.out⟩
        case measure => simp [intOf]; omega
    · obtain rfl : k = cs.length := by omega
      have HRE : Hid (R = .ok ts) := by unfold Hid; rw [HX.out.rt, List.drop_length]; rfl
      obtain ⟨v0, v1, v2, v3, v4, hbk⟩ := HX.out.sc.blk
      have k5 : wr.cell? ⟨w.heap.size + 1, 5, none⟩ = some (.slice TA ts.length tc) := hbk.cell 5
      have hbl := hbk.lt
      have r0 : wr.cell? ⟨w.heap.size, 0, none⟩ = some (.int .i64 0) := HX.out.res.cell 0
      have r1 : wr.cell? ⟨w.heap.size, 1, none⟩ = some (.int .i64 0) := HX.out.res.cell 1
      have r2 : wr.cell? ⟨w.heap.size, 2, none⟩ = some (.int .i64 0) := HX.out.res.cell 2
      have g0 := HX.out.res.free 0
      have g1 := HX.out.res.free 1
      have g2 := HX.out.res.free 2
      have hrl := HX.out.res.lt
      have hfew := HX.out.few
      have htc : ts.length ≤ tc := by
        rcases HX.out.sc.own.2 with ⟨e, e2⟩ | ⟨g, cp, cur, e, -, -, h1, -⟩
        · omega
        · injection e with _ _ e; omega
      clear hbk
      go_wp2_with fail
      refine (clipT_c TA ts.length tc _ (by omega) htc).mono ?_
      rintro e w2 ⟨rfl, rfl⟩
      go_wp2_with fail
      refine bodyPost_ret (v := .tuple #[.slice TA ts.length ts.length, .agg #[.int .i64 0, .int .i64 0, .int .i64 0]]) (by simp [results, Tryz.results16, go_sem, r0, r1, r2, hrl]) rfl ?_
      have hfb : Mods (· = w.heap.size) wr (((wr.setCell ⟨w.heap.size, 0, none⟩ (.int .i64 0)).setCell ⟨w.heap.size, 1, none⟩ (.int .i64 0)).setCell ⟨w.heap.size, 2, none⟩ (.int .i64 0)) := (((Mods.refl (· = w.heap.size) wr).set _ 0 _ (fun _ => rfl)).set _ 1 _ (fun _ => rfl)).set _ 2 _ (fun _ => rfl)
      exact scanPost_ok HRE.out hfew (tokAt_own (own_kept HX.out.sc.own hfb (fun j hj e => by have := HX.out.sc.own.lt j hj; omega))) (fun a ha => by have := (HX.out.sc.own.lt a.block (by rw [ha]; rfl)).1; omega) (below_set3 HX.out.bel (Nat.le_refl _) _ _ _)
end Go.Proofs.YtghnffdjdjlomaaGreatDoor

/-! WHAT READ HANDS TO SCAN (layers 2 and 3): sizes of the cards, faults that are not zero; Source as a function of lists. -/
namespace Go.Proofs.YtghnffdjdjlomaaGreatDoor
open Go.RowKit Go.Shelf

theorem take_err {st : RSt} {line : Int} {l : List UInt8} {f : FaultL} (h : takeL st line l = .error f) : f.1 ≠ 0 := by
  unfold takeL at h
  simp only at h
  split at h
  · split at h
    · injection h with h; rw [← h]; simp
    · cases h
  · split at h
    · split at h
      · injection h with h; rw [← h]; simp
      · split at h <;> cases h
    · split at h
      · injection h with h; rw [← h]; simp
      · cases h
theorem step_err {debug : Bool} {st : RSt} {line : Int} {l : List UInt8} {f : FaultL} (h : stepL debug st line l = .error f) : f.1 ≠ 0 := by
  unfold stepL at h
  split at h
  · split at h
    · exact take_err h
    · cases h
  · rename_i hc
    injection h with h
    rw [← h]
    unfold chkL at hc ⊢
    split
    · simp
    · split
      · simp
      · split
        · rename_i h1 h2 h3
          rw [if_neg h1, if_neg h2, if_pos h3] at hc
          exact absurd rfl hc
        · simp
theorem run_err {debug : Bool} {ls : List (List UInt8)} {st : RSt} {n : Nat} {f : FaultL} (h : runL debug st n ls = .error f) : f.1 ≠ 0 := by
  induction ls generalizing st n with
  | nil => simp [runL] at h
  | cons l r ih =>
    rw [runL] at h
    split at h
    · rename_i g hg
      injection h with h
      rw [← h]; exact step_err hg
    · exact ih h
theorem srcT_err {debug : Bool} {l : List UInt8} {f : FaultL} (h : readT debug l = .error f) : f.1 ≠ 0 := by
  unfold readT at h
  split at h
  · injection h with h; rw [← h]; simp
  · unfold readL at h
    split at h
    · rename_i g hg
      injection h with h
      rw [← h]; exact run_err hg
    · unfold endL' at h
      split at h
      · cases h
      · split at h
        · injection h with h; rw [← h]; simp
        · cases h
theorem take_pre {st st' : RSt} {line : Int} {l : List UInt8} (h : takeL st line l = .ok st') : ∀ c ∈ st'.pre, c ∈ st.pre ∨ st.cur = some c := by
  unfold takeL at h
  simp only at h
  split at h
  · split at h
    · cases h
    · injection h with h; subst h; simp
  · rename_i c0 hc0
    split at h
    · split at h
      · cases h
      · split at h
        · injection h with h; subst h; exact fun c hc => .inl hc
        · injection h with h; subst h; exact fun c hc => .inl hc
    · split at h
      · cases h
      · injection h with h; subst h
        intro c hc
        rcases List.mem_append.1 hc with hc | hc
        · exact .inl hc
        · obtain rfl : c = c0 := by simpa using hc
          exact .inr hc0
theorem step_wf {debug : Bool} {st st' : RSt} {m : Nat} {line : Int} {l : List UInt8} (hw : st.Wf m) (h : stepL debug st line l = .ok st') : st'.Wf (m + ([l].filter (countsL debug)).length) ∧ ∀ c ∈ st'.pre, c ∈ st.pre ∨ st.cur = some c := by
  unfold stepL at h
  split at h
  · by_cases hc : countsL debug l = true
    · rw [if_pos hc] at h
      have e : ([l].filter (countsL debug)).length = 1 := by simp [hc]
      rw [e]
      exact ⟨takeL_wf st st' m line l hw (counts_first debug l hc) h, take_pre h⟩
    · rw [if_neg hc] at h
      have e : ([l].filter (countsL debug)).length = 0 := by simp [hc]
      injection h with h; subst h
      rw [e]
      exact ⟨hw, fun c hc => .inl hc⟩
  · cases h
theorem run_pre {debug : Bool} (N : Nat) (ls : List (List UInt8)) (st st' : RSt) (n m : Nat) (hw : st.Wf m) (hN : m + (ls.filter (countsL debug)).length ≤ N) (hp : ∀ c ∈ st.pre, c.text.length ≤ 65 * N ∧ c.marks.length ≤ N) (h : runL debug st n ls = .ok st') :
    ∀ c ∈ st'.pre, c.text.length ≤ 65 * N ∧ c.marks.length ≤ N := by
  induction ls generalizing st n m with
  | nil => injection h with h; subst h; exact hp
  | cons l r ih =>
    rw [runL] at h
    split at h
    · cases h
    · rename_i st1 h1
      obtain ⟨h2, h3⟩ := step_wf hw h1
      have e : ((l :: r).filter (countsL debug)).length = ([l].filter (countsL debug)).length + (r.filter (countsL debug)).length := by
        rw [← List.length_append, ← List.filter_append]; rfl
      refine ih st1 (n + 1) _ h2 (by omega) (fun c hc => ?_) h
      rcases h3 c hc with h4 | h4
      · exact hp c h4
      · obtain ⟨-, h5, h6, -⟩ := hw.2 c h4
        exact ⟨by omega, by omega⟩
theorem readL_sizes {debug : Bool} {l : List UInt8} {cs : List CardL} (N : Nat) (hN : (((chunks l).map stripL).filter (countsL debug)).length ≤ N) (h : readL debug l = .ok cs) :
    cs.length ≤ N ∧ ∀ c ∈ cs, c.text.length ≤ 65 * N ∧ c.marks.length ≤ N := by
  unfold readL at h
  split at h
  · cases h
  · rename_i st hst
    have hw0 : RSt.ini.Wf 0 := ⟨fun _ => rfl, fun c hc => by cases hc⟩
    have hw := runL_wf debug _ _ st 0 0 hw0 hst
    have hp := run_pre N _ _ st 0 0 hw0 (by omega) (fun c hc => by cases hc) hst
    rw [Nat.zero_add] at hw
    unfold endL' at h
    split at h
    · injection h with h; subst h; simp
    · rename_i c hc
      split at h
      · cases h
      · injection h with h; subst h
        obtain ⟨-, h5, h6, h7⟩ := hw.2 c hc
        refine ⟨by rw [List.length_append]; simp; omega, fun d hd => ?_⟩
        rcases List.mem_append.1 hd with hd | hd
        · exact hp d hd
        · obtain rfl : d = c := by simpa using hd
          exact ⟨by omega, by omega⟩
theorem count_len (debug : Bool) (l : List UInt8) : (((chunks l).map stripL).filter (countsL debug)).length ≤ l.length := by
  have h1 := List.length_filter_le (countsL debug) ((chunks l).map stripL)
  have h2 := chunks_length l
  rw [List.length_map] at h1
  omega
theorem readT_sizes {debug : Bool} {l : List UInt8} {cs : List CardL} (hl : l.length ≤ 30000) (h : readT debug l = .ok cs) :
    cs.length ≤ 30000 ∧ ∀ c ∈ cs, c.text.length ≤ 2000000 ∧ c.marks.length ≤ 2000000 := by
  unfold readT at h
  rw [if_neg (by omega)] at h
  have := readL_sizes 30000 (by have := count_len debug l; omega) h
  exact ⟨this.1, fun c hc => by have := this.2 c hc; omega⟩
/-- Source -/
def sourceT (debug : Bool) (l : List UInt8) : Except FaultL (List TokL) := match readT debug l with
  | .error f => .error f
  | .ok cs => scanT cs []

set_option maxHeartbeats 1000000 in
set_option maxRecDepth 100000 in
theorem Source_c (s : ByteArray) (debug : Bool) (w : World) (hs : s.size ≤ 30000) (hm : MaxI w) :
    Calls Tryz.prog 14 #[.string s, .bool debug] w (ScanPost w (sourceT debug s.data.toList)) := by
  obtain ⟨R, hR⟩ : ∃ R, R = sourceT debug s.data.toList := ⟨_, rfl⟩
  rw [← hR]
  have hl : s.data.toList.length ≤ 30000 := by rw [len_data]; exact hs
  obtain ⟨W0, hW0⟩ : ∃ W0, W0 = w.alloc (.cells #[.int .i64 0, .int .i64 0, .int .i64 0] 28) := ⟨_, rfl⟩
  have HRD := hide (Read_all s debug W0 (by omega) (fun _ => by have := count_len debug s.data.toList; omega))
  have hb0 : Below w.heap.size w W0 := by rw [hW0]; exact below1 w _
  have hr0 : Blk W0 w.heap.size #[.int .i64 0, .int .i64 0, .int .i64 0] 28 := by rw [hW0]; exact blk_new w _ _
  have HB0 := hide hb0
  have HR0 := hide hr0
  have HM := hide (hm.below hb0)
  have HR := hide hR
  clear hb0 hr0 hm hR
  cases hrt : readT debug s.data.toList with
  | error f =>
    obtain ⟨f1, f2, f3⟩ := f
    have hf : (f1 == 0) = false := by have := srcT_err hrt; simpa using this
    have HRE : Hid (R = .error (f1, f2, f3)) := by unfold Hid; rw [HR.out]; unfold sourceT; rw [hrt]
    rw [hrt] at HRD
    have HRD2 : Hid (Calls Tryz.prog 11 #[.string s, .bool debug] W0 fun e w' => ∃ A, e = .returned (.tuple #[.slice A 0 0, .agg #[.int .i64 f1, .int .i64 f2, .int .i64 f3]]) ∧ Below W0.heap.size W0 w') := HRD.out.mono fun e w' ⟨A, h1, _, _, h4⟩ => ⟨A, h1, h4⟩
    clear hrt HRD hl HR
    go_enter Tryz.func14, Tryz.ntmps14
    go_wp2_with fail
    rw [← hW0]
    clear hW0
    refine HRD2.out.mono ?_
    rintro e w1 ⟨A, rfl, hb1⟩
    have HR1 := hide (blk_kept hb1 HR0.out)
    have HB1 := hide (HB0.out.trans (hb1.mono HB0.out.size))
    clear hb1
    obtain ⟨W3, hW3⟩ : ∃ W3, W3 = w1.alloc (.cells #[.int .i64 f1, .int .i64 f2, .int .i64 f3] 28) := ⟨_, rfl⟩
    have HZ : Hid (Blk W3 w1.heap.size #[.int .i64 f1, .int .i64 f2, .int .i64 f3] 28) := by rw [hW3]; exact blk_new w1 _ _
    have HR3 : Hid (Blk W3 w.heap.size #[.int .i64 0, .int .i64 0, .int .i64 0] 28) := by rw [hW3]; exact HR1.out.alloc _
    have HB3 : Hid (Below w.heap.size w W3) := by rw [hW3]; exact HB1.out.alloc HB1.out.size _
    go_upto_region 3 with fail
    rw [← hW3]
    clear hW3
    have z0 : W3.cell? ⟨w1.heap.size, 0, none⟩ = some (.int .i64 f1) := HZ.out.cell 0
    have z1 : W3.cell? ⟨w1.heap.size, 1, none⟩ = some (.int .i64 f2) := HZ.out.cell 1
    have z2 : W3.cell? ⟨w1.heap.size, 2, none⟩ = some (.int .i64 f3) := HZ.out.cell 2
    have r0 : W3.cell? ⟨w.heap.size, 0, none⟩ = some (.int .i64 0) := HR3.out.cell 0
    have r1 : W3.cell? ⟨w.heap.size, 1, none⟩ = some (.int .i64 0) := HR3.out.cell 1
    have r2 : W3.cell? ⟨w.heap.size, 2, none⟩ = some (.int .i64 0) := HR3.out.cell 2
    have g0 := HR3.out.free 0
    have g1 := HR3.out.free 1
    have g2 := HR3.out.free 2
    have hrl := HR3.out.lt
    have hzl := HZ.out.lt
    go_region
    go_wp2_with fail
    refine bodyPost_ret (v := .tuple #[.slice none 0 0, .agg #[.int .i64 f1, .int .i64 f2, .int .i64 f3]]) (by simp [results, Tryz.results14, go_sem, r0, r1, r2, hrl]) rfl ?_
    exact scanPost_err HRE.out (below_drewN (below_set3 HB3.out (Nat.le_refl _) _ _ _) 1)
  | ok cs =>
    obtain ⟨hcl, hct⟩ := readT_sizes hl hrt
    have HRE : Hid (R = scanT cs []) := by unfold Hid; rw [HR.out]; unfold sourceT; rw [hrt]
    rw [hrt] at HRD
    have HRD2 : Hid (Calls Tryz.prog 11 #[.string s, .bool debug] W0 fun e w' => ∃ A, e = .returned (.tuple #[.slice A cs.length cs.length, .agg #[.int .i64 0, .int .i64 0, .int .i64 0]]) ∧ CardsAt w' w'.heap.size A cs ∧ Below W0.heap.size W0 w') := HRD.out.mono fun e w' ⟨A, h1, h2, _, h4⟩ => ⟨A, h1, h2, h4⟩
    have HCT := hide hct
    clear hrt HRD hl HR hct
    go_enter Tryz.func14, Tryz.ntmps14
    go_wp2_with fail
    rw [← hW0]
    clear hW0
    refine HRD2.out.mono ?_
    rintro e w1 ⟨A, rfl, hcards, hb1⟩
    have HSC := hide (fun (o : Obj) => Scan_c cs A cs.length w1.heap.size (w1.alloc o) (by
      rcases hcards with h | ⟨b, off, hA, hb, hc⟩
      · exact .inl h
      · refine .inr ⟨b, off, hA, hb, fun j hj => ?_⟩
        obtain ⟨h1, h2, A1, c1, h3, h4⟩ := hc j hj
        have hbl := heap_alloc_old w1 o hb
        exact ⟨(World.cell?_of_block hbl).trans h1, (World.cell?_of_block hbl).trans h2, A1, c1, (World.cell?_of_block hbl).trans h3, h4.mods (Mods.of_below (below1 w1 o)) (fun _ _ e => e) (Nat.le_refl _) (Nat.le_refl _)⟩) (by simp) (by omega) HCT.out ((HM.out.below hb1).below (below1 w1 o)))
    have HR1 := hide (blk_kept hb1 HR0.out)
    have HB1 := hide (HB0.out.trans (hb1.mono HB0.out.size))
    clear hb1 hcards
    cases hsc : scanT cs [] with
    | error f =>
      rw [hsc] at HSC
      obtain ⟨f1, f2, f3⟩ := f
      have HSC2 : Hid (∀ (o : Obj), Calls Tryz.prog 16 #[.slice A cs.length cs.length] (w1.alloc o) fun e w' => e = .returned (.tuple #[.slice none 0 0, .agg #[.int .i64 f1, .int .i64 f2, .int .i64 f3]]) ∧ Below (w1.alloc o).heap.size (w1.alloc o) w') := HSC.out
      have hRE2 : R = .error (f1, f2, f3) := by rw [HRE.out, hsc]
      have HRE2 := hide hRE2
      clear HSC HRD2 hsc HRE hRE2
      go_wp2_with fail
      refine (HSC2.out _).mono ?_
      rintro e w4 ⟨rfl, hb4⟩
      have hr4 := (HR1.out.alloc (.cells #[.int .i64 0, .int .i64 0, .int .i64 0] 28)).mods (Mods.of_below hb4) (fun e => e)
      have HB4 : Hid (Below w.heap.size w w4) := ((HB1.out.alloc HB1.out.size _).trans (hb4.mono (by have := HB1.out.size; simp; omega)))
      clear hb4
      have r0 : w4.cell? ⟨w.heap.size, 0, none⟩ = some (.int .i64 0) := hr4.cell 0
      have r1 : w4.cell? ⟨w.heap.size, 1, none⟩ = some (.int .i64 0) := hr4.cell 1
      have r2 : w4.cell? ⟨w.heap.size, 2, none⟩ = some (.int .i64 0) := hr4.cell 2
      have g0 := hr4.free 0
      have g1 := hr4.free 1
      have g2 := hr4.free 2
      have hrl := hr4.lt
      clear hr4
      go_wp2_with fail
      refine bodyPost_ret (v := .tuple #[.slice none 0 0, .agg #[.int .i64 f1, .int .i64 f2, .int .i64 f3]]) (by simp [results, Tryz.results14, go_sem, r0, r1, r2, hrl]) rfl ?_
      exact scanPost_err HRE2.out (below_set3 HB4.out (Nat.le_refl _) _ _ _)
    | ok ts =>
      rw [hsc] at HSC
      have HSC2 : Hid (∀ (o : Obj), Calls Tryz.prog 16 #[.slice A cs.length cs.length] (w1.alloc o) fun e w' => ts.length ≤ 65536 ∧ (∃ A, e = .returned (.tuple #[.slice A ts.length ts.length, .agg #[.int .i64 0, .int .i64 0, .int .i64 0]]) ∧ TokAt w' w'.heap.size A ts ∧ ∀ a, A = some a → (w1.alloc o).heap.size < a.block) ∧ Below (w1.alloc o).heap.size (w1.alloc o) w') := HSC.out
      have hRE2 : R = .ok ts := by rw [HRE.out, hsc]
      have HRE2 := hide hRE2
      clear HSC HRD2 hsc HRE hRE2
      go_wp2_with fail
      refine (HSC2.out _).mono ?_
      rintro e w4 ⟨hfew, ⟨A', rfl, htok, hfr⟩, hb4⟩
      have hr4 := (HR1.out.alloc (.cells #[.int .i64 0, .int .i64 0, .int .i64 0] 28)).mods (Mods.of_below hb4) (fun e => e)
      have HB4 : Hid (Below w.heap.size w w4) := ((HB1.out.alloc HB1.out.size _).trans (hb4.mono (by have := HB1.out.size; simp; omega)))
      have HTK := hide htok
      have HFR := hide hfr
      have hz : w.heap.size ≤ w1.heap.size := HB1.out.size
      clear hb4 htok hfr
      have r0 : w4.cell? ⟨w.heap.size, 0, none⟩ = some (.int .i64 0) := hr4.cell 0
      have r1 : w4.cell? ⟨w.heap.size, 1, none⟩ = some (.int .i64 0) := hr4.cell 1
      have r2 : w4.cell? ⟨w.heap.size, 2, none⟩ = some (.int .i64 0) := hr4.cell 2
      have g0 := hr4.free 0
      have g1 := hr4.free 1
      have g2 := hr4.free 2
      have hrl := hr4.lt
      clear hr4
      go_wp2_with fail
      refine bodyPost_ret (v := .tuple #[.slice A' ts.length ts.length, .agg #[.int .i64 0, .int .i64 0, .int .i64 0]]) (by simp [results, Tryz.results14, go_sem, r0, r1, r2, hrl]) rfl ?_
      have hfb : Mods (· = w.heap.size) w4 (((w4.setCell ⟨w.heap.size, 0, none⟩ (.int .i64 0)).setCell ⟨w.heap.size, 1, none⟩ (.int .i64 0)).setCell ⟨w.heap.size, 2, none⟩ (.int .i64 0)) := (((Mods.refl (· = w.heap.size) w4).set _ 0 _ (fun _ => rfl)).set _ 1 _ (fun _ => rfl)).set _ 2 _ (fun _ => rfl)
      have hfa : ∀ a, A' = some a → w.heap.size < a.block := fun a ha => by have := HFR.out a ha; simp at this; omega
      exact scanPost_ok HRE2.out hfew (HTK.out.mods hfb (fun a ha e => by have := hfa a ha; omega) (Nat.le_refl _) hfb.size) hfa (below_set3 HB4.out (Nat.le_refl _) _ _ _)
end Go.Proofs.YtghnffdjdjlomaaGreatDoor
