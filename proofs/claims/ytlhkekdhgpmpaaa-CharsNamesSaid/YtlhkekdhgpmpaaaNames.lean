/-
  THE WALK of the law CharsNames.
-/
import Derived.Test.YtlhkekdhgpmpaaaLives
namespace Go.Proofs.Ytlhkekdhgpmpaaa
open Go.RowKit Go.Shelf

/-- may byte k of a name of n bytes be this one? -/
def okAt (l : List UInt8) (n k : Nat) : Bool := dig (l.getD k 0) || capi (l.getD k 0) || (((l.getD k 0).toNat == 45) && decide (0 < k) && decide (k + 1 < n))
def okTo (l : List UInt8) (n : Nat) : Nat → Bool
  | 0 => true
  | k + 1 => okTo l n k && okAt l n k
/-- what the law has counted over the first k bytes -/
def St (l : List UInt8) (n k d t : Nat) (p r : Bool) : Prop :=
  d = (l.take k).countP dig ∧ t = (l.take k).countP capi ∧ p = !(l.take k).any unprint ∧ r = okTo l n k

theorem St_zero (l : List UInt8) (n : Nat) : St l n 0 0 0 true true := by simp [St, okTo]
theorem St_step {l : List UInt8} {n k d t : Nat} {p r : Bool} (h : St l n k d t p r) (hk : k < l.length) {d' t' : Nat} {p' r' : Bool}
    (hd : d' = d + if dig l[k] then 1 else 0) (ht : t' = t + if capi l[k] then 1 else 0) (hp : p' = (p && !unprint l[k])) (hr : r' = (r && okAt l n k)) : St l n (k + 1) d' t' p' r' := by
  obtain ⟨h1, h2, h3, h4⟩ := h
  unfold St
  rw [List.take_succ_eq_append_getElem hk]
  refine ⟨?_, ?_, ?_, ?_⟩
  · rw [hd, h1, List.countP_append]; simp [List.countP_cons]
  · rw [ht, h2, List.countP_append]; simp [List.countP_cons]
  · rw [hp, h3, List.any_append]; simp
  · rw [hr, h4]; rfl
theorem St_bound {l : List UInt8} {n k d t : Nat} {p r : Bool} (h : St l n k d t p r) : d ≤ k ∧ t ≤ k := by
  obtain ⟨h1, h2, _, _⟩ := h
  have a := List.countP_le_length (p := dig) (l := l.take k)
  have b := List.countP_le_length (p := capi) (l := l.take k)
  simp at a b
  omega

theorem St_digits {l : List UInt8} {n d t : Nat} {p r : Bool} (h : St l n l.length d t p r) : isDigits l = (decide (0 < d) && decide (d = l.length)) := by
  have h1 := h.1
  rw [List.take_length] at h1
  have e : (l.any nodig) = !decide (d = l.length) := by
    rw [Bool.eq_iff_iff]
    simp only [List.any_eq_true, Bool.not_eq_true', decide_eq_false_iff_not]
    rw [h1, List.countP_eq_length]
    simp [nodig]
  rw [isDigits, e]
  cases l with
  | nil => simp at h1; simp [h1]
  | cons c l =>
    by_cases hd : d = (c :: l).length
    · simp [hd]
    · simp only [hd, decide_false, Bool.not_false, Bool.not_true, Bool.and_false]

theorem St_printable {l : List UInt8} {n d t : Nat} {p r : Bool} (h : St l n l.length d t p r) : printable l = p := by
  have h1 := h.2.2.1
  rw [List.take_length] at h1
  rw [h1, printable]

theorem okTo_iff (l : List UInt8) (n k : Nat) : okTo l n k = true ↔ ∀ j, j < k → okAt l n j = true := by
  induction k with
  | zero => simp [okTo]
  | succ k ih =>
    rw [okTo, Bool.and_eq_true, ih]
    constructor
    · intro ⟨h1, h2⟩ j hj
      rcases Nat.lt_or_ge j k with h | h
      · exact h1 j h
      · obtain rfl : j = k := by omega
        exact h2
    · intro h
      exact ⟨fun j hj => h j (by omega), h k (by omega)⟩

theorem not_hyphen (c : UInt8) (h : dig c = true ∨ capi c = true) : c.toNat ≠ 45 := by
  unfold dig capi at h
  simp only [Bool.and_eq_true, decide_eq_true_eq] at h
  omega

theorem okAt_iff (l : List UInt8) (k : Nat) (hk : k < l.length) : okAt l l.length k = true ↔ foreign l[k] = false ∧ (l[k].toNat = 45 → 0 < k ∧ k + 1 < l.length) := by
  have e : l.getD k 0 = l[k] := by rw [List.getD_eq_getElem?_getD, List.getElem?_eq_getElem hk]; rfl
  unfold okAt foreign
  rw [e]
  have nh := not_hyphen l[k]
  cases h1 : dig l[k] <;> cases h2 : capi l[k] <;> simp [h1, h2] at nh ⊢
  · constructor
    · intro h; exact ⟨by omega, fun _ => ⟨h.1.2, h.2⟩⟩
    · intro h; have q := h.2 (by omega); exact ⟨⟨by omega, q.1⟩, q.2⟩
  all_goals (intro h; exact absurd h nh)

theorem St_name {l : List UInt8} {d t : Nat} {p r : Bool} (h : St l l.length l.length d t p r) : isName l = (r && decide (0 < t) && decide (l.length ≤ 30)) := by
  have h2 := h.2.1
  have h4 := h.2.2.2
  rw [List.take_length] at h2
  have ecap : l.any capi = decide (0 < t) := by
    rw [h2, Bool.eq_iff_iff]
    simp [List.countP_pos_iff]
  rw [isName, ecap, h4, Bool.eq_iff_iff]
  simp only [Bool.and_eq_true, Bool.not_eq_true', Bool.or_eq_false_iff, decide_eq_true_eq, decide_eq_false_iff_not, List.isEmpty_eq_false_iff, beq_eq_false_iff_ne]
  have nf : l.any foreign = false ↔ ∀ j (hj : j < l.length), foreign l[j] = false := by
    rw [List.any_eq_false]
    constructor
    · intro h j hj; simpa using h l[j] (List.getElem_mem hj)
    · intro h c hc
      obtain ⟨j, hj, rfl⟩ := List.getElem_of_mem hc
      simp [h j hj]
  rw [nf, okTo_iff]
  constructor
  · rintro ⟨⟨⟨⟨h1, h3⟩, h5⟩, h6⟩, h7, h8⟩
    refine ⟨⟨fun j hj => (okAt_iff l j hj).2 ⟨h7 j hj, fun e => ?_⟩, h8⟩, by omega⟩
    have e' : l.getD j 0 = l[j] := by rw [List.getD_eq_getElem?_getD, List.getElem?_eq_getElem hj]; rfl
    constructor
    · rcases Nat.eq_zero_or_pos j with rfl | hp
      · rw [e'] at h5; exact absurd e h5
      · exact hp
    · rcases Nat.lt_or_ge (j + 1) l.length with hp | hp
      · exact hp
      · obtain rfl : j = l.length - 1 := by omega
        rw [e'] at h6; exact absurd e h6
  · rintro ⟨⟨h1, h3⟩, h5⟩
    have hne : 0 < l.length := by
      have : 0 < l.countP capi := by omega
      have := List.countP_le_length (p := capi) (l := l)
      omega
    have e0 : l.getD 0 0 = l[0] := by rw [List.getD_eq_getElem?_getD, List.getElem?_eq_getElem hne]; rfl
    have e1 : l.getD (l.length - 1) 0 = l[l.length - 1] := by rw [List.getD_eq_getElem?_getD, List.getElem?_eq_getElem (by omega)]; rfl
    have k0 := (okAt_iff l 0 hne).1 (h1 0 hne)
    have k1 := (okAt_iff l (l.length - 1) (by omega)).1 (h1 _ (by omega))
    refine ⟨⟨⟨⟨?_, by omega⟩, ?_⟩, ?_⟩, fun j hj => ((okAt_iff l j hj).1 (h1 j hj)).1, h3⟩
    · intro e; subst e; simp at hne
    · rw [e0]; intro e; have := k0.2 e; omega
    · rw [e1]; intro e; have := k1.2 e; omega

theorem Printable_t (s : ByteArray) (b : Bool) (hb : printable s.data.toList = b) (hs : s.size ≤ maxLen) (w : World) :
    Calls Try.prog 12 #[.string s] w fun e w' => e = .returned (.bool b) ∧ w = w' := by
  subst hb; exact Printable_c s w hs

theorem St_next {l : List UInt8} {n k d t : Nat} {p r : Bool} (h : St l n k d t p r) (hk : k < l.length) (u : UInt8) (hu : l[k] = u) (bd bt bp br : Bool) (e1 : dig u = bd) (e2 : capi u = bt) (e3 : unprint u = bp) (e4 : okAt l n k = br) :
    St l n (k + 1) (d + if bd then 1 else 0) (t + if bt then 1 else 0) (p && !bp) (r && br) := by
  subst e1; subst e2; subst e3; subst e4; subst hu
  exact St_step h hk rfl rfl rfl rfl

set_option maxHeartbeats 4000000 in
set_option maxRecDepth 100000 in
theorem CharsNames_w (s : ByteArray) (w : World) (hs : s.size ≤ maxLen) :
    Calls Try.prog 3 #[.string s] w fun e w' => e = .returned (.bool true) ∧ Below w.heap.size w w' := by
  have hlen : Hid (s.data.toList.length = s.size) := by rw [Array.length_toList]; rfl
  by_cases hbig : 100 < s.size
  · clear hlen hs
    go_enter Try.func3, Try.ntmps3
    go_wp2_with (go_at_call 9; refine (lives_c _).mono ?_; rintro e w' ⟨rfl, hb⟩)
    go_ret
    exact ⟨rfl, hb⟩
  · have HS := hide hs
    clear hs
    go_enter Try.func3, Try.ntmps3
    go_wp2_with fail
    go_loop [3, 4, 5, 6, 7] (fun vd vt vp vr vi => ∃ k d t : Nat, ∃ p r : Bool, k ≤ s.size ∧ vi = .int .i64 k ∧ vd = .int .i64 d ∧ vt = .int .i64 t ∧ vp = .bool p ∧ vr = .bool r ∧ St s.data.toList s.size k d t p r) (fun _ _ _ _ i => s.size - (intOf i).toNat)
    case atStart => exact ⟨0, 0, 0, true, true, Nat.zero_le _, rfl, rfl, rfl, rfl, rfl, St_zero _ _⟩
    case round =>
      obtain ⟨k, d, t, p, r, hk, rfl, rfl, rfl, rfl, rfl, hst⟩ := hrel
      have hbd := St_bound hst
      by_cases hlt : k < s.size
      · have hkl : k < s.data.toList.length := by rw [hlen.out]; exact hlt
        have hg := getD_at s k hlt
        have hu : s.data.toList[k] = s[k]'hlt := rfl
        have hn45 : dig (s[k]'hlt) = decide (48 ≤ (s[k]'hlt).toNat ∧ (s[k]'hlt).toNat ≤ 57) := by rw [dig, Bool.eq_iff_iff]; simp; omega
        have hcap : capi (s[k]'hlt) = decide (65 ≤ (s[k]'hlt).toNat ∧ (s[k]'hlt).toNat ≤ 90) := by rw [capi, Bool.eq_iff_iff]; simp; omega
        have hun : unprint (s[k]'hlt) = decide ((s[k]'hlt).toNat < 32 ∨ 126 < (s[k]'hlt).toNat) := by rw [unprint, Bool.eq_iff_iff]; simp; omega
        have hok : okAt s.data.toList s.size k = decide ((48 ≤ (s[k]'hlt).toNat ∧ (s[k]'hlt).toNat ≤ 57) ∨ (65 ≤ (s[k]'hlt).toNat ∧ (s[k]'hlt).toNat ≤ 90) ∨ ((s[k]'hlt).toNat = 45 ∧ 0 < k ∧ k + 1 < s.size)) := by
          rw [okAt, hg, hn45, hcap, Bool.eq_iff_iff]; simp; omega
        have N := fun bd bt bp br => St_next hst hkl (s[k]'hlt) hu bd bt bp br
        rw [hn45, hcap, hun, hok] at N
        have HN := hide N
        clear hg hu hn45 hcap hun hok N hst
        by_cases c1 : 48 ≤ (s[k]'hlt).toNat ∧ (s[k]'hlt).toNat ≤ 57
        · obtain ⟨ca, cb⟩ := c1
          have R := hide (HN.out true false false true (by simp; omega) (by simp; omega) (by simp; omega) (by simp; omega))
          clear HN
          cases p
          all_goals
            go_wp2_with fail
            exact ⟨⟨k + 1, d + 1, t, _, r, by omega, by go_num, by go_num, rfl, rfl, rfl, by first | (simpa using R.out) | (rw [decide_eq_true (by omega)]; simpa using R.out)⟩, by simp [intOf]; omega⟩
        · by_cases c2 : 65 ≤ (s[k]'hlt).toNat ∧ (s[k]'hlt).toNat ≤ 90
          · obtain ⟨ca, cb⟩ := c2
            have R := hide (HN.out false true false true (by simp; omega) (by simp; omega) (by simp; omega) (by simp; omega))
            clear HN c1
            cases p
            all_goals
              go_wp2_with fail
              exact ⟨⟨k + 1, d, t + 1, _, r, by omega, by go_num, rfl, by go_num, rfl, rfl, by first | (simpa using R.out) | (rw [decide_eq_true (by omega)]; simpa using R.out)⟩, by simp [intOf]; omega⟩
          · by_cases c3 : (s[k]'hlt).toNat = 45 ∧ 0 < k ∧ k + 1 < s.size
            · have R := hide (HN.out false false false true (by simp; omega) (by simp; omega) (by simp; omega) (by simp; omega))
              have cb : (((s[k]'hlt).toNat : Int) == 45) = true := by rw [beq_iff_eq]; omega
              obtain ⟨cx, cy, cz⟩ := c3
              have c4 : 45 ≤ (s[k]'hlt).toNat := by omega
              have c5 : (s[k]'hlt).toNat ≤ 45 := by omega
              clear HN c1 c2 cx
              cases p
              all_goals
                go_wp2_with fail
                exact ⟨⟨k + 1, d, t, _, r, by omega, by go_num, rfl, rfl, rfl, rfl, by first | (simpa using R.out) | (rw [decide_eq_true (by omega)]; simpa using R.out)⟩, by simp [intOf]; omega⟩
            · have R : ∀ p', p' = (p && !decide ((s[k]'hlt).toNat < 32 ∨ 126 < (s[k]'hlt).toNat)) → Hid (St s.data.toList s.size (k + 1) d t p' false) := by
                intro p' hp'
                have R := HN.out false false (decide ((s[k]'hlt).toNat < 32 ∨ 126 < (s[k]'hlt).toNat)) false (by simp; omega) (by simp; omega) rfl (by simp; omega)
                rw [hp']
                refine hide ?_
                simpa using R
              have HR := hide R
              clear HN R
              cases p
              all_goals
                go_wp2_with fail
                all_goals exact ⟨⟨k + 1, d, t, _, false, by omega, by go_num, rfl, rfl, rfl, rfl, (HR.out _ (by first | (simp; done) | (rw [Bool.eq_iff_iff]; simp; omega))).out⟩, by simp [intOf]; omega⟩
      · obtain rfl : k = s.size := by omega
        have hst' : St s.data.toList s.data.toList.length s.data.toList.length d t p r := by rw [hlen.out]; exact hst
        have D1 := St_digits hst'
        have D2 := St_name hst'
        have D3 := St_printable hst'
        rw [hlen.out] at D1 D2
        have C1 : (0 < d ∧ ((d : Int) == (s.size : Int)) = true ∧ Hid (isDigits s.data.toList = true)) ∨ (¬ 0 < d ∧ Hid (isDigits s.data.toList = false)) ∨ (0 < d ∧ ((d : Int) == (s.size : Int)) = false ∧ Hid (isDigits s.data.toList = false)) := by
          unfold Hid
          rw [D1]
          by_cases d0 : 0 < d
          · by_cases d1 : d = s.size
            · exact .inl ⟨d0, by rw [beq_iff_eq]; omega, by simp [d1]; omega⟩
            · exact .inr (.inr ⟨d0, by rw [beq_eq_false_iff_ne]; omega, by simp [d1]⟩)
          · exact .inr (.inl ⟨d0, by simp [d0]⟩)
        have C2 : (r = false ∧ Hid (isName s.data.toList = false)) ∨ (r = true ∧ ¬ 0 < t ∧ Hid (isName s.data.toList = false)) ∨ (r = true ∧ 0 < t ∧ decide ((s.size : Int) ≤ 30) = false ∧ Hid (isName s.data.toList = false)) ∨ (r = true ∧ 0 < t ∧ s.size ≤ 30 ∧ Hid (isName s.data.toList = true)) := by
          unfold Hid
          rw [D2]
          cases r
          · exact .inl ⟨rfl, rfl⟩
          · by_cases d0 : 0 < t
            · by_cases d1 : s.size ≤ 30
              · exact .inr (.inr (.inr ⟨rfl, d0, d1, by simp [d0, d1]⟩))
              · exact .inr (.inr (.inl ⟨rfl, d0, by simp; omega, by simp [d1]⟩))
            · exact .inr (.inl ⟨rfl, d0, by simp [d0]⟩)
        have H3 := hide D3
        clear D1 D2 D3 hst' hst
        rcases C1 with ⟨x1, x2, D⟩ | ⟨x1, D⟩ | ⟨x1, x2, D⟩ <;> rcases C2 with ⟨rfl, E⟩ | ⟨rfl, y1, E⟩ | ⟨rfl, y1, y2, E⟩ | ⟨rfl, y1, y2, E⟩
        all_goals
          go_wp2_with (first | (go_at_call 10; refine (IsDigits_t _ _ D.out HS.out _).mono ?_; rintro e w' ⟨rfl, rfl⟩) | (go_at_call 11; refine (IsName_t _ _ E.out HS.out _).mono ?_; rintro e w' ⟨rfl, rfl⟩) | (go_at_call 12; refine (Printable_t _ _ H3.out HS.out _).mono ?_; rintro e w' ⟨rfl, rfl⟩) | (go_at_call 9; refine (lives_c _).mono ?_; rintro e w' ⟨rfl, hb⟩))
          go_ret
          exact ⟨rfl, hb⟩
end Go.Proofs.Ytlhkekdhgpmpaaa
