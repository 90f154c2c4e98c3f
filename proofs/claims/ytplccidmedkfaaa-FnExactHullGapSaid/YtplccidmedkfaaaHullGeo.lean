/-
  A hull is a polygon that turns left at each corner: plain geometry of chains.
-/
import Derived.Test.YtplccidmedkfaaaHullM
import Derived.Test.YtplccidmedkfaaaTwice
namespace Go.Proofs.Ytplccidmedkfaaa
open Go.RowKit

theorem cross_eq (a b c : P2) : crossP a b c = (b.1 - a.1) * (c.2 - a.2) - (b.2 - a.2) * (c.1 - a.1) := rfl
theorem cross_cyc (a b c : P2) : crossP b c a = crossP a b c := by simp only [cross_eq]; grind
def ng (p : P2) : P2 := (-p.1, -p.2)
theorem cross_ng (a b c : P2) : crossP (ng a) (ng b) (ng c) = crossP a b c := by simp only [cross_eq, ng]; grind
theorem bef_ng (a b : P2) : befP (ng a) (ng b) = befP b a := by
  rw [Bool.eq_iff_iff, befP_iff, befP_iff]
  simp only [ng]
  omega

theorem pos_fac {a b : Int} (ha : 0 < a) (h : 0 < a * b) : 0 < b := by
  rcases Int.lt_or_le 0 b with h1 | h1
  · exact h1
  · exfalso
    have := Int.mul_le_mul_of_nonneg_left h1 (Int.le_of_lt ha)
    rw [Int.mul_zero] at this
    omega
/-- Four points in order: two left turns behind each other. -/
theorem four_a {ux uy vx vy wx wy : Int} (hu : 0 < uy ∨ (uy = 0 ∧ 0 < ux)) (hv : 0 < vy ∨ (vy = 0 ∧ 0 < vx)) (hw : 0 < wy ∨ (wy = 0 ∧ 0 < wx)) (h1 : 0 < ux * vy - uy * vx) (h2 : 0 < vx * wy - vy * wx) : 0 < ux * wy - uy * wx := by
  have id : vy * (ux * wy - uy * wx) = uy * (vx * wy - vy * wx) + wy * (ux * vy - uy * vx) := by grind
  rcases hv with hv | ⟨hv, hvx⟩
  · have key : 0 < vy * (ux * wy - uy * wx) := by
      rw [id]
      rcases hu with hu | ⟨hu, hux⟩
      · have p1 := Int.mul_pos hu h2
        rcases hw with hw | ⟨hw, hwx⟩
        · have p2 := Int.mul_pos hw h1; omega
        · rw [hw]; simp only [hw] at p1; omega
      · rcases hw with hw | ⟨hw, hwx⟩
        · have p2 := Int.mul_pos hw h1
          rw [hu]; simp only [hu] at p2; omega
        · exfalso
          rw [hw] at h2
          have := Int.mul_pos hv hwx
          omega
    exact pos_fac hv key
  · exfalso
    rw [hv] at h1
    rcases hu with hu | ⟨hu, hux⟩
    · have := Int.mul_pos hu hvx; omega
    · rw [hu] at h1; omega
theorem bef_pos {a b : P2} (h : befP a b = true) : 0 < b.2 - a.2 ∨ (b.2 - a.2 = 0 ∧ 0 < b.1 - a.1) := by
  rw [befP_iff] at h; omega
theorem four {a y z p : P2} (h1 : befP a y = true) (h2 : befP y z = true) (h3 : befP z p = true) (c1 : 0 < crossP a y z) (c2 : 0 < crossP y z p) : 0 < crossP a z p ∧ 0 < crossP a y p := by
  obtain ⟨ux, hux⟩ : ∃ ux, ux = y.1 - a.1 := ⟨_, rfl⟩
  obtain ⟨uy, huy⟩ : ∃ uy, uy = y.2 - a.2 := ⟨_, rfl⟩
  obtain ⟨vx, hvx⟩ : ∃ vx, vx = z.1 - y.1 := ⟨_, rfl⟩
  obtain ⟨vy, hvy⟩ : ∃ vy, vy = z.2 - y.2 := ⟨_, rfl⟩
  obtain ⟨wx, hwx⟩ : ∃ wx, wx = p.1 - z.1 := ⟨_, rfl⟩
  obtain ⟨wy, hwy⟩ : ∃ wy, wy = p.2 - z.2 := ⟨_, rfl⟩
  have e1 : crossP a y z = ux * vy - uy * vx := by rw [cross_eq]; subst hux huy hvx hvy; grind
  have e2 : crossP y z p = vx * wy - vy * wx := by rw [cross_eq]; subst hvx hvy hwx hwy; grind
  have e3 : crossP a z p = (ux * wy - uy * wx) + (vx * wy - vy * wx) := by rw [cross_eq]; subst hux huy hvx hvy hwx hwy; grind
  have e4 : crossP a y p = (ux * vy - uy * vx) + (ux * wy - uy * wx) := by rw [cross_eq]; subst hux huy hvx hvy hwx hwy; grind
  rw [e1] at c1
  rw [e2] at c2
  have b1 := bef_pos h1; have b2 := bef_pos h2; have b3 := bef_pos h3
  rw [← hux, ← huy] at b1
  rw [← hvx, ← hvy] at b2
  rw [← hwx, ← hwy] at b3
  have := four_a b1 b2 b3 c1 c2
  rw [e3, e4]
  omega
theorem four_back {a y z p : P2} (h1 : befP y a = true) (h2 : befP z y = true) (h3 : befP p z = true) (c1 : 0 < crossP a y z) (c2 : 0 < crossP y z p) : 0 < crossP a z p ∧ 0 < crossP a y p := by
  have := four (a := ng a) (y := ng y) (z := ng z) (p := ng p) (by rw [bef_ng]; exact h1) (by rw [bef_ng]; exact h2) (by rw [bef_ng]; exact h3) (by rw [cross_ng]; exact c1) (by rw [cross_ng]; exact c2)
  rwa [cross_ng, cross_ng] at this

/-- A point between the ends and on the left of the line through them is on the left of each side of the right chain. -/
theorem strip {m M a b d : P2} (h1 : befP m d = true) (h2 : befP d M = true) (h3 : befP a b = true) (c1 : 0 ≤ crossP a b m) (c2 : 0 ≤ crossP a b M) (c3 : 0 < crossP m M d) : 0 < crossP a b d := by
  have id : (M.2 - m.2) * crossP a b d = (M.2 - d.2) * crossP a b m + (d.2 - m.2) * crossP a b M + (b.2 - a.2) * crossP m M d := by simp only [cross_eq]; grind
  rw [befP_iff] at h1 h2 h3
  have hM : 0 < M.2 - m.2 := by
    rcases Int.lt_or_le 0 (M.2 - m.2) with h | h
    · exact h
    · exfalso
      have e1 : M.2 - m.2 = 0 := by omega
      have e2 : d.2 - m.2 = 0 := by omega
      rw [cross_eq, e1, e2] at c3
      omega
  rcases Int.lt_or_le 0 (b.2 - a.2) with hb | hb
  · have p1 := Int.mul_nonneg (show 0 ≤ M.2 - d.2 by omega) c1
    have p2 := Int.mul_nonneg (show 0 ≤ d.2 - m.2 by omega) c2
    have p3 := Int.mul_pos hb c3
    exact pos_fac hM (by omega)
  · have e : b.2 - a.2 = 0 := by omega
    have hx : 0 < b.1 - a.1 := by omega
    have cm : crossP a b m = (b.1 - a.1) * (m.2 - a.2) := by rw [cross_eq, e]; grind
    have cd : crossP a b d = (b.1 - a.1) * (d.2 - a.2) := by rw [cross_eq, e]; grind
    rw [cm] at c1
    have hm : 0 ≤ m.2 - a.2 := by
      rcases Int.lt_or_le (m.2 - a.2) 0 with h | h
      · have := Int.mul_neg_of_pos_of_neg hx h; omega
      · exact h
    have hd : 0 < d.2 - m.2 := by
      rcases Int.lt_or_le 0 (d.2 - m.2) with h | h
      · exact h
      · exfalso
        have e2 : d.2 - m.2 = 0 := by omega
        have e3 : 0 < d.1 - m.1 := by omega
        rw [cross_eq, e2] at c3
        have := Int.mul_pos hM e3
        omega
    rw [cd]
    exact Int.mul_pos hx (by omega)
theorem strip_back {m M a b d : P2} (h1 : befP d m = true) (h2 : befP M d = true) (h3 : befP b a = true) (c1 : 0 ≤ crossP a b m) (c2 : 0 ≤ crossP a b M) (c3 : 0 < crossP m M d) : 0 < crossP a b d := by
  have := strip (m := ng m) (M := ng M) (a := ng a) (b := ng b) (d := ng d) (by rw [bef_ng]; exact h1) (by rw [bef_ng]; exact h2) (by rw [bef_ng]; exact h3) (by rw [cross_ng]; exact c1) (by rw [cross_ng]; exact c2) (by rw [cross_ng]; exact c3)
  rwa [cross_ng] at this

/-! ### Chains -/
def T3 (M : List P2) : Prop := ∀ a b c, [a, b, c].Sublist M → 0 < crossP a b c
theorem T3.sub {M N : List P2} (h : T3 M) (hs : N.Sublist M) : T3 N := fun a b c h1 => h a b c (h1.trans hs)
theorem sub_snoc {l N : List P2} {c p : P2} (h : (l ++ [c]).Sublist (N ++ [p])) : (l ++ [c]).Sublist N ∨ (l.Sublist N ∧ c = p) := by
  rw [List.sublist_append_iff] at h
  obtain ⟨l1, l2, e, h1, h2⟩ := h
  rw [List.sublist_cons_iff] at h2
  rcases h2 with h2 | ⟨r, h2, h3⟩
  · left
    rw [List.sublist_nil] at h2
    rw [e, h2, List.append_nil]; exact h1
  · right
    rw [List.sublist_nil] at h3
    subst h3
    rw [h2] at e
    have := List.append_inj' e rfl
    simp only [List.cons.injEq, and_true] at this
    exact ⟨this.1 ▸ h1, this.2⟩
/-- The order of a chain: forward or back. -/
structure Ord (r : P2 → P2 → Bool) : Prop where
  trans : ∀ a b c, r a b = true → r b c = true → r a c = true
  four : ∀ a y z p, r a y = true → r y z = true → r z p = true → 0 < crossP a y z → 0 < crossP y z p → 0 < crossP a z p ∧ 0 < crossP a y p
theorem ord_bef : Ord befP := ⟨fun _ _ _ => bef_trans, fun _ _ _ _ => four⟩
theorem ord_back : Ord (fun a b => befP b a) := ⟨fun _ _ _ h1 h2 => bef_trans h2 h1, fun _ _ _ _ => four_back⟩
theorem snoc2 {N : List P2} (h : 2 ≤ N.length) : ∃ N' y z, N = N' ++ [y] ++ [z] := by
  refine ⟨N.dropLast.dropLast, N.dropLast.getLast (by intro e; have := congrArg List.length e; simp at this; omega), N.getLast (by intro e; rw [e] at h; simp at h), ?_⟩
  rw [List.dropLast_concat_getLast, List.dropLast_concat_getLast]
theorem push_turn {r : P2 → P2 → Bool} (ho : Ord r) {N : List P2} {p : P2} (hN : T3 N) (hs : (N ++ [p]).Pairwise (fun a b => r a b = true)) (hb : bendB N p = false) : T3 (N ++ [p]) := by
  have key : ∀ a b, [a, b].Sublist N → 0 < crossP a b p := by
    intro a b hab
    have h2 : 2 ≤ N.length := by have := hab.length_le; simpa using this
    obtain ⟨N', y, z, rfl⟩ := snoc2 h2
    have hyz : 0 < crossP y z p := by
      unfold bendB lfB at hb
      have l1 : (N' ++ [y] ++ [z]).length = N'.length + 2 := by simp
      have g1 : gt (N' ++ [y] ++ [z]) ((N' ++ [y] ++ [z]).length - 2) = y := by rw [l1, Nat.add_sub_cancel]; exact gt_snoc2 N' y z
      have g2 : gt (N' ++ [y] ++ [z]) ((N' ++ [y] ++ [z]).length - 1) = z := by
        rw [l1]
        have := gt_snoc (N' ++ [y]) z
        simpa using this
      rw [g1, g2, decide_eq_true h2, Bool.true_and] at hb
      simpa using hb
    have hlt : ∀ x ∈ N' ++ [y] ++ [z], r x p = true := fun x hx => (List.pairwise_append.1 hs).2.2 x hx p (by simp)
    have hN2 := (List.pairwise_append.1 hs).1
    have hz : ∀ x ∈ N' ++ [y], r x z = true := fun x hx => (List.pairwise_append.1 hN2).2.2 x hx z (by simp)
    have hN1 := (List.pairwise_append.1 hN2).1
    have hy : ∀ x ∈ N', r x y = true := fun x hx => (List.pairwise_append.1 hN1).2.2 x hx y (by simp)
    have one : ∀ x ∈ N' ++ [y], 0 < crossP x z p := by
      intro x hx
      rcases List.mem_append.1 hx with h | h
      · have h3 : 0 < crossP x y z := hN x y z (by
          have : [x].Sublist N' := List.singleton_sublist.2 h
          have h4 := (this.append (List.Sublist.refl [y])).append (List.Sublist.refl [z])
          simpa using h4)
        exact (ho.four x y z p (hy x h) (hz y (by simp)) (hlt z (by simp)) h3 hyz).1
      · simp only [List.mem_singleton] at h; rw [h]; exact hyz
    rcases sub_snoc (l := [a]) (c := b) hab with h | ⟨h, rfl⟩
    · have hb' : b ∈ N' ++ [y] := h.subset (by simp)
      have ha' : a ∈ N' ++ [y] := h.subset (by simp)
      have h3 : 0 < crossP a b z := hN a b z (by
        have := h.append (List.Sublist.refl [z])
        simpa using this)
      have hab' : r a b = true := by
        have := hN1.sublist h
        simpa using this
      exact (ho.four a b z p hab' (hz b hb') (hlt z (by simp)) h3 (one b hb')).2
    · exact one a (List.singleton_sublist.1 h)
  intro a b c habc
  rcases sub_snoc (l := [a, b]) (c := c) habc with h | ⟨h, rfl⟩
  · exact hN a b c h
  · exact key a b h
theorem popF_prefix (p : P2) (M : List P2) : popF p M <+: M :=
  popF_ind (Q := fun M N => N <+: M) (fun M _ => List.prefix_refl M) (fun M N _ h => h.trans (List.dropLast_prefix M)) M.length M rfl
theorem chain_turns {r : P2 → P2 → Bool} (ho : Ord r) : ∀ (k : Nat) (P : List P2), P.length = k → P.Pairwise (fun a b => r a b = true) → T3 (chL P) ∧ (chL P).Pairwise (fun a b => r a b = true) := by
  intro k
  induction k with
  | zero =>
    intro P h _
    rw [List.eq_nil_of_length_eq_zero h]
    exact ⟨fun a b c h => by have := h.length_le; simp [chL] at this, by simp [chL]⟩
  | succ k ih =>
    intro P h hP
    obtain ⟨T, p, rfl, hT⟩ : ∃ T p, P = T ++ [p] ∧ T.length = k :=
      ⟨P.dropLast, P.getLast (by intro e; rw [e] at h; simp at h), (List.dropLast_concat_getLast _).symm, by rw [List.length_dropLast]; omega⟩
    obtain ⟨h1, _, h2⟩ := List.pairwise_append.1 hP
    obtain ⟨i1, i2⟩ := ih T hT h1
    rw [chL_snoc]
    have hsub := (popF_prefix p (chL T)).sublist
    have hs : (popF p (chL T) ++ [p]).Pairwise (fun a b => r a b = true) :=
      List.pairwise_append.2 ⟨i2.sublist hsub, by simp, fun a ha b hb => h2 a (chL_sub T a (popF_sub _ _ a ha)) b hb⟩
    exact ⟨push_turn ho (i1.sub hsub) hs (popF_stop _ _), hs⟩
theorem chain_last (P : List P2) (p : P2) : ∃ Q, chL (P ++ [p]) = Q ++ [p] := ⟨_, chL_snoc P p⟩
theorem popF_head {p x : P2} {Q : List P2} : ∃ Q', popF p (x :: Q) = x :: Q' := by
  have h := popF_prefix p (x :: Q)
  have h1 := popF_ge p (x :: Q) (by simp)
  cases hp : popF p (x :: Q) with
  | nil => rw [hp] at h1; simp at h1
  | cons y R =>
    rw [hp] at h
    obtain ⟨t, ht⟩ := h
    simp only [List.cons_append, List.cons.injEq] at ht
    exact ⟨R, by rw [ht.1]⟩
theorem chain_head (x : P2) : ∀ (k : Nat) (P : List P2), P.length = k → ∃ Q, chL (x :: P) = x :: Q := by
  intro k
  induction k with
  | zero => intro P h; rw [List.eq_nil_of_length_eq_zero h]; exact ⟨[], by simp [chL, chS, popF, popC]⟩
  | succ k ih =>
    intro P h
    obtain ⟨T, p, rfl, hT⟩ : ∃ T p, P = T ++ [p] ∧ T.length = k :=
      ⟨P.dropLast, P.getLast (by intro e; rw [e] at h; simp at h), (List.dropLast_concat_getLast _).symm, by rw [List.length_dropLast]; omega⟩
    obtain ⟨Q, hQ⟩ := ih T hT
    rw [← List.cons_append, chL_snoc, chS, hQ]
    obtain ⟨Q', hQ'⟩ := popF_head (p := p) (x := x) (Q := Q)
    rw [hQ']
    exact ⟨Q' ++ [p], rfl⟩

/-! ### The sides -/
theorem mem_consec {s : Pt × Pt} : ∀ {l : List Pt}, s ∈ consec l → ∃ U V, l = U ++ s.1 :: s.2 :: V
  | [], h => by simp [consec] at h
  | [x], h => by simp [consec] at h
  | x :: y :: l, h => by
    have e : consec (x :: y :: l) = (x, y) :: consec (y :: l) := rfl
    rw [e, List.mem_cons] at h
    rcases h with h | h
    · subst h; exact ⟨[], l, rfl⟩
    · obtain ⟨U, V, h2⟩ := mem_consec h
      exact ⟨x :: U, V, by rw [h2]; rfl⟩
theorem consec_join (x : Pt) : ∀ (A B : List Pt), consec (A ++ x :: B) = consec (A ++ [x]) ++ consec (x :: B)
  | [], B => by simp [consec]
  | [a], B => by
    show (a, x) :: consec (x :: B) = _
    rfl
  | a :: b :: A, B => by
    have e1 : consec (a :: b :: A ++ x :: B) = (a, b) :: consec (b :: A ++ x :: B) := rfl
    have e2 : consec (a :: b :: A ++ [x]) = (a, b) :: consec (b :: A ++ [x]) := rfl
    rw [e1, e2, consec_join x (b :: A) B]
    rfl
theorem turn_all {M : List P2} (h : T3 M) {s : P2 × P2} (hs : s ∈ consec M) {x : P2} (hx : x ∈ M) (h1 : x ≠ s.1) (h2 : x ≠ s.2) : 0 < crossP s.1 s.2 x := by
  obtain ⟨U, V, rfl⟩ := mem_consec hs
  rw [List.mem_append] at hx
  rcases hx with hx | hx
  · have := h x s.1 s.2 (by
      have h3 : [x].Sublist U := List.singleton_sublist.2 hx
      have h4 : [s.1, s.2].Sublist (s.1 :: s.2 :: V) := by simp
      exact h3.append h4)
    rw [← cross_cyc x s.1 s.2] at this
    exact this
  · rcases List.mem_cons.1 hx with hx | hx
    · exact absurd hx h1
    · rcases List.mem_cons.1 hx with hx | hx
      · exact absurd hx h2
      · refine h s.1 s.2 x ?_
        have h3 : [x].Sublist V := List.singleton_sublist.2 hx
        have h4 : [s.1, s.2, x].Sublist (s.1 :: s.2 :: V) := by simpa using h3
        exact h4.trans (List.sublist_append_right U _)
theorem turn_nonneg {M : List P2} (h : T3 M) {s : P2 × P2} (hs : s ∈ consec M) {x : P2} (hx : x ∈ M) : 0 ≤ crossP s.1 s.2 x := by
  by_cases h1 : x = s.1
  · rw [h1]
    have : crossP s.1 s.2 s.1 = 0 := by simp only [cross_eq]; grind
    omega
  · by_cases h2 : x = s.2
    · rw [h2, cross_same]; exact Int.le_refl _
    · exact Int.le_of_lt (turn_all h hs hx h1 h2)
theorem consec_ord {r : P2 → P2 → Bool} {M : List P2} (h : M.Pairwise (fun a b => r a b = true)) {s : P2 × P2} (hs : s ∈ consec M) : r s.1 s.2 = true := by
  obtain ⟨U, V, rfl⟩ := mem_consec hs
  have := (List.pairwise_append.1 h).2.1
  exact (List.pairwise_cons.1 this).1 s.2 (by simp)
end Go.Proofs.Ytplccidmedkfaaa
