/-
  Plain geometry: how often a ring goes round the points off its sides.
-/
import Derived.Test.YtklbambnnkdjlaaOpen
namespace Go.Proofs.Ytklbambnnkdjlaa

theorem on_a (a b : Pt) : onP a b a = true := (onP_iff _ _ _).2 ⟨cross_aa a b, by unfold bt; omega, by unfold bt; omega⟩
theorem on_b (a b : Pt) : onP a b b = true := (onP_iff _ _ _).2 ⟨cross_abb a b, by unfold bt; omega, by unfold bt; omega⟩
theorem le_of_mulD {d x y : Int} (hd : 0 < d) (h : d * x ≤ d * y) : x ≤ y := Int.le_of_mul_le_mul_left h hd
theorem eq_of_mulD {d x y : Int} (hd : d ≠ 0) (h : d * x = d * y) : x = y := Int.eq_of_mul_eq_mul_left hd h
theorem mix_le {s t a b lo : Int} (hs : 0 ≤ s) (ht : 0 ≤ t) (ha : lo ≤ a) (hb : lo ≤ b) : (s + t) * lo ≤ s * a + t * b := by
  have h1 := Int.mul_le_mul_of_nonneg_left ha hs
  have h2 := Int.mul_le_mul_of_nonneg_left hb ht
  rw [Int.add_mul]; omega
theorem le_mix {s t a b hi : Int} (hs : 0 ≤ s) (ht : 0 ≤ t) (ha : a ≤ hi) (hb : b ≤ hi) : s * a + t * b ≤ (s + t) * hi := by
  have h1 := Int.mul_le_mul_of_nonneg_left ha hs
  have h2 := Int.mul_le_mul_of_nonneg_left hb ht
  rw [Int.add_mul]; omega
theorem hit_x {s t a1 a2 b1 b2 v2 hx : Int} (hab : a2 ≠ b2) (h1 : (b1 - a1) * (v2 - a2) - (b2 - a2) * (hx - a1) = 0) (h2 : s * a2 + t * b2 = (s + t) * v2) : (s + t) * hx = s * a1 + t * b1 := by
  refine eq_of_mulD (d := b2 - a2) (by omega) ?_
  grind
/-- Every side is at a lattice point where it is at the height of v. -/
def Fine (p : Nat → Pt) (v : Pt) : Prop := ∀ k, (p k).2 ≠ (p (k + 1)).2 → bt (p k).2 (p (k + 1)).2 v.2 → ∃ x, onP (p k) (p (k + 1)) (x, v.2) = true
theorem hit_apart {a b v : Pt} {x : Int} (hf : a.2 ≠ b.2 → bt a.2 b.2 v.2 → ∃ x, onP a b (x, v.2) = true) (hvx : v.1 < x) (hv : onP a b v = false) (hx : onP a b (x, v.2) = false)
    (hmin : ∀ y, v.1 < y → y < x → onP a b (y, v.2) = false) : Apart a b v (x, v.2) := fun s t p q hs ht hp hq h5 h6 ⟨e1, e2⟩ => by
  simp only at e1 e2
  rw [← Int.add_mul, ← h6] at e2
  by_cases hab : a.2 = b.2
  · have e3 : a.2 = v.2 := eq_of_mulD (d := s + t) (by omega) (by rw [← e2, ← hab, Int.add_mul])
    have on : ∀ y, bt a.1 b.1 y → onP a b (y, v.2) = true := fun y hy => by
      refine (onP_iff _ _ _).2 ⟨?_, hy, ?_⟩
      · unfold crossP crossI
        simp only
        rw [← hab, ← e3, Int.sub_self, Int.mul_zero, Int.zero_mul, Int.sub_zero]
      · unfold bt; simp only; omega
    have v1 : ¬ bt a.1 b.1 v.1 := fun hb => by have := on _ hb; rw [show (v.1, v.2) = v from rfl, hv] at this; cases this
    have x1 : ¬ bt a.1 b.1 x := fun hb => by have := on _ hb; rw [hx] at this; cases this
    have m1 : (p + q) * v.1 ≤ p * v.1 + q * x := mix_le hp hq (by omega) (by omega)
    have m2 : p * v.1 + q * x ≤ (p + q) * x := le_mix hp hq (by omega) (by omega)
    rw [← h6, ← e1] at m1 m2
    have m3 : (s + t) * min a.1 b.1 ≤ s * a.1 + t * b.1 := mix_le hs ht (by omega) (by omega)
    have m4 : s * a.1 + t * b.1 ≤ (s + t) * max a.1 b.1 := le_mix hs ht (by omega) (by omega)
    have l1 := le_of_mulD h5 (Int.le_trans m1 m4)
    have l2 := le_of_mulD h5 (Int.le_trans m3 m2)
    have hlo := hmin (min a.1 b.1)
    rw [on _ (by unfold bt; omega)] at hlo
    unfold bt at v1 x1
    by_cases k1 : v.1 < min a.1 b.1
    · by_cases k2 : min a.1 b.1 < x
      · cases hlo k1 k2
      · omega
    · omega
  · obtain ⟨y, hy⟩ := hf hab (by
      have m1 : (s + t) * min a.2 b.2 ≤ s * a.2 + t * b.2 := mix_le hs ht (by omega) (by omega)
      have m2 : s * a.2 + t * b.2 ≤ (s + t) * max a.2 b.2 := le_mix hs ht (by omega) (by omega)
      rw [e2] at m1 m2
      have l1 := le_of_mulD h5 m1
      have l2 := le_of_mulD h5 m2
      unfold bt; omega)
    obtain ⟨c1, c2, c3⟩ := (onP_iff _ _ _).1 hy
    have d1 := hit_x hab (by unfold crossP crossI at c1; exact c1) e2
    have m1 : (p + q) * v.1 ≤ p * v.1 + q * x := mix_le hp hq (by omega) (by omega)
    have m2 : p * v.1 + q * x ≤ (p + q) * x := le_mix hp hq (by omega) (by omega)
    simp only at d1
    rw [← h6, ← e1, ← d1] at m1 m2
    have l1 := le_of_mulD h5 m1
    have l2 := le_of_mulD h5 m2
    rcases Int.lt_or_eq_of_le l1 with l1 | l1
    · rcases Int.lt_or_eq_of_le l2 with l2 | l2
      · rw [hmin y l1 l2] at hy; cases hy
      · rw [l2, hx] at hy; cases hy
    · rw [← l1] at hy
      rw [show (v.1, v.2) = v from rfl, hv] at hy; cases hy
/-- A side that is crossed to the right of v is hit there. -/
theorem hit_of_w {a b v : Pt} (hf : a.2 ≠ b.2 → bt a.2 b.2 v.2 → ∃ x, onP a b (x, v.2) = true) (hw : wS a b v ≠ 0) : ∃ x, v.1 < x ∧ onP a b (x, v.2) = true := by
  have hd : ∀ x, crossP a b v = crossP a b (x, v.2) + (b.2 - a.2) * (x - v.1) := fun x => by unfold crossP crossI; simp only; grind
  unfold wS at hw
  by_cases k1 : a.2 ≤ v.2 ∧ v.2 < b.2 ∧ 0 < crossP a b v
  · obtain ⟨x, hx⟩ := hf (by omega) (by unfold bt; omega)
    refine ⟨x, ?_, hx⟩
    have e := hd x
    rw [((onP_iff _ _ _).1 hx).1] at e
    have := pos_mulR (m := b.2 - a.2) (x := x - v.1) (by omega) (by omega)
    omega
  · rw [if_neg k1] at hw
    by_cases k2 : b.2 ≤ v.2 ∧ v.2 < a.2 ∧ crossP a b v < 0
    · obtain ⟨x, hx⟩ := hf (by omega) (by unfold bt; omega)
      refine ⟨x, ?_, hx⟩
      have e := hd x
      rw [((onP_iff _ _ _).1 hx).1] at e
      have := pos_mulR (m := a.2 - b.2) (x := x - v.1) (by omega) (by rw [show (a.2 - b.2) * (x - v.1) = -((b.2 - a.2) * (x - v.1)) by grind]; omega)
      omega
    · rw [if_neg k2] at hw; exact absurd rfl hw
theorem rS_level {u v p : Pt} (h : u.2 = v.2) : rS u v p = 0 := by
  unfold rS
  rw [if_neg (by omega), if_neg (by omega)]
theorem w_level {a b u v : Pt} (h : Apart a b u v) (hl : u.2 = v.2) : wS a b u = wS a b v := by
  have := cell h
  rw [rS_level hl, rS_level hl] at this
  omega

/-! ### A side's points lie on no other side -/
theorem Apart.on_no {a b u v x : Pt} (h : Apart a b u v) (hab : a ≠ b) (huv : u ≠ v) (h1 : onP a b x = true) : onP u v x = false := by
  cases h2 : onP u v x
  · rfl
  · exact (h.not_on hab huv h1 h2).elim
theorem Ring.on1 {p : Nat → Pt} {n : Nat} (h : Ring p n) {j : Nat} (h2 : 2 ≤ j) (hj : j < n) : onP (p j) (p (j + 1)) (p 1) = false := by
  rcases Nat.lt_or_ge (j + 1) n with h3 | h3
  · exact (h.apart 0 j (by omega) (by omega)).on_no (h.ne 0) (h.ne j) (on_b _ _)
  · rcases Nat.lt_or_ge 3 n with h4 | h4
    · exact (h.apart 1 j (by omega) (by omega)).on_no (h.ne 1) (h.ne j) (on_a _ _)
    · have n3 : n = 3 := by have := h.n3; omega
      subst n3
      have e : j = 2 := by omega
      subst e
      have per0 : p 3 = p 0 := h.per 0
      have c := h.corner 1
      have nn := h.ne 1
      have n2 := h.ne 2
      show onP (p 2) (p 3) (p 1) = false
      cases h5 : onP (p 2) (p 3) (p 1)
      · rfl
      · exfalso
        rw [show 1 + 1 = 2 from rfl, show 1 + 2 = 3 from rfl] at c
        obtain ⟨k1, k2, k3⟩ := (onP_iff _ _ _).1 h5
        rcases c with c | c
        · exact c (by rw [← cross_rot]; exact k1)
        · obtain ⟨l1, l2, l3⟩ := (onP_iff _ _ _).1 c
          exact nn (Prod.ext (by unfold bt at *; simp only [show 1 + 1 = 2 from rfl] at *; omega) (by unfold bt at *; simp only [show 1 + 1 = 2 from rfl] at *; omega))
theorem Ring.on0 {p : Nat → Pt} {n : Nat} (h : Ring p n) {x : Pt} (hx : onP (p 0) (p 1) x = true) (h0 : x ≠ p 0) (h1 : x ≠ p 1) {j : Nat} (h2 : 1 ≤ j) (hj : j < n) : onP (p j) (p (j + 1)) x = false := by
  rcases Nat.lt_or_ge 1 j with h3 | h3
  · rcases Nat.lt_or_ge (j + 1) n with h4 | h4
    · exact (h.apart 0 j (by omega) (by omega)).on_no (h.ne 0) (h.ne j) hx
    · have e : j = n - 1 := by omega
      have per0 : p (j + 1) = p 0 := by rw [show j + 1 = 0 + n by omega]; exact h.per 0
      have per1 : p (j + 2) = p 1 := by rw [show j + 2 = 1 + n by omega]; exact h.per 1
      have c := h.corner j
      have nn := h.ne j
      rw [per0] at nn ⊢
      rw [per0, per1] at c
      exact (apart_corner nn (h.ne 0) c hx h0).swap.on_no h1 nn (on_a _ _)
  · rw [show j = 1 by omega]
    -- turned round
    have c := h.corner 0
    have n0 := h.ne 0
    have n1 := h.ne 1
    have c' : crossP (p 2) (p 1) (p 0) ≠ 0 ∨ onP (p 2) (p 0) (p 1) = true := by
      rcases c with c | c
      · left
        have : crossP (p 2) (p 1) (p 0) = - crossP (p 0) (p 1) (p 2) := by unfold crossP crossI; grind
        simp only [Nat.zero_add] at c
        omega
      · right
        rw [onP_flip]; exact c
    have := apart_corner (Ne.symm n1) (Ne.symm n0) c' (by rw [onP_flip]; exact hx) h1
    have := this.swap.on_no h0 (Ne.symm n1) (on_a _ _)
    rw [onP_flip] at this
    exact this

/-! ### Looking to the right -/
theorem least {P : Nat → Prop} : ∀ n, P n → ∃ k, P k ∧ ∀ j, j < k → ¬ P j := fun n => by
  induction n using Nat.strongRecOn with
  | ind n ih =>
    intro hn
    by_cases h : ∃ j, j < n ∧ P j
    · obtain ⟨j, h1, h2⟩ := h
      exact ih j h1 h2
    · exact ⟨n, hn, fun j hj hp => h ⟨j, hj, hp⟩⟩
theorem Ring.open_off {p : Nat → Pt} {n : Nat} (h : Ring p n) {z : Int} (hz : ∀ k, wN p n (p (k + 1)) = z + turnAt p k - upAt p (k + 1)) {v : Pt} {x : Int} (hx : onP (p 0) (p 1) (x, v.2) = true) (h0 : (x, v.2) ≠ p 0) (h1 : (x, v.2) ≠ p 1)
    (ha : ∀ k, onP (p k) (p (k + 1)) (x, v.2) = false → Apart (p k) (p (k + 1)) v (x, v.2)) : wN p n v = z ∨ wN p n v = z - 1 := by
  have w := h.open0 hz hx h0 h1
  obtain ⟨m, rfl⟩ : ∃ m, n = m + 1 := ⟨n - 1, by have := h.n3; omega⟩
  unfold wN at w ⊢
  rw [sumT_succ'] at w ⊢
  have e := sumT_congr m fun k hk => w_level (ha (k + 1) (h.on0 hx h0 h1 (j := k + 1) (by omega) (by omega))) rfl
  have w1 : wS (p 0) (p 1) (x, v.2) = 0 := by
    obtain ⟨k1, _, _⟩ := (onP_iff _ _ _).1 hx
    unfold wS
    rw [k1]
    simp
  simp only [Nat.zero_add] at *
  rw [w1] at w
  rw [e]
  unfold upAt rho at w
  simp only [Nat.zero_add] at w
  generalize sumT (fun k => wS (p (k + 1)) (p (k + 1 + 1)) (x, v.2)) m = T at *
  unfold wS
  generalize crossP (p 0) (p 1) v = y
  split at w <;> split <;> (try split) <;> omega
theorem Ring.corner_off {p : Nat → Pt} {n : Nat} (h : Ring p n) {z : Int} (hz : ∀ k, wN p n (p (k + 1)) = z + turnAt p k - upAt p (k + 1)) {v : Pt} (h2 : v.2 = (p 1).2) (hv : v.1 < (p 1).1)
    (hw : ¬ ((p 2).2 = (p 1).2 ∧ (p 2).1 < (p 1).1))
    (ha : ∀ k, onP (p k) (p (k + 1)) (p 1) = false → Apart (p k) (p (k + 1)) v (p 1)) : wN p n v = z ∨ wN p n v = z - 1 := by
  have w := hz 0
  obtain ⟨m, rfl⟩ : ∃ m, n = m + 1 + 1 := ⟨n - 2, by have := h.n3; omega⟩
  unfold wN at w ⊢
  rw [sumT_succ', sumT_succ'] at w ⊢
  have e := sumT_congr m fun k hk => w_level (ha (k + 1 + 1) (h.on1 (j := k + 1 + 1) (by omega) (by omega))) h2
  simp only [Nat.zero_add, show (1 : Nat) + 1 = 2 from rfl] at *
  rw [wS_b, wS_a] at w
  rw [e]
  have c0 : crossP (p 0) (p 1) v = ((p 1).2 - (p 0).2) * ((p 1).1 - v.1) := level_cross h2.symm
  have c1 : crossP (p 1) (p 2) v = ((p 2).2 - (p 1).2) * ((p 1).1 - v.1) := by
    rw [crossP_neg (p 2) (p 1) v, level_cross h2.symm]; grind
  have s0 := mul_signs ((p 1).2 - (p 0).2) ((p 1).1 - v.1)
  have s1 := mul_signs ((p 2).2 - (p 1).2) ((p 1).1 - v.1)
  rw [← c0] at s0
  rw [← c1] at s1
  have w0 : wS (p 0) (p 1) v = if (p 1).2 < (p 0).2 then -1 else 0 := by
    unfold wS
    rw [if_neg (by omega)]
    split <;> split <;> (first | rfl | omega)
  have w1 : wS (p 1) (p 2) v = if (p 1).2 < (p 2).2 then 1 else 0 := by
    unfold wS
    split <;> split <;> (try split) <;> (first | rfl | omega)
  rw [w0, w1]
  clear s0 s1 c0 c1 w0 w1 e hz ha
  unfold turnAt upAt rho at w
  rw [mu_eq] at w
  simp only [Nat.zero_add, show (1 : Nat) + 1 = 2 from rfl] at w
  generalize crossP (p 0) (p 1) (p 2) = y at *
  split at w <;> split at w <;> split at w <;> split <;> split <;> omega
/-- How often a ring goes round a point off it. -/
theorem Ring.off {p : Nat → Pt} {n : Nat} (h : Ring p n) {z : Int} (hz : ∀ k, wN p n (p (k + 1)) = z + turnAt p k - upAt p (k + 1)) {v : Pt} (hf : Fine p v) (hv : ∀ k, onP (p k) (p (k + 1)) v = false) : wN p n v = 0 ∨ wN p n v = z ∨ wN p n v = z - 1 := by
  by_cases hh : ∃ x, v.1 < x ∧ ∃ k, onP (p k) (p (k + 1)) (x, v.2) = true
  · right
    obtain ⟨x, hx1, hx2⟩ := hh
    obtain ⟨d, ⟨⟨k, hk⟩, hd0⟩, hmin⟩ := least (P := fun d => (∃ k, onP (p k) (p (k + 1)) (v.1 + (d : Int), v.2) = true) ∧ 0 < d) (x - v.1).toNat ⟨by rw [show v.1 + ((x - v.1).toNat : Int) = x by omega]; exact hx2, by omega⟩
    clear hx1 hx2
    generalize hX : v.1 + (d : Int) = X at *
    have hvx : v.1 < X := by omega
    have hm : ∀ y, v.1 < y → y < X → ∀ k, onP (p k) (p (k + 1)) (y, v.2) = false := fun y h1 h2 k => by
      cases h3 : onP (p k) (p (k + 1)) (y, v.2)
      · rfl
      · exact (hmin (y - v.1).toNat (by omega) ⟨⟨k, by rw [show v.1 + ((y - v.1).toNat : Int) = y by omega]; exact h3⟩, by omega⟩).elim
    have ha : ∀ k, onP (p k) (p (k + 1)) (X, v.2) = false → Apart (p k) (p (k + 1)) v (X, v.2) := fun k hx => hit_apart (hf k) hvx (hv k) hx fun y h1 h2 => hm y h1 h2 k
    have corner : ∀ t, p (1 + t) = (X, v.2) → wN p n v = z ∨ wN p n v = z - 1 := fun t ht => by
      have e := (h.shift t).corner_off (z := z) (v := v) (fun j => by
        rw [wN_shift h, turnAt_shift, upAt_shift, show j + 1 + t = j + t + 1 by omega]; exact hz _) (by simp only [ht]) (by simp only [ht]; exact hvx) (by
          simp only [ht]
          rintro ⟨g1, g2⟩
          have g3 := hv (1 + t)
          have g4 := hm (p (2 + t)).1
          rw [show 1 + t + 1 = 2 + t by omega, ht] at g3
          by_cases g5 : v.1 < (p (2 + t)).1
          · have := g4 g5 g2 (1 + t)
            rw [show 1 + t + 1 = 2 + t by omega, show ((p (2 + t)).1, v.2) = p (2 + t) from Prod.ext rfl g1.symm, on_b] at this
            cases this
          · have : onP (X, v.2) (p (2 + t)) v = true := by
              refine (onP_iff _ _ _).2 ⟨?_, by unfold bt; simp only; omega, by unfold bt; simp only; omega⟩
              unfold crossP crossI
              simp only
              rw [g1, Int.sub_self, Int.mul_zero, Int.zero_mul, Int.sub_zero]
            rw [g3] at this
            cases this) (fun k => by
          simp only [ht]
          rw [show k + 1 + t = k + t + 1 by omega]
          exact ha (k + t))
      rwa [wN_shift h] at e
    by_cases k0 : (X, v.2) = p k
    · refine corner (k + n - 1) ?_
      rw [show 1 + (k + n - 1) = k + n by have := h.n3; omega, h.per]; exact k0.symm
    · by_cases k1 : (X, v.2) = p (k + 1)
      · exact corner k (by rw [Nat.add_comm 1 k]; exact k1.symm)
      · have e := (h.shift k).open_off (z := z) (v := v) (x := X) (fun j => by
          rw [wN_shift h, turnAt_shift, upAt_shift, show j + 1 + k = j + k + 1 by omega]; exact hz _) (by simp only [Nat.zero_add]; rwa [Nat.add_comm 1 k]) (by simp only [Nat.zero_add]; exact k0) (by rwa [Nat.add_comm 1 k]) (fun j => by
          rw [show j + 1 + k = j + k + 1 by omega]; exact ha (j + k))
        rwa [wN_shift h] at e
  · left
    refine sumT_zero _ _ fun k _ => ?_
    by_cases hw : wS (p k) (p (k + 1)) v = 0
    · exact hw
    · obtain ⟨x, h1, h2⟩ := hit_of_w (hf k) hw
      exact (hh ⟨x, h1, k, h2⟩).elim
end Go.Proofs.Ytklbambnnkdjlaa
