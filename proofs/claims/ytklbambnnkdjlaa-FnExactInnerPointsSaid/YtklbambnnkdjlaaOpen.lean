/-
  Plain geometry: how often a ring goes round the points of its sides.
-/
import Derived.Test.YtklbambnnkdjlaaTurns
import Derived.Test.YtklbambnnkdjlaaCyc
namespace Go.Proofs.Ytklbambnnkdjlaa

theorem Apart.not_on {a b u v x : Pt} (h : Apart a b u v) (hab : a ≠ b) (huv : u ≠ v) (h1 : onP a b x = true) (h2 : onP u v x = true) : False := by
  obtain ⟨s, t, k⟩ := on_wt h1 hab
  obtain ⟨p, q, l⟩ := on_wt h2 huv
  refine h ((p + q) * s) ((p + q) * t) ((s + t) * p) ((s + t) * q) (Int.mul_nonneg (by have := l.pq; omega) k.p0) (Int.mul_nonneg (by have := l.pq; omega) k.q0) (Int.mul_nonneg (by have := k.pq; omega) l.p0) (Int.mul_nonneg (by have := k.pq; omega) l.q0) ?_ (by grind) ⟨?_, ?_⟩
  · rw [← Int.mul_add]; exact Int.mul_pos l.pq k.pq
  · have e1 := k.e1; have e2 := l.e1; grind
  · have e1 := k.e2; have e2 := l.e2; grind
theorem Apart.sub {a b u v x : Pt} (h : Apart a b u v) (hab : a ≠ b) (h1 : onP a b x = true) : Apart x b u v := fun s t p q hs ht hp hq h5 h6 ⟨e1, e2⟩ => by
  obtain ⟨c, d, k⟩ := on_wt h1 hab
  have kp := k.pq
  have x1 := k.e1
  have x2 := k.e2
  refine h (s * c) (s * d + t * (c + d)) ((c + d) * p) ((c + d) * q) (Int.mul_nonneg hs k.p0) (Int.add_nonneg (Int.mul_nonneg hs k.q0) (Int.mul_nonneg ht (by omega))) (Int.mul_nonneg (by omega) hp) (Int.mul_nonneg (by omega) hq) ?_ (by grind) ⟨by grind, by grind⟩
  rw [show s * c + (s * d + t * (c + d)) = (s + t) * (c + d) by grind]
  exact Int.mul_pos h5 kp
/-- Only the place of a above or below b, the side of c, and the place of c. -/
theorem mu_eq (a b c : Pt) : mu a b c = if b.2 < a.2 then (if crossP a b c < 0 ∧ b.2 ≤ c.2 then 1 else 0) else (if 0 < crossP a b c ∧ c.2 < b.2 then -1 else 0) := by
  unfold mu rS wS
  rw [cross_rot]
  generalize crossP a b c = x
  split <;> split <;> (try split) <;> (try split) <;> (try split) <;> omega
theorem wt_cross {a b c x : Pt} {p q : Int} (h : Wt a b x p q) : (p + q) * crossP x b c = p * crossP a b c := by
  have e1 := h.e1; have e2 := h.e2
  unfold crossP crossI
  grind
theorem pos_mulR {m x : Int} (hm : 0 < m) (h : 0 < m * x) : 0 < x := by
  rcases Int.lt_or_le 0 x with h1 | h1
  · exact h1
  · have := Int.mul_nonneg (a := m) (b := -x) (by omega) (by omega)
    rw [Int.mul_neg] at this
    omega
theorem sign_same {m n x y : Int} (hm : 0 < m) (hn : 0 < n) (h : m * x = n * y) : (0 < x ↔ 0 < y) ∧ (x < 0 ↔ y < 0) := by
  refine ⟨⟨fun k => ?_, fun k => ?_⟩, ⟨fun k => ?_, fun k => ?_⟩⟩
  · have := Int.mul_pos hm k; rw [h] at this; exact pos_mulR hn this
  · have := Int.mul_pos hn k; rw [← h] at this; exact pos_mulR hm this
  · have := Int.mul_pos hm (b := -x) (by omega)
    rw [show m * -x = n * -y by rw [Int.mul_neg, Int.mul_neg, h]] at this
    have := pos_mulR hn this; omega
  · have := Int.mul_pos hn (b := -y) (by omega)
    rw [show n * -y = m * -x by rw [Int.mul_neg, Int.mul_neg, h]] at this
    have := pos_mulR hm this; omega
theorem wt_order {a b x : Pt} {p q : Int} (h : Wt a b x p q) (hp : 0 < p) : (b.2 < a.2 ↔ b.2 < x.2) ∧ (a.2 < b.2 ↔ x.2 < b.2) ∧ (b.1 < a.1 ↔ b.1 < x.1) ∧ (a.1 < b.1 ↔ x.1 < b.1) := by
  have e1 : (p + q) * (x.1 - b.1) = p * (a.1 - b.1) := by have := h.e1; grind
  have e2 : (p + q) * (x.2 - b.2) = p * (a.2 - b.2) := by have := h.e2; grind
  have s1 := sign_same h.pq hp e1
  have s2 := sign_same h.pq hp e2
  omega
theorem mu_part {a b c x : Pt} (hab : a ≠ b) (h : onP a b x = true) (hx : x ≠ b) : mu x b c = mu a b c := by
  obtain ⟨p, q, k⟩ := on_wt h hab
  have hp := k.ne_c hx
  have o := wt_order k hp
  have s := sign_same k.pq hp (wt_cross (c := c) k)
  rw [mu_eq, mu_eq]
  generalize crossP x b c = y at *
  generalize crossP a b c = z at *
  split <;> split <;> (try split) <;> (try split) <;> omega
theorem rho_part {a b x : Pt} (hab : a ≠ b) (h : onP a b x = true) (hx : x ≠ b) : rho x b = rho a b := by
  obtain ⟨p, q, k⟩ := on_wt h hab
  have hp := k.ne_c hx
  have o := wt_order k hp
  unfold rho
  split <;> split <;> omega
theorem wt_diff {b c x : Pt} {d e : Int} (k : Wt b c x d e) : (d + e) * (x.1 - b.1) = e * (c.1 - b.1) ∧ (d + e) * (x.2 - b.2) = e * (c.2 - b.2) := by
  have e1 := k.e1
  have e2 := k.e2
  constructor <;> grind
theorem wt_mid {a b c : Pt} {i j : Int} (w : Wt a c b i j) : i * (b.1 - a.1) = j * (c.1 - b.1) ∧ i * (b.2 - a.2) = j * (c.2 - b.2) := by
  have e1 := w.e1
  have e2 := w.e2
  constructor <;> grind
theorem key1 {i j d e s p q u1 u2 u3 : Int} (k1 : i * u1 = j * u3) (k2 : (d + e) * u2 = e * u3) (k3 : s * u1 + p * u2 + q * u3 = 0) : (s * j * (d + e) + (p * e + q * (d + e)) * i) * u3 = 0 := by grind
theorem key2 {s t p q a b c x : Int} (h : s + t = p + q) (h1 : s * a + t * b = p * x + q * c) : s * (b - a) + p * (x - b) + q * (c - b) = 0 := by
  have : t = p + q - s := by omega
  subst this
  grind
/-- Two sides at a corner have nothing in common but the corner. -/
theorem apart_corner {a b c x : Pt} (hab : a ≠ b) (hbc : b ≠ c) (h : crossP a b c ≠ 0 ∨ onP a c b = true) (h1 : onP b c x = true) (hx : x ≠ b) : Apart a b x c := fun s t p q hs ht hp hq h5 h6 ⟨e1, e2⟩ => by
  obtain ⟨d, e, k⟩ := on_wt h1 hbc
  have he := k.ne_a hx
  have kq := k.pq
  have f0 : (d + e) * (p * crossP a b x + q * crossP a b c) = 0 := by
    have : p * crossP a b x + q * crossP a b c = 0 := by
      unfold crossP crossI
      have g1 : p * x.1 = s * a.1 + t * b.1 - q * c.1 := by omega
      have g2 : p * x.2 = s * a.2 + t * b.2 - q * c.2 := by omega
      have : s = p + q - t := by omega
      subst this
      grind
    rw [this, Int.mul_zero]
  have f1 : (d + e) * crossP a b x = e * crossP a b c := by
    have x1 := k.e1; have x2 := k.e2
    unfold crossP crossI
    grind
  have f2 : (p * e + q * (d + e)) * crossP a b c = 0 := by grind
  have f3 : 0 < p * e + q * (d + e) := by
    have a1 := Int.mul_nonneg hp k.q0
    have a2 := Int.mul_nonneg hq (show 0 ≤ d + e by omega)
    rcases Int.lt_or_eq_of_le hp with h7 | h7
    · have := Int.mul_pos h7 he; omega
    · have := Int.mul_pos (show 0 < q by omega) kq; omega
  rcases h with h | h
  · rcases Int.mul_eq_zero.1 f2 with h7 | h7
    · omega
    · exact h h7
  · obtain ⟨i, j, w⟩ := on_wt h fun e => by
      subst e
      obtain ⟨_, h8, h9⟩ := (onP_iff _ _ _).1 h
      exact hab (Prod.ext (by unfold bt at h8; omega) (by unfold bt at h9; omega))
    have wi := w.ne_c hbc
    have wj := w.ne_a (Ne.symm hab)
    -- b - a and c - b point the same way
    obtain ⟨g1, g2⟩ := wt_mid w
    obtain ⟨g3, g4⟩ := wt_diff k
    have g5 := key2 h6 e1
    have g6 := key2 h6 e2
    have key : ∀ u1 u2 u3 : Int, i * u1 = j * u3 → (d + e) * u2 = e * u3 → s * u1 + p * u2 + q * u3 = 0 → u3 = 0 := fun u1 u2 u3 k1 k2 k3 => by
      have m1 := key1 k1 k2 k3
      have m2 := Int.mul_nonneg (Int.mul_nonneg hs (Int.le_of_lt wj)) (Int.le_of_lt kq)
      have m3 := Int.mul_pos f3 wi
      rcases Int.mul_eq_zero.1 m1 with h7 | h7
      · omega
      · exact h7
    exact hbc (Prod.ext (by have := key _ _ _ g1 g3 g5; omega) (by have := key _ _ _ g2 g4 g6; omega))
/-- How often the ring goes round a point inside a side. -/
theorem Ring.open0 {p : Nat → Pt} {n : Nat} (h : Ring p n) {z : Int} (hz : ∀ k, wN p n (p (k + 1)) = z + turnAt p k - upAt p (k + 1)) {x : Pt} (hx : onP (p 0) (p 1) x = true) (h0 : x ≠ p 0) (h1 : x ≠ p 1) : wN p n x = z - upAt p 0 := by
  obtain ⟨m, rfl⟩ : ∃ m, n = m + 1 + 1 + 1 := ⟨n - 3, by have := h.n3; omega⟩
  have per0 : p (m + 1 + 1 + 1) = p 0 := by have := h.per 0; rwa [Nat.zero_add] at this
  have n0 := h.ne 0
  have nl := h.ne (m + 1 + 1)
  have cl := h.corner (m + 1 + 1)
  have per1 : p (m + 1 + 1 + 2) = p 1 := by have := h.per 1; rwa [show 1 + (m + 1 + 1 + 1) = m + 1 + 1 + 2 by omega] at this
  rw [per0, per1] at cl
  rw [per0] at nl
  have cells : ∀ k, k < m + 1 → wS (p (k + 1 + 1)) (p (k + 1 + 1 + 1)) x - wS (p (k + 1 + 1)) (p (k + 1 + 1 + 1)) (p 1) = rS x (p 1) (p (k + 1 + 2)) - rS x (p 1) (p (k + 2)) := fun k hk => by
    rcases Nat.lt_or_ge k m with h7 | h7
    · exact cell ((h.apart 0 (k + 2) (by omega) (by omega)).sub n0 hx).swap
    · rw [show k = m by omega]
      have := apart_corner nl n0 cl hx h0
      have := cell this
      rw [show m + 1 + 2 = m + 1 + 1 + 1 by omega, show m + 2 = m + 1 + 1 by omega, per0]
      exact this
  have t1 := sumT_congr (m + 1) cells
  rw [sumT_sub, sumT_tele (fun k => rS x (p 1) (p (k + 2)))] at t1
  have z0 := hz 0
  have mr : mu x (p 1) (p 2) - mu' x (p 1) (p 2) = rho (p 1) (p 2) - rho x (p 1) := mu_rho h1 (h.ne 1) (by
    show crossP x (p 1) (p 2) ≠ 0 ∨ onP x (p 2) (p 1) = true
    rcases h.corner 0 with h7 | h7
    · left
      intro h8
      obtain ⟨i, j, w⟩ := on_wt hx n0
      have e1 := wt_cross (c := p 2) w
      rw [h8, Int.mul_zero] at e1
      rcases Int.mul_eq_zero.1 e1.symm with h9 | h9
      · have := w.ne_c h1; omega
      · exact h7 h9
    · right
      obtain ⟨k1, k2, k3⟩ := (onP_iff _ _ _).1 h7
      obtain ⟨i, j, w⟩ := on_wt hx n0
      have e1 := wt_cross (c := p 2) w
      obtain ⟨_, l2, l3⟩ := (onP_iff _ _ _).1 hx
      have e2 : crossP (p 0) (p 1) (p 2) = 0 := by
        have : crossP (p 0) (p 1) (p 2) = - crossP (p 0) (p 2) (p 1) := by unfold crossP crossI; grind
        simp only [Nat.zero_add] at k1
        omega
      rw [e2, Int.mul_zero] at e1
      have e3 : crossP x (p 1) (p 2) = 0 := by
        rcases Int.mul_eq_zero.1 e1 with h9 | h9
        · have := w.pq; omega
        · exact h9
      have e4 : crossP x (p 2) (p 1) = 0 := by
        have : crossP x (p 1) (p 2) = - crossP x (p 2) (p 1) := by unfold crossP crossI; grind
        omega
      refine (onP_iff _ _ _).2 ⟨e4, ?_, ?_⟩ <;> (unfold bt at *; simp only [Nat.zero_add] at *; omega))
  rw [mu_part n0 hx h1, rho_part n0 hx h1] at mr
  unfold wN turnAt upAt mu' at *
  rw [sumT_succ', sumT_succ'] at z0 ⊢
  simp only [Nat.zero_add] at t1 z0 ⊢
  rw [show m + 1 + 2 = m + 1 + 1 + 1 by omega, per0] at t1
  have w1 : wS (p 0) (p 1) x = 0 := by
    obtain ⟨k1, _, _⟩ := (onP_iff _ _ _).1 hx
    unfold wS
    rw [k1]
    simp
  have w2 : rS x (p 1) (p 0) = 0 := by
    obtain ⟨k1, _, _⟩ := (onP_iff _ _ _).1 hx
    have : crossP x (p 1) (p 0) = 0 := by
      obtain ⟨i, j, w⟩ := on_wt hx n0
      have e1 := wt_cross (c := p 0) w
      rw [cross_aa, Int.mul_zero] at e1
      rcases Int.mul_eq_zero.1 e1 with h9 | h9
      · have := w.pq; omega
      · exact h9
    unfold rS
    rw [this]
    simp
  rw [wS_b, show (1 : Nat) + 1 = 2 from rfl, wS_a (p 1) (p 2)] at z0
  rw [w1, show (1 : Nat) + 1 = 2 from rfl]
  simp only [Nat.zero_add] at mr
  omega
theorem Ring.open {p : Nat → Pt} {n : Nat} (h : Ring p n) {z : Int} (hz : ∀ k, wN p n (p (k + 1)) = z + turnAt p k - upAt p (k + 1)) {x : Pt} (k : Nat) (hx : onP (p k) (p (k + 1)) x = true) (h0 : x ≠ p k) (h1 : x ≠ p (k + 1)) : wN p n x = z - upAt p k := by
  have := (h.shift k).open0 (z := z) (x := x) (fun j => by
    rw [wN_shift h, turnAt_shift, upAt_shift, show j + 1 + k = j + k + 1 by omega]; exact hz _) (by simp only [Nat.zero_add]; rwa [Nat.add_comm 1 k]) (by simp only [Nat.zero_add]; exact h0) (by rwa [Nat.add_comm 1 k])
  rw [wN_shift h, upAt_shift, Nat.zero_add] at this
  exact this
end Go.Proofs.Ytklbambnnkdjlaa
