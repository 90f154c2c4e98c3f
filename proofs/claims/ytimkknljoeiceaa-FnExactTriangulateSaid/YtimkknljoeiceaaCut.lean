/-
  Plain geometry: cutting off an ear keeps the polygon and its diagonals.
-/
import Derived.Test.YtimkknljoeiceaaPickAll
import Derived.Test.YtimkknljoeiceaaDiag
/-
  Plain geometry: winding numbers stay along a way off the rim; they are 0 beyond a line that has the whole chain on one side.
-/
namespace Go.Proofs.Ytimkknljoeiceaa

theorem wN_move {p : Nat → Pt} {n : Nat} (hp : p n = p 0) {u v : Pt} (h : ∀ k, k < n → Apart (p k) (p (k + 1)) u v) : wN p n u = wN p n v := by
  have e1 := sumT_sub (fun k => wS (p k) (p (k + 1)) u) (fun k => wS (p k) (p (k + 1)) v) n
  have e2 : sumT (fun k => wS (p k) (p (k + 1)) u - wS (p k) (p (k + 1)) v) n = sumT (fun k => rS u v (p (k + 1)) - rS u v (p k)) n := sumT_congr n fun k hk => cell (h k hk)
  have e3 := sumT_tele (fun k => rS u v (p k)) n
  simp only [hp] at e3
  show sumT _ n = sumT _ n
  omega
theorem wS_out {a b v : Pt} (h : (a.2 ≤ v.2 ∧ b.2 ≤ v.2) ∨ (v.2 < a.2 ∧ v.2 < b.2)) : wS a b v = 0 := by
  unfold wS
  rw [if_neg (by omega), if_neg (by omega)]
theorem wN_level {p : Nat → Pt} {n : Nat} {v : Pt} (h : (∀ k, k ≤ n → (p k).2 ≤ v.2) ∨ ∀ k, k ≤ n → v.2 < (p k).2) : wN p n v = 0 :=
  sumT_zero _ n fun k hk => wS_out (h.elim (fun q => .inl ⟨q k (by omega), q (k + 1) (by omega)⟩) fun q => .inr ⟨q k (by omega), q (k + 1) (by omega)⟩)
theorem wS_right {a b v : Pt} (ha : a.1 ≤ v.1) (hb : b.1 ≤ v.1) : wS a b v = 0 := by
  have h1 : ∀ c d : Pt, c.1 ≤ v.1 → d.1 ≤ v.1 → ¬ (c.2 ≤ v.2 ∧ v.2 < d.2 ∧ 0 < crossP c d v) := fun c d hc hd q => cross_right (u := v.1) (y := v.2) q.1 q.2.1 hc hd q.2.2
  unfold wS
  rw [if_neg (h1 a b ha hb), if_neg]
  intro q
  have e := crossP_neg b a v
  exact h1 b a hb ha ⟨q.1, q.2.1, by omega⟩
theorem wS_left {a b v : Pt} (ha : v.1 < a.1) (hb : v.1 < b.1) : wS a b v = (if v.2 < b.2 then 1 else 0) - (if v.2 < a.2 then 1 else 0) := by
  have h1 : ∀ c d : Pt, v.1 < c.1 → v.1 < d.1 → c.2 ≤ v.2 → v.2 < d.2 → 0 < crossP c d v := fun c d hc hd k1 k2 => cross_left (u := v.1) (y := v.2) k1 k2 hc hd
  have e := crossP_neg b a v
  unfold wS
  by_cases k1 : v.2 < b.2
  · by_cases k2 : v.2 < a.2
    · rw [if_neg (by omega), if_neg (by omega), if_pos k1, if_pos k2]; rfl
    · have q := h1 a b ha hb (by omega) k1
      rw [if_pos ⟨by omega, k1, q⟩, if_pos k1, if_neg k2]; rfl
  · by_cases k2 : v.2 < a.2
    · have q := h1 b a hb ha (by omega) k2
      rw [if_neg (by omega), if_pos ⟨by omega, k2, by omega⟩, if_neg k1, if_pos k2]; rfl
    · rw [if_neg (by omega), if_neg (by omega), if_neg k1, if_neg k2]; rfl
theorem wN_right {p : Nat → Pt} {n : Nat} {v : Pt} (h : ∀ k, k ≤ n → (p k).1 ≤ v.1) : wN p n v = 0 := sumT_zero _ n fun k hk => wS_right (h k (by omega)) (h (k + 1) (by omega))
theorem wN_left {p : Nat → Pt} {n : Nat} {v : Pt} (hp : p n = p 0) (h : ∀ k, k ≤ n → v.1 < (p k).1) : wN p n v = 0 := by
  have e2 : wN p n v = sumT (fun k => (if v.2 < (p (k + 1)).2 then (1 : Int) else 0) - (if v.2 < (p k).2 then 1 else 0)) n := sumT_congr n fun k hk => wS_left (h k (by omega)) (h (k + 1) (by omega))
  have e3 := sumT_tele (fun k => if v.2 < (p k).2 then (1 : Int) else 0) n
  simp only [hp] at e3
  omega
theorem bounded (p : Nat → Pt) : ∀ n, ∃ R : Int, 0 ≤ R ∧ ∀ k, k ≤ n → -R ≤ (p k).1 ∧ (p k).1 ≤ R ∧ -R ≤ (p k).2 ∧ (p k).2 ≤ R
  | 0 => ⟨((p 0).1.natAbs : Int) + (p 0).2.natAbs, by omega, fun k hk => by
    obtain rfl : k = 0 := by omega
    omega⟩
  | n + 1 => by
    obtain ⟨R, h0, hR⟩ := bounded p n
    refine ⟨R + (p (n + 1)).1.natAbs + (p (n + 1)).2.natAbs, by omega, fun k hk => ?_⟩
    by_cases e : k = n + 1
    · subst e; omega
    · have := hR k (by omega); omega
/-- The cross product along a line is linear. -/
theorem cross_two {a b c d e f : Pt} {s t p q : Int} (h6 : s + t = p + q) (e1 : s * a.1 + t * b.1 = p * c.1 + q * d.1) (e2 : s * a.2 + t * b.2 = p * c.2 + q * d.2) : s * crossP e f a + t * crossP e f b = p * crossP e f c + q * crossP e f d := by
  unfold crossP crossI
  have : p = s + t - q := by omega
  subst this
  grind
theorem comb_on {a b x : Pt} {p q m : Int} (hp : 0 ≤ p) (hq : 0 ≤ q) (hm : 0 < m) (h : m = p + q) (e1 : m * x.1 = p * a.1 + q * b.1) (e2 : m * x.2 = p * a.2 + q * b.2) : onP a b x = true := by
  subst h
  refine (onP_iff _ _ _).2 ⟨?_, ?_, ?_⟩
  · have e : (p + q) * crossP a b x = 0 := by
      unfold crossP crossI
      grind
    rcases Int.mul_eq_zero.1 e with k | k
    · omega
    · exact k
  · exact frac_bt (m := p + q) (q := q) hm hq (by omega) (by grind)
  · exact frac_bt (m := p + q) (q := q) hm hq (by omega) (by grind)
/-- Straight away from a line on whose other side the chain lies. -/
theorem away_apart {a b e f x y : Pt} (ha : 0 ≤ crossP e f a) (hb : 0 ≤ crossP e f b) (hx : crossP e f x ≤ 0) (hy : crossP e f y < 0) (ho : onP a b x = false) : Apart a b x y := fun s t p q hs ht hp hq h5 h6 ⟨e1, e2⟩ => by
  have k := cross_two (e := e) (f := f) h6 e1 e2
  have k1 := Int.mul_nonneg hs ha
  have k2 := Int.mul_nonneg ht hb
  have k3 := Int.mul_nonneg hp (show 0 ≤ -crossP e f x by omega)
  rw [Int.mul_neg] at k3
  have q0 : q = 0 := by
    by_cases h : q = 0
    · exact h
    · have := Int.mul_pos (show 0 < q by omega) (show 0 < -crossP e f y by omega)
      rw [Int.mul_neg] at this
      omega
  subst q0
  rw [Int.zero_mul, Int.add_zero] at e1 e2
  rw [comb_on hs ht (by omega : 0 < p) (by omega) e1.symm e2.symm] at ho
  cases ho
theorem half_plane {p : Nat → Pt} {n : Nat} (hp : p n = p 0) {e f x : Pt} (hef : e ≠ f) (h : ∀ k, k ≤ n → 0 ≤ crossP e f (p k)) (hx : crossP e f x ≤ 0) (ho : ∀ k, k < n → onP (p k) (p (k + 1)) x = false) : wN p n x = 0 := by
  obtain ⟨R, h0, hR⟩ := bounded p n
  obtain ⟨K, hK⟩ : ∃ K : Int, K = R + x.1.natAbs + x.2.natAbs + 1 := ⟨_, rfl⟩
  obtain ⟨d1, hd1⟩ : ∃ d, d = f.1 - e.1 := ⟨_, rfl⟩
  obtain ⟨d2, hd2⟩ : ∃ d, d = f.2 - e.2 := ⟨_, rfl⟩
  have hc : crossP e f (x.1 + K * d2, x.2 - K * d1) = crossP e f x - K * (d1 * d1 + d2 * d2) := by
    unfold crossP crossI
    simp only
    rw [hd1, hd2]; grind
  have hsq : 0 < d1 * d1 + d2 * d2 := by
    by_cases k1 : d1 = 0
    · have k2 : d2 ≠ 0 := fun k2 => hef (Prod.ext (by omega) (by omega))
      subst k1
      have : 0 < d2 * d2 := by
        rcases Int.lt_or_gt_of_ne k2 with q | q
        · exact Int.mul_pos_of_neg_of_neg q q
        · exact Int.mul_pos q q
      omega
    · have q1 : 0 < d1 * d1 := by
        rcases Int.lt_or_gt_of_ne k1 with q | q
        · exact Int.mul_pos_of_neg_of_neg q q
        · exact Int.mul_pos q q
      have q2 : 0 ≤ d2 * d2 := by
        rcases Int.le_total 0 d2 with q | q
        · exact Int.mul_nonneg q q
        · exact Int.mul_nonneg_of_nonpos_of_nonpos q q
      omega
  have hy : crossP e f (x.1 + K * d2, x.2 - K * d1) < 0 := by
    have := Int.mul_pos (show 0 < K by omega) hsq
    omega
  rw [wN_move (v := (x.1 + K * d2, x.2 - K * d1)) hp fun k hk => away_apart (h k (by omega)) (h (k + 1) (by omega)) hx hy (ho k hk)]
  have big : ∀ d : Int, 0 < d → K ≤ K * d := fun d hd => by
    have := Int.mul_le_mul_of_nonneg_left (show 1 ≤ d by omega) (show 0 ≤ K by omega)
    omega
  rcases Int.lt_trichotomy d1 0 with k | k | k
  · have q := big (-d1) (by omega)
    rw [Int.mul_neg] at q
    exact wN_level (.inl fun j hj => by have := hR j hj; show _ ≤ x.2 - K * d1; omega)
  · subst k
    rcases Int.lt_trichotomy d2 0 with k | k | k
    · have q := big (-d2) (by omega)
      rw [Int.mul_neg] at q
      exact wN_left hp fun j hj => by have := hR j hj; show x.1 + K * d2 < _; omega
    · subst k; omega
    · have q := big d2 k
      exact wN_right fun j hj => by have := hR j hj; show _ ≤ x.1 + K * d2; omega
  · have q := big d1 k
    exact wN_level (.inr fun j hj => by have := hR j hj; show x.2 - K * d1 < _; omega)
end Go.Proofs.Ytimkknljoeiceaa

/-
  Plain geometry: segments that meet the sides of a chain in their ends at most; triangles as rings; crossing segments.
-/
namespace Go.Proofs.Ytimkknljoeiceaa

def mixP (s : Int) (a : Pt) (t : Int) (b : Pt) : Pt := (s * a.1 + t * b.1, s * a.2 + t * b.2)
/-- The segments a b and u v meet in ends of u v at most. -/
def Free (a b u v : Pt) : Prop := ∀ s t p q : Int, 0 ≤ s → 0 ≤ t → 0 ≤ p → 0 ≤ q → 0 < s + t → s + t = p + q → s * a.1 + t * b.1 = p * u.1 + q * v.1 → s * a.2 + t * b.2 = p * u.2 + q * v.2 → p = 0 ∨ q = 0
/-- The segments a b and c d meet in c at most. -/
def Only (a b c d : Pt) : Prop := ∀ s t p q : Int, 0 ≤ s → 0 ≤ t → 0 ≤ p → 0 ≤ q → 0 < s + t → s + t = p + q → s * a.1 + t * b.1 = p * c.1 + q * d.1 → s * a.2 + t * b.2 = p * c.2 + q * d.2 → q = 0
theorem sub_apart {a b u v : Pt} (P : Int → Int → Prop) (h : ∀ s t p q : Int, 0 ≤ s → 0 ≤ t → 0 ≤ p → 0 ≤ q → 0 < s + t → s + t = p + q → s * a.1 + t * b.1 = p * u.1 + q * v.1 → s * a.2 + t * b.2 = p * u.2 + q * v.2 → ¬ P p q)
    {p1 q1 p2 q2 m : Int} (hp1 : 0 ≤ p1) (hq1 : 0 ≤ q1) (hp2 : 0 ≤ p2) (hq2 : 0 ≤ q2) (hm : 0 < m) (h1 : p1 + q1 = m) (h2 : p2 + q2 = m)
    (hP : ∀ x y : Int, 0 ≤ x → 0 ≤ y → 0 < x + y → P (x * p1 + y * p2) (x * q1 + y * q2)) : Apart (scP m a) (scP m b) (mixP p1 u q1 v) (mixP p2 u q2 v) := fun s t x y hs ht hx hy h5 h6 ⟨e1, e2⟩ => by
  simp only [scP, mixP] at e1 e2
  have n1 := Int.mul_nonneg hs (Int.le_of_lt hm)
  have n2 := Int.mul_nonneg ht (Int.le_of_lt hm)
  have n3 := Int.mul_nonneg hx hp1
  have n4 := Int.mul_nonneg hy hp2
  have n5 := Int.mul_nonneg hx hq1
  have n6 := Int.mul_nonneg hy hq2
  have n7 := Int.mul_pos h5 hm
  refine h (s * m) (t * m) (x * p1 + y * p2) (x * q1 + y * q2) n1 n2 (by omega) (by omega) (by rw [← Int.add_mul]; exact n7) ?_ (by grind) (by grind) (hP x y hx hy (by omega))
  have : s * m + t * m = x * m + y * m := by rw [← Int.add_mul, ← Int.add_mul, h6]
  rw [this, ← h1]
  have e : x * (p1 + q1) + y * (p1 + q1) = x * (p1 + q1) + y * (p2 + q2) := by rw [h1, h2]
  rw [e]; grind
def wM (r : Nat → Pt) (n : Nat) (u v : Pt) : Int := wN (fun k => scP 2 (r k)) n (mixP 1 u 1 v)
theorem sc_sc (K J : Int) (a : Pt) : scP K (scP J a) = scP (J * K) a := by
  unfold scP
  exact Prod.ext (by simp only; grind) (by simp only; grind)
theorem sc_mix (K s t : Int) (a b : Pt) : scP K (mixP s a t b) = mixP (K * s) a (K * t) b := by
  unfold scP mixP
  exact Prod.ext (by simp only; grind) (by simp only; grind)
theorem wM_sc {K : Int} (hK : 0 < K) (r : Nat → Pt) (n : Nat) (u v : Pt) : wN (fun k => scP (2 * K) (r k)) n (mixP K u K v) = wM r n u v := by
  rw [wM, ← wN_sc hK (fun k => scP 2 (r k)) n (mixP 1 u 1 v), sc_mix, Int.mul_one]
  simp only [sc_sc]
theorem pos_mix {x y a b : Int} (hx : 0 ≤ x) (hy : 0 ≤ y) (h : 0 < x + y) (ha : 0 < a) (hb : 0 < b) : 0 < x * a + y * b := by
  rcases Int.lt_or_eq_of_le hx with k | k
  · have := Int.mul_pos k ha; have := Int.mul_nonneg hy (Int.le_of_lt hb); omega
  · have := Int.mul_nonneg hx (Int.le_of_lt ha); have := Int.mul_pos (show 0 < y by omega) hb; omega
/-- Along an open segment that is free. -/
theorem free_const {r : Nat → Pt} {n : Nat} (hr : r n = r 0) {u v : Pt} (h : ∀ k, k < n → Free (r k) (r (k + 1)) u v) {p q : Int} (hp : 0 < p) (hq : 0 < q) :
    wN (fun k => scP (2 * (p + q)) (r k)) n (mixP (2 * p) u (2 * q) v) = wM r n u v := by
  rw [← wM_sc (show 0 < p + q by omega)]
  exact wN_move (by simp only [hr]) fun k hk => sub_apart (fun p q => 0 < p ∧ 0 < q) (fun s t p q a b c d e f g i j => by have := h k hk s t p q a b c d e f g i; omega) (by omega) (by omega) (by omega) (by omega) (by omega) (by omega) (by omega)
    fun x y hx hy hxy => ⟨pos_mix hx hy hxy (by omega) (by omega), pos_mix hx hy hxy (by omega) (by omega)⟩
/-- Along a segment without its first end. -/
theorem only_const {r : Nat → Pt} {n : Nat} (hr : r n = r 0) {c d : Pt} (h : ∀ k, k < n → Only (r k) (r (k + 1)) c d) {p q : Int} (hp : 0 ≤ p) (hq : 0 < q) :
    wN (fun k => scP (2 * (p + q)) (r k)) n (mixP (2 * p) c (2 * q) d) = wM r n c d := by
  rw [← wM_sc (show 0 < p + q by omega)]
  exact wN_move (by simp only [hr]) fun k hk => sub_apart (fun _ q => 0 < q) (fun s t p q a b c d e f g i j => by have := h k hk s t p q a b c d e f g i; omega) (by omega) (by omega) (by omega) (by omega) (by omega) (by omega) (by omega)
    fun x y hx hy hxy => pos_mix hx hy hxy (by omega) (by omega)
/-- From an end that is off the rim to the middle. -/
theorem end_const {r : Nat → Pt} {n : Nat} (hr : r n = r 0) {u v : Pt} (h : ∀ k, k < n → Free (r k) (r (k + 1)) u v) (hu : ∀ k, k < n → onP (r k) (r (k + 1)) u = false) : wN r n u = wM r n u v := by
  have e : wN (fun k => scP 2 (r k)) n (mixP 2 u 0 v) = wN r n u := by
    rw [← wN_sc (show (0 : Int) < 2 by omega) r n u]
    congr 1
    unfold mixP scP
    exact Prod.ext (by simp) (by simp)
  rw [← e]
  refine wN_move (by simp only [hr]) fun k hk => sub_apart (fun p _ => 0 < p) (fun s t p q a b c d e f g i j => ?_) (by omega) (by omega) (by omega) (by omega) (by omega) (by omega) (by omega)
    fun x y hx hy hxy => pos_mix hx hy hxy (by omega) (by omega)
  rcases h k hk s t p q a b c d e f g i with w | w
  · omega
  · subst w
    rw [Int.zero_mul, Int.add_zero] at g i
    have := hu k hk
    rw [comb_on a b (by omega : 0 < p) (by omega) g.symm i.symm] at this
    cases this
/-! ### Triangles -/
def triP (a b c : Pt) (k : Nat) : Pt := if k % 3 = 0 then a else if k % 3 = 1 then b else c
theorem tri_mod (a b c : Pt) (k : Nat) : triP a b c (k + 3) = triP a b c k := by unfold triP; rw [Nat.add_mod_right]
theorem cross_cyc3 (a b c : Pt) : crossP b c a = crossP a b c := by unfold crossP crossI; grind
theorem ne_of_cross {a b c : Pt} (h : crossP a b c ≠ 0) : a ≠ b ∧ b ≠ c ∧ c ≠ a := by
  refine ⟨?_, ?_, ?_⟩ <;> intro e <;> subst e <;> refine h ?_ <;> unfold crossP crossI <;> grind
theorem tri_ring {a b c : Pt} (h : crossP a b c ≠ 0) : Ring (triP a b c) 3 := by
  obtain ⟨h1, h2, h3⟩ := ne_of_cross h
  have hk : ∀ k : Nat, (k % 3 = 0 ∧ (k + 1) % 3 = 1 ∧ (k + 2) % 3 = 2) ∨ (k % 3 = 1 ∧ (k + 1) % 3 = 2 ∧ (k + 2) % 3 = 0) ∨ (k % 3 = 2 ∧ (k + 1) % 3 = 0 ∧ (k + 2) % 3 = 1) := fun k => by omega
  refine ⟨by omega, tri_mod a b c, fun k => ?_, fun i j q1 q2 => by omega, fun k => .inl ?_⟩
  · unfold triP
    rcases hk k with ⟨e1, e2, e3⟩ | ⟨e1, e2, e3⟩ | ⟨e1, e2, e3⟩ <;> rw [e1, e2] <;> simp [h1, h2, h3]
  · unfold triP
    rcases hk k with ⟨e1, e2, e3⟩ | ⟨e1, e2, e3⟩ | ⟨e1, e2, e3⟩ <;> rw [e1, e2, e3] <;> simp
    · exact h
    · rw [cross_cyc3]; exact h
    · rw [cross_cyc3, cross_cyc3]; exact h
theorem tri_w (a b c x : Pt) : wN (triP a b c) 3 x = wS a b x + wS b c x + wS c a x := by
  show ((0 + wS a b x) + wS b c x) + wS c a x = _
  omega
/-! ### Crossing segments -/
theorem lt_mix {s t a b c : Int} (hs : 0 ≤ s) (ht : 0 < t) (ha : a ≤ c) (hb : b < c) : s * a + t * b < (s + t) * c := by
  have k1 := Int.mul_le_mul_of_nonneg_left ha hs
  have k2 := Int.mul_lt_mul_of_pos_left hb ht
  rw [Int.add_mul]; omega
theorem cross_cell_up {a b u v : Pt} {s t p q : Int} (hs : 0 < s) (ht : 0 < t) (hp : 0 < p) (hq : 0 < q) (h6 : s + t = p + q) (e2 : s * a.2 + t * b.2 = p * u.2 + q * v.2)
    (h1 : 0 < crossP a b u) (h2 : crossP a b v < 0) (h3 : crossP u v a < 0) (h4 : 0 < crossP u v b) : wS a b u - wS a b v ≠ rS u v b - rS u v a := by
  intro hh
  unfold wS rS at hh
  have hno : ¬ (a.2 ≤ u.2 ∧ u.2 < b.2) ∧ ¬ (b.2 ≤ v.2 ∧ v.2 < a.2) ∧ ¬ (v.2 < b.2 ∧ b.2 ≤ u.2) ∧ ¬ (u.2 < a.2 ∧ a.2 ≤ v.2) := by
    split at hh <;> split at hh <;> (try split at hh) <;> (try split at hh) <;> (try split at hh) <;> (try split at hh) <;> (try split at hh) <;> (try split at hh) <;> omega
  obtain ⟨n1, n2, n3, n4⟩ := hno
  by_cases hab : a.2 ≤ b.2
  · rcases Int.lt_or_le u.2 a.2 with k | k
    · have k2 : v.2 < a.2 := by omega
      have m1 := lt_mix (Int.le_of_lt hp) hq (Int.le_of_lt k) k2
      have m2 := mix_le (Int.le_of_lt hs) (Int.le_of_lt ht) (Int.le_refl a.2) hab
      rw [h6, e2] at m2; omega
    · have k2 : b.2 ≤ u.2 := by omega
      have k3 : b.2 ≤ v.2 := by omega
      have m1 := mix_le (Int.le_of_lt hp) (Int.le_of_lt hq) k2 k3
      rcases Int.lt_or_eq_of_le hab with l | l
      · have m2 := lt_mix (Int.le_of_lt ht) hs (Int.le_refl b.2) l
        rw [Int.add_comm t s, h6, Int.add_comm, e2] at m2; omega
      · have f1 : crossP a b u = (b.1 - a.1) * (u.2 - a.2) := by unfold crossP crossI; rw [l]; grind
        have f2 : crossP a b v = (b.1 - a.1) * (v.2 - a.2) := by unfold crossP crossI; rw [l]; grind
        rw [f1] at h1; rw [f2] at h2
        rcases Int.le_total 0 (b.1 - a.1) with g | g
        · have := Int.mul_nonneg g (show 0 ≤ v.2 - a.2 by omega); omega
        · have := Int.mul_nonneg (show 0 ≤ -(b.1 - a.1) by omega) (show 0 ≤ u.2 - a.2 by omega)
          rw [Int.neg_mul] at this; omega
  · rcases Int.lt_or_le v.2 b.2 with k | k
    · have k2 : u.2 < b.2 := by omega
      have m1 := lt_mix (Int.le_of_lt hp) hq (Int.le_of_lt k2) k
      have m2 := mix_le (Int.le_of_lt hs) (Int.le_of_lt ht) (show b.2 ≤ a.2 by omega) (Int.le_refl b.2)
      rw [h6, e2] at m2; omega
    · have k2 : a.2 ≤ v.2 := by omega
      have k3 : a.2 ≤ u.2 := by omega
      have m1 := mix_le (Int.le_of_lt hp) (Int.le_of_lt hq) k3 k2
      have m2 := lt_mix (Int.le_of_lt hs) ht (Int.le_refl a.2) (show b.2 < a.2 by omega)
      rw [h6, e2] at m2; omega
end Go.Proofs.Ytimkknljoeiceaa

/-
  Plain geometry: cutting off an ear; what is left has just the diagonals of before.
-/
namespace Go.Proofs.Ytimkknljoeiceaa

theorem cross_cell {a b u v : Pt} {s t p q : Int} (hs : 0 < s) (ht : 0 < t) (hp : 0 < p) (hq : 0 < q) (h6 : s + t = p + q) (e1 : s * a.1 + t * b.1 = p * u.1 + q * v.1) (e2 : s * a.2 + t * b.2 = p * u.2 + q * v.2)
    (hne : crossP a b u ≠ 0) : wS a b u - wS a b v ≠ rS u v b - rS u v a := by
  have k1 := cross_two (e := a) (f := b) h6 e1 e2
  have k2 := cross_two (e := u) (f := v) h6 e1 e2
  rw [cross_aa, cross_abb, Int.mul_zero, Int.mul_zero] at k1
  rw [cross_aa u v, cross_abb u v, Int.mul_zero, Int.mul_zero] at k2
  have k3 : crossP u v b - crossP u v a = crossP a b u - crossP a b v := by unfold crossP crossI; grind
  rcases Int.lt_or_gt_of_ne hne with l | l
  · have g1 : 0 < crossP a b v := by
      refine Int.not_le.1 fun h => ?_
      have i1 := Int.mul_pos hp (show 0 < -crossP a b u by omega)
      have i2 := Int.mul_nonneg (Int.le_of_lt hq) (show 0 ≤ -crossP a b v by omega)
      rw [Int.mul_neg] at i1 i2; omega
    have g2 : crossP u v b < 0 := by
      refine Int.not_le.1 fun h => ?_
      have i1 := Int.mul_pos hs (show 0 < crossP u v a by omega)
      have i2 := Int.mul_nonneg (Int.le_of_lt ht) h
      omega
    have g3 : 0 < crossP u v a := by
      refine Int.not_le.1 fun h => ?_
      have i1 := Int.mul_pos ht (show 0 < -crossP u v b by omega)
      have i2 := Int.mul_nonneg (Int.le_of_lt hs) (show 0 ≤ -crossP u v a by omega)
      rw [Int.mul_neg] at i1 i2; omega
    have := cross_cell_up (a := a) (b := b) (u := v) (v := u) hs ht hq hp (by omega) (by omega) g1 l (by rw [crossP_neg]; omega) (by rw [crossP_neg]; omega)
    rw [rS_flip u v, rS_flip u v] at this
    omega
  · have g1 : crossP a b v < 0 := by
      refine Int.not_le.1 fun h => ?_
      have i1 := Int.mul_pos hp l
      have i2 := Int.mul_nonneg (Int.le_of_lt hq) h
      omega
    have g2 : 0 < crossP u v b := by
      refine Int.not_le.1 fun h => ?_
      have i1 := Int.mul_pos hs (show 0 < -crossP u v a by omega)
      have i2 := Int.mul_nonneg (Int.le_of_lt ht) (show 0 ≤ -crossP u v b by omega)
      rw [Int.mul_neg] at i1 i2; omega
    have g3 : crossP u v a < 0 := by
      refine Int.not_le.1 fun h => ?_
      have i1 := Int.mul_pos ht g2
      have i2 := Int.mul_nonneg (Int.le_of_lt hs) h
      omega
    exact cross_cell_up hs ht hp hq h6 e2 l g1 g3 g2
theorem Free.flip {a b u v : Pt} (h : Free a b u v) : Free b a u v := fun s t p q h1 h2 h3 h4 h5 h6 e1 e2 => h t s p q h2 h1 h3 h4 (by omega) (by omega) (by omega) (by omega)
theorem Free.swap {a b u v : Pt} (h : Free a b u v) : Free a b v u := fun s t p q h1 h2 h3 h4 h5 h6 e1 e2 => (h s t q p h1 h2 h4 h3 h5 (by omega) (by omega) (by omega)).symm
theorem Only.flip {a b u v : Pt} (h : Only a b u v) : Only b a u v := fun s t p q h1 h2 h3 h4 h5 h6 e1 e2 => h t s p q h2 h1 h3 h4 (by omega) (by omega) (by omega) (by omega)
theorem Apart.free {a b u v : Pt} (h : Apart a b u v) : Free a b u v := fun s t p q h1 h2 h3 h4 h5 h6 e1 e2 => absurd ⟨e1, e2⟩ (h s t p q h1 h2 h3 h4 h5 h6)
theorem Apart.only {a b u v : Pt} (h : Apart a b u v) : Only a b u v := fun s t p q h1 h2 h3 h4 h5 h6 e1 e2 => absurd ⟨e1, e2⟩ (h s t p q h1 h2 h3 h4 h5 h6)
theorem wM_swap (r : Nat → Pt) (n : Nat) (u v : Pt) : wM r n u v = wM r n v u := by
  unfold wM
  congr 1
  exact Prod.ext (Int.add_comm _ _) (Int.add_comm _ _)
theorem Free.off {a b u v : Pt} (h : Free a b u v) (hab : a ≠ b) : onP (scP 2 a) (scP 2 b) (mixP 1 u 1 v) = false := by
  cases ho : onP (scP 2 a) (scP 2 b) (mixP 1 u 1 v)
  · rfl
  · exfalso
    have hne : scP 2 a ≠ scP 2 b := fun e => hab (by
      have e1 := congrArg Prod.fst e
      have e2 := congrArg Prod.snd e
      simp only [scP] at e1 e2
      exact Prod.ext (by omega) (by omega))
    obtain ⟨p, q, w⟩ := on_wt ho hne
    have w1 := w.e1; have w2 := w.e2; have w3 := w.pq; have w4 := w.p0; have w5 := w.q0
    simp only [scP, mixP] at w1 w2
    have := h (2 * p) (2 * q) (p + q) (p + q) (by omega) (by omega) (by omega) (by omega) (by omega) (by omega) (by grind) (by grind)
    omega
/-- A free segment one of whose ends is off, and the other, too. -/
theorem Free.apart {a b u v : Pt} (h : Free a b u v) (hu : onP a b u = false) (hv : onP a b v = false) : Apart a b u v := fun s t p q h1 h2 h3 h4 h5 h6 ⟨e1, e2⟩ => by
  rcases h s t p q h1 h2 h3 h4 h5 h6 e1 e2 with w | w
  · subst w
    rw [Int.zero_mul, Int.zero_add] at e1 e2
    rw [comb_on h1 h2 (by omega : 0 < q) (by omega) e1.symm e2.symm] at hv; cases hv
  · subst w
    rw [Int.zero_mul, Int.add_zero] at e1 e2
    rw [comb_on h1 h2 (by omega : 0 < p) (by omega) e1.symm e2.symm] at hu; cases hu
theorem corner_only {a b c : Pt} (hab : a ≠ b) (hbc : b ≠ c) (h : crossP a b c ≠ 0 ∨ onP a c b = true) : Only a b b c := fun s t p q h1 h2 h3 h4 h5 h6 e1 e2 => by
  rcases h with h | h
  · have k := cross_two (e := a) (f := b) h6 e1 e2
    rw [cross_aa, cross_abb, Int.mul_zero, Int.mul_zero, Int.mul_zero] at k
    rcases Int.mul_eq_zero.1 (show q * crossP a b c = 0 by omega) with w | w
    · exact w
    · exact absurd w h
  · have hac : a ≠ c := fun e => by
      subst e
      rw [onP_iff] at h
      obtain ⟨-, g1, g2⟩ := h
      unfold bt at g1 g2
      exact hab (Prod.ext (by omega) (by omega))
    obtain ⟨i, j, w⟩ := on_wt h hac
    have w1 := w.e1; have w2 := w.e2; have w3 := w.pq; have w4 := w.p0; have w5 := w.q0
    have i0 : 0 < i := w.ne_c hbc
    have z1 : (i * q + j * s) * (c.1 - b.1) = 0 := by
      have : p = s + t - q := by omega
      subst this; grind
    have z2 : (i * q + j * s) * (c.2 - b.2) = 0 := by
      have : p = s + t - q := by omega
      subst this; grind
    have n1 := Int.mul_nonneg w5 h1
    have n2 := Int.mul_nonneg w4 h4
    have z0 : i * q + j * s = 0 := by
      rcases Int.mul_eq_zero.1 z1 with g | g
      · exact g
      · rcases Int.mul_eq_zero.1 z2 with g2 | g2
        · exact g2
        · exact absurd (Prod.ext (by omega) (by omega)) hbc
    rcases Int.mul_eq_zero.1 (show i * q = 0 by omega) with g | g
    · omega
    · exact g
theorem cut_sum {p q t : Nat → Pt} {m : Nat} (h : ∀ k, k ≤ m → q k = p (k + 2)) (hq : q (m + 1) = p 2) (hp : p (m + 2) = p 0) (t0 : t 0 = p 0) (t1 : t 1 = p 1) (t2 : t 2 = p 2) (t3 : t 3 = p 0) (x : Pt) :
    wN p (m + 2) x = wN q (m + 1) x + wN t 3 x := by
  have e1 : wN t 3 x = wS (p 0) (p 1) x + wS (p 1) (p 2) x + wS (p 2) (p 0) x := by
    show ((0 + wS (t 0) (t 1) x) + wS (t 1) (t 2) x) + wS (t 2) (t 3) x = _
    rw [t0, t1, t2, t3]; omega
  have e2 : wN q (m + 1) x = sumT (fun k => wS (p (k + 2)) (p (k + 3)) x) m + wS (p 0) (p 2) x := by
    show sumT (fun k => wS (q k) (q (k + 1)) x) m + wS (q m) (q (m + 1)) x = _
    rw [hq, h m (Nat.le_refl _), hp]
    congr 1
    exact sumT_congr m fun k hk => by rw [h k (by omega), h (k + 1) (by omega)]
  have e3 : wN p (m + 2) x = wS (p 0) (p 1) x + (wS (p 1) (p 2) x + sumT (fun k => wS (p (k + 2)) (p (k + 3)) x) m) := by
    show sumT (fun k => wS (p k) (p (k + 1)) x) (m + 2) = _
    rw [sumT_succ', sumT_succ']
  have e4 := wS_flip (p 0) (p 2) x
  omega
structure Cut (p q : Nat → Pt) (m : Nat) : Prop where
  hp : Ring p (m + 2)
  hq : Ring q (m + 1)
  at' : ∀ k, k ≤ m → q k = p (k + 2)
  m2 : 2 ≤ m
  ear : ∀ k, k < m + 2 → Free (p k) (p (k + 1)) (p 0) (p 2)
  inn : wM p (m + 2) (p 0) (p 2) ≠ 0
section
variable {p q : Nat → Pt} {m : Nat}
theorem Cut.p_end (h : Cut p q m) : p (m + 2) = p 0 := by have := h.hp.per 0; rwa [Nat.zero_add] at this
theorem Cut.q_end (h : Cut p q m) : q (m + 1) = p 2 := by have := h.hq.per 0; rw [Nat.zero_add] at this; rw [this]; exact h.at' 0 (Nat.zero_le _)
theorem Cut.q_m (h : Cut p q m) : q m = p 0 := (h.at' m (Nat.le_refl _)).trans h.p_end
theorem Cut.ne02 (h : Cut p q m) : p 0 ≠ p 2 := fun e => by
  have := h.hq.ne m
  rw [h.q_m, h.q_end] at this
  exact this e
theorem Cut.tri (h : Cut p q m) : crossP (p 0) (p 1) (p 2) ≠ 0 := fun hc => by
  rcases h.hp.corner 0 with g | g
  · exact g hc
  · have g : onP (p 0) (p 2) (p 1) = true := g
    obtain ⟨i, j, w⟩ := on_wt g h.ne02
    have n0 : p 0 ≠ p 1 := h.hp.ne 0
    have n1 : p 1 ≠ p 2 := h.hp.ne 1
    have i0 : 0 < i := w.ne_c n1
    have j0 : 0 < j := w.ne_a (Ne.symm n0)
    have w1 := w.e1; have w2 := w.e2
    have := h.ear 1 (by omega) (i + j) 0 i j (by omega) (by omega) (by omega) (by omega) (by omega) (by omega) (by rw [Int.zero_mul, Int.add_zero]; exact w1) (by rw [Int.zero_mul, Int.add_zero]; exact w2)
    omega
end
end Go.Proofs.Ytimkknljoeiceaa

/-
  Plain geometry: cutting off an ear: the winding numbers' signs; a diagonal of what is left is one of the whole.
-/
namespace Go.Proofs.Ytimkknljoeiceaa

section
variable {p q : Nat → Pt} {m : Nat}
theorem Cut.sum (h : Cut p q m) (x : Pt) : wN p (m + 2) x = wN q (m + 1) x + wN (triP (p 0) (p 1) (p 2)) 3 x := cut_sum (t := triP (p 0) (p 1) (p 2)) h.at' h.q_end h.p_end rfl rfl rfl rfl x
theorem Cut.sumM (h : Cut p q m) (u v : Pt) : wM p (m + 2) u v = wM q (m + 1) u v + wM (triP (p 0) (p 1) (p 2)) 3 u v :=
  cut_sum (p := fun k => scP 2 (p k)) (q := fun k => scP 2 (q k)) (t := fun k => scP 2 (triP (p 0) (p 1) (p 2) k)) (fun k hk => by rw [h.at' k hk]) (by rw [h.q_end]) (by rw [h.p_end]) rfl rfl rfl rfl _
theorem mid_on {a b : Pt} (hab : a ≠ b) : onP (scP 2 a) (scP 2 b) (mixP 1 a 1 b) = true ∧ mixP 1 a 1 b ≠ scP 2 a ∧ mixP 1 a 1 b ≠ scP 2 b := by
  refine ⟨comb_on (p := 1) (q := 1) (m := 2) (by omega) (by omega) (by omega) (by omega) (by simp only [scP, mixP]; omega) (by simp only [scP, mixP]; omega), fun e => hab ?_, fun e => hab ?_⟩
  all_goals
    have e1 := congrArg Prod.fst e
    have e2 := congrArg Prod.snd e
    simp only [scP, mixP] at e1 e2
    exact Prod.ext (by omega) (by omega)
/-- At the middle of a side. -/
theorem Ring.mid {r : Nat → Pt} {n : Nat} (h : Ring r n) {z : Int} (hz : ∀ k, wN (fun k => scP 2 (r k)) n (scP 2 (r (k + 1))) = z + turnAt (fun k => scP 2 (r k)) k - upAt (fun k => scP 2 (r k)) (k + 1)) (k : Nat) :
    wM r n (r k) (r (k + 1)) = z - rho (scP 2 (r k)) (scP 2 (r (k + 1))) :=
  (h.sc (show (0 : Int) < 2 by omega)).open hz k (mid_on (h.ne k)).1 (mid_on (h.ne k)).2.1 (mid_on (h.ne k)).2.2
theorem free_all {r : Nat → Pt} {n : Nat} (h : Ring r n) {u v : Pt} (hf : ∀ k, k < n → Free (r k) (r (k + 1)) u v) (k : Nat) : onP (scP 2 (r k)) (scP 2 (r (k + 1))) (mixP 1 u 1 v) = false := by
  have hn := h.n3
  have e1 := h.mod k
  have e2 := h.mod (k + 1)
  have e3 := h.mod (k % n + 1)
  rw [Nat.mod_add_mod] at e3
  rw [e1, e2, ← e3]
  exact (hf _ (Nat.mod_lt _ (by omega))).off (h.ne _)
/-- At a middle off the rim. -/
theorem Ring.off_mid {r : Nat → Pt} {n : Nat} (h : Ring r n) {z : Int} (hz : ∀ k, wN (fun k => scP 2 (r k)) n (scP 2 (r (k + 1))) = z + turnAt (fun k => scP 2 (r k)) k - upAt (fun k => scP 2 (r k)) (k + 1))
    {u v : Pt} (hf : ∀ k, k < n → Free (r k) (r (k + 1)) u v) : wM r n u v = 0 ∨ wM r n u v = z ∨ wM r n u v = z - 1 :=
  (h.sc (show (0 : Int) < 2 by omega)).off_any hz (free_all h hf)
theorem Cut.ringT (h : Cut p q m) : Ring (triP (p 0) (p 1) (p 2)) 3 := tri_ring h.tri
/-- The whole, what is left and the ear turn alike. -/
theorem Cut.turns (h : Cut p q m) : ∃ z : Int, (z = 0 ∨ z = 1) ∧
    (∀ k, wN (fun k => scP 2 (p k)) (m + 2) (scP 2 (p (k + 1))) = z + turnAt (fun k => scP 2 (p k)) k - upAt (fun k => scP 2 (p k)) (k + 1)) ∧
    (∀ k, wN (fun k => scP 2 (q k)) (m + 1) (scP 2 (q (k + 1))) = z + turnAt (fun k => scP 2 (q k)) k - upAt (fun k => scP 2 (q k)) (k + 1)) ∧
    (∀ k, wN (fun k => scP 2 (triP (p 0) (p 1) (p 2) k)) 3 (scP 2 (triP (p 0) (p 1) (p 2) (k + 1))) = z + turnAt (fun k => scP 2 (triP (p 0) (p 1) (p 2) k)) k - upAt (fun k => scP 2 (triP (p 0) (p 1) (p 2) k)) (k + 1)) := by
  obtain ⟨zp, p01, hzp, -⟩ := (h.hp.sc (show (0 : Int) < 2 by omega)).hopf
  obtain ⟨zq, q01, hzq, -⟩ := (h.hq.sc (show (0 : Int) < 2 by omega)).hopf
  obtain ⟨zt, t01, hzt, -⟩ := (h.ringT.sc (show (0 : Int) < 2 by omega)).hopf
  have a1 := h.hq.mid hzq m
  rw [h.q_m, h.q_end] at a1
  have a2 : wM (triP (p 0) (p 1) (p 2)) 3 (p 2) (p 0) = zt - rho (scP 2 (p 2)) (scP 2 (p 0)) := h.ringT.mid hzt 2
  have hne : scP 2 (p 0) ≠ scP 2 (p 2) := fun e => h.ne02 (by
    have e1 := congrArg Prod.fst e
    have e2 := congrArg Prod.snd e
    simp only [scP] at e1 e2
    exact Prod.ext (by omega) (by omega))
  rw [rho_flip hne, wM_swap] at a2
  have a3 := h.sumM (p 0) (p 2)
  have a4 := h.inn
  have a5 := h.hp.off_mid hzp h.ear
  have e1 : zq = zp := by omega
  have e2 : zt = zp := by omega
  subst e1; subst e2
  exact ⟨zt, p01, hzp, hzq, hzt⟩
theorem Cut.zero_av (h : Cut p q m) : wM q (m + 1) (p 0) (p 1) = 0 ∧ wM q (m + 1) (p 2) (p 1) = 0 := by
  obtain ⟨z, -, hp, -, ht⟩ := h.turns
  have a1 := h.hp.mid hp 0
  have a2 : wM (triP (p 0) (p 1) (p 2)) 3 (p 0) (p 1) = z - rho (scP 2 (p 0)) (scP 2 (p 1)) := h.ringT.mid ht 0
  have b1 := h.hp.mid hp 1
  have b2 : wM (triP (p 0) (p 1) (p 2)) 3 (p 1) (p 2) = z - rho (scP 2 (p 1)) (scP 2 (p 2)) := h.ringT.mid ht 1
  have s1 := h.sumM (p 0) (p 1)
  have s2 := h.sumM (p 1) (p 2)
  rw [wM_swap q (m + 1) (p 2) (p 1)]
  simp only [Nat.zero_add, Nat.reduceAdd] at a1 b1
  omega
theorem only_base {a b v : Pt} (h : crossP a v b ≠ 0) : Only a b a v := fun s t p q h1 h2 h3 h4 h5 h6 e1 e2 => by
  have k := cross_two (e := a) (f := b) h6 e1 e2
  rw [cross_aa, cross_abb, Int.mul_zero, Int.mul_zero, Int.mul_zero] at k
  rcases Int.mul_eq_zero.1 (show q * crossP a b v = 0 by omega) with w | w
  · exact w
  · exact absurd (by unfold crossP crossI at w ⊢; grind) h
/-- The rim of what is left meets the ear's two sides in the base's ends only. -/
theorem Cut.only_a (h : Cut p q m) : ∀ k, k < m + 1 → Only (q k) (q (k + 1)) (p 0) (p 1) := fun k hk => by
  by_cases e : k = m
  · subst e
    rw [h.q_m, h.q_end]
    exact only_base h.tri
  · rw [h.at' k (by omega), h.at' (k + 1) (by omega)]
    by_cases e2 : k + 1 = m
    · have c := h.hp.corner (m + 1)
      have per1 : p (m + 1 + 2) = p 1 := by have := h.hp.per 1; rwa [show 1 + (m + 2) = m + 1 + 2 by omega] at this
      have n1 := h.hp.ne (m + 1)
      rw [show m + 1 + 1 = m + 2 from rfl, h.p_end] at c n1
      rw [per1] at c
      rw [show k + 2 = m + 1 by omega, show k + 1 + 2 = m + 2 by omega, h.p_end]
      exact corner_only n1 (h.hp.ne 0) c
    · exact (h.hp.apart 0 (k + 2) (by omega) (by omega)).swap.only
theorem Cut.only_b (h : Cut p q m) : ∀ k, k < m + 1 → Only (q k) (q (k + 1)) (p 2) (p 1) := fun k hk => by
  by_cases e : k = m
  · subst e
    rw [h.q_m, h.q_end]
    refine (only_base ?_).flip
    have t := h.tri
    intro g
    exact t (by unfold crossP crossI at g ⊢; grind)
  · rw [h.at' k (by omega), h.at' (k + 1) (by omega)]
    by_cases e2 : k = 0
    · subst e2
      have c := h.hp.corner 1
      refine (corner_only (a := p 3) (b := p 2) (c := p 1) (Ne.symm (h.hp.ne 2)) (Ne.symm (h.hp.ne 1)) ?_).flip
      rcases c with c | c
      · left
        intro g
        exact c (by show crossP (p 1) (p 2) (p 3) = 0; unfold crossP crossI at g ⊢; grind)
      · right
        rw [on_flip]; exact c
    · exact (h.hp.apart 1 (k + 2) (by omega) (by omega)).swap.flip2.only
theorem free_side {r : Nat → Pt} {n : Nat} (hr : r n = r 0) {c d u v : Pt} (hO : ∀ k, k < n → Only (r k) (r (k + 1)) c d) (h0 : wM r n c d = 0) (hf : ∀ k, k < n → Free (r k) (r (k + 1)) u v) (hne : wM r n u v ≠ 0) {j : Nat} (hj : j < n) (hc : r j = c) : Free c d u v := fun s t p q h1 h2 h3 h4 h5 h6 e1 e2 => by
  refine Classical.byContradiction fun hn => ?_
  have hp : 0 < p := by omega
  have hq : 0 < q := by omega
  by_cases ht : t = 0
  · subst ht
    rw [Int.zero_mul, Int.add_zero] at e1 e2
    have := hf j hj s 0 p q h1 (by omega) h3 h4 h5 h6 (by rw [hc, Int.zero_mul, Int.add_zero]; exact e1) (by rw [hc, Int.zero_mul, Int.add_zero]; exact e2)
    omega
  · have a1 := free_const hr hf hp hq
    have a2 := only_const hr hO h1 (show 0 < t by omega)
    have e : mixP (2 * p) u (2 * q) v = mixP (2 * s) c (2 * t) d := by
      unfold mixP
      exact Prod.ext (by simp only; grind) (by simp only; grind)
    rw [h6, ← e, a1, h0] at a2
    exact hne a2
/-- A diagonal of what is left is one of the whole. -/
theorem Cut.back (h : Cut p q m) {u v : Pt} (hf : ∀ k, k < m + 1 → Free (q k) (q (k + 1)) u v) (hne : wM q (m + 1) u v ≠ 0) : (∀ k, k < m + 2 → Free (p k) (p (k + 1)) u v) ∧ wM p (m + 2) u v ≠ 0 := by
  have hr : q (m + 1) = q 0 := h.q_end.trans (h.at' 0 (Nat.zero_le _)).symm
  have f0 : Free (p 0) (p 1) u v := free_side hr h.only_a h.zero_av.1 hf hne (j := m) (by omega) h.q_m
  have f1 : Free (p 2) (p 1) u v := free_side hr h.only_b h.zero_av.2 hf hne (j := 0) (by omega) (h.at' 0 (Nat.zero_le _))
  have f2 : Free (p 0) (p 2) u v := by have := hf m (by omega); rwa [h.q_m, h.q_end] at this
  refine ⟨fun k hk => ?_, ?_⟩
  · by_cases e0 : k = 0
    · subst e0; exact f0
    · by_cases e1 : k = 1
      · subst e1; exact f1.flip
      · have := hf (k - 2) (by omega)
        rw [h.at' (k - 2) (by omega), show k - 2 + 2 = k by omega] at this
        by_cases e2 : k - 2 = m
        · omega
        · rwa [h.at' (k - 2 + 1) (by omega), show k - 2 + 1 + 2 = k + 1 by omega] at this
  · obtain ⟨z, z01, -, hq, ht⟩ := h.turns
    have a1 := h.hq.off_mid hq hf
    have a2 := h.ringT.off_mid ht (u := u) (v := v) fun k hk => by
      have e : k = 0 ∨ k = 1 ∨ k = 2 := by omega
      rcases e with rfl | rfl | rfl
      · exact f0
      · exact f1.flip
      · exact f2.flip
    have a3 := h.sumM u v
    omega
end
end Go.Proofs.Ytimkknljoeiceaa

/-
  Plain geometry: cutting off an ear: no corner lies in the ear; a diagonal of the whole is one of what is left.
-/
namespace Go.Proofs.Ytimkknljoeiceaa

theorem on_by_x {a b v : Pt} (h : a.1 ≠ b.1) (hc : crossP a b v = 0) (hb : bt a.1 b.1 v.1) : onP a b v = true := by
  refine (onP_iff _ _ _).2 ⟨hc, hb, ?_⟩
  unfold crossP crossI at hc
  unfold bt at hb
  rcases Int.lt_or_gt_of_ne h with k | k
  · exact frac_bt (m := b.1 - a.1) (q := v.1 - a.1) (by omega) (by omega) (by omega) (by grind)
  · exact frac_bt (m := a.1 - b.1) (q := a.1 - v.1) (by omega) (by omega) (by omega) (by grind)
theorem on_by_y {a b v : Pt} (h : a.2 ≠ b.2) (hc : crossP a b v = 0) (hb : bt a.2 b.2 v.2) : onP a b v = true := by
  refine (onP_iff _ _ _).2 ⟨hc, ?_, hb⟩
  unfold crossP crossI at hc
  unfold bt at hb
  rcases Int.lt_or_gt_of_ne h with k | k
  · exact frac_bt (m := b.2 - a.2) (q := v.2 - a.2) (by omega) (by omega) (by omega) (by grind)
  · exact frac_bt (m := a.2 - b.2) (q := a.2 - v.2) (by omega) (by omega) (by omega) (by grind)
theorem low_mix {s t a b c : Int} (hs : 0 < s) (ht : 0 < t) (hab : a ≠ b) (ha : a ≤ c) (hb : b ≤ c) : s * a + t * b < (s + t) * c := by
  rcases Int.lt_or_gt_of_ne hab with k | k
  · have := lt_mix (Int.le_of_lt ht) hs hb (show a < c by omega)
    rw [Int.add_comm t s] at this; omega
  · exact lt_mix (Int.le_of_lt hs) ht ha (by omega)
theorem high_mix {s t a b c : Int} (hs : 0 < s) (ht : 0 < t) (hab : a ≠ b) (ha : c ≤ a) (hb : c ≤ b) : (s + t) * c < s * a + t * b := by
  have := low_mix (a := -a) (b := -b) (c := -c) hs ht (by omega) (by omega) (by omega)
  rw [Int.mul_neg, Int.mul_neg, Int.mul_neg] at this; omega
theorem line_over {a b i k s t p q : Int} (hs : 0 < s) (ht : 0 < t) (hp : 0 < p) (hq : 0 < q) (h6 : s + t = p + q) (e : s * a + t * b = p * i + q * k) (hab : a ≠ b) (hik : i ≠ k) :
    (bt a b i ∧ i ≠ a ∧ i ≠ b) ∨ (bt a b k ∧ k ≠ a ∧ k ≠ b) ∨ (bt i k a ∧ a ≠ i ∧ a ≠ k) ∨ (bt i k b ∧ b ≠ i ∧ b ≠ k) ∨ (a = i ∧ b = k) ∨ (a = k ∧ b = i) := by
  have n1 : ¬ (max a b ≤ min i k) := fun h => by
    have m1 := low_mix (c := max a b) hs ht hab (by omega) (by omega)
    have m2 := high_mix (c := max a b) hp hq hik (by omega) (by omega)
    rw [h6] at m1; omega
  have n2 : ¬ (max i k ≤ min a b) := fun h => by
    have m1 := low_mix (c := max i k) hp hq hik (by omega) (by omega)
    have m2 := high_mix (c := max i k) hs ht hab (by omega) (by omega)
    rw [h6] at m2; omega
  unfold bt
  omega
theorem flat_over {a b u v : Pt} {s t p q : Int} (hs : 0 < s) (ht : 0 < t) (hp : 0 < p) (hq : 0 < q) (h6 : s + t = p + q) (e1 : s * a.1 + t * b.1 = p * u.1 + q * v.1) (e2 : s * a.2 + t * b.2 = p * u.2 + q * v.2) (hab : a ≠ b) (huv : u ≠ v)
    (hu : crossP a b u = 0) (hv : crossP a b v = 0) (k1 : onP a b u = true → u = a ∨ u = b) (k2 : onP a b v = true → v = a ∨ v = b) (k3 : onP u v a = true → a = u ∨ a = v) (k4 : onP u v b = true → b = u ∨ b = v) (k5 : ¬ (a = u ∧ b = v)) (k6 : ¬ (a = v ∧ b = u)) : False := by
  have gu := hu; have gv := hv
  unfold crossP crossI at gu gv
  by_cases hx : a.1 = b.1
  · have hy : a.2 ≠ b.2 := fun e => hab (Prod.ext hx e)
    have xs : ∀ w : Pt, (b.1 - a.1) * (w.2 - a.2) - (b.2 - a.2) * (w.1 - a.1) = 0 → w.1 = a.1 := fun w g => by
      rw [hx, Int.sub_self, Int.zero_mul] at g
      rcases Int.mul_eq_zero.1 (show (b.2 - a.2) * (w.1 - b.1) = 0 by omega) with z | z <;> omega
    have xu := xs u gu; have xv := xs v gv
    have huy : u.2 ≠ v.2 := fun e => huv (Prod.ext (by omega) e)
    have ca : crossP u v a = 0 := by unfold crossP crossI; rw [xu, xv]; grind
    have cb : crossP u v b = 0 := by unfold crossP crossI; rw [xu, xv, hx]; grind
    rcases line_over hs ht hp hq h6 e2 hy huy with ⟨g, g1, g2⟩ | ⟨g, g1, g2⟩ | ⟨g, g1, g2⟩ | ⟨g, g1, g2⟩ | ⟨g1, g2⟩ | ⟨g1, g2⟩
    · rcases k1 (on_by_y hy hu g) with z | z
      · exact g1 (congrArg Prod.snd z)
      · exact g2 (congrArg Prod.snd z)
    · rcases k2 (on_by_y hy hv g) with z | z
      · exact g1 (congrArg Prod.snd z)
      · exact g2 (congrArg Prod.snd z)
    · rcases k3 (on_by_y huy ca g) with z | z
      · exact g1 (congrArg Prod.snd z)
      · exact g2 (congrArg Prod.snd z)
    · rcases k4 (on_by_y huy cb g) with z | z
      · exact g1 (congrArg Prod.snd z)
      · exact g2 (congrArg Prod.snd z)
    · exact k5 ⟨Prod.ext (by omega) g1, Prod.ext (by omega) g2⟩
    · exact k6 ⟨Prod.ext (by omega) g1, Prod.ext (by omega) g2⟩
  · have ys : ∀ w z : Pt, (b.1 - a.1) * (w.2 - a.2) - (b.2 - a.2) * (w.1 - a.1) = 0 → (b.1 - a.1) * (z.2 - a.2) - (b.2 - a.2) * (z.1 - a.1) = 0 → w.1 = z.1 → w = z := fun w z g g2 e => by
      rw [e] at g
      refine Prod.ext e ?_
      rcases Int.mul_eq_zero.1 (show (b.1 - a.1) * (w.2 - z.2) = 0 by grind) with y | y <;> omega
    have ga : (b.1 - a.1) * (a.2 - a.2) - (b.2 - a.2) * (a.1 - a.1) = 0 := by grind
    have gb : (b.1 - a.1) * (b.2 - a.2) - (b.2 - a.2) * (b.1 - a.1) = 0 := by grind
    have hux : u.1 ≠ v.1 := fun e => huv (ys u v gu gv e)
    have ca : crossP u v a = 0 := by
      rcases Int.mul_eq_zero.1 (show (b.1 - a.1) * crossP u v a = 0 by unfold crossP crossI; grind) with y | y <;> omega
    have cb : crossP u v b = 0 := by
      rcases Int.mul_eq_zero.1 (show (b.1 - a.1) * crossP u v b = 0 by unfold crossP crossI; grind) with y | y <;> omega
    rcases line_over hs ht hp hq h6 e1 hx hux with ⟨g, g1, g2⟩ | ⟨g, g1, g2⟩ | ⟨g, g1, g2⟩ | ⟨g, g1, g2⟩ | ⟨g1, g2⟩ | ⟨g1, g2⟩
    · rcases k1 (on_by_x hx hu g) with z | z
      · exact g1 (congrArg Prod.fst z)
      · exact g2 (congrArg Prod.fst z)
    · rcases k2 (on_by_x hx hv g) with z | z
      · exact g1 (congrArg Prod.fst z)
      · exact g2 (congrArg Prod.fst z)
    · rcases k3 (on_by_x hux ca g) with z | z
      · exact g1 (congrArg Prod.fst z)
      · exact g2 (congrArg Prod.fst z)
    · rcases k4 (on_by_x hux cb g) with z | z
      · exact g1 (congrArg Prod.fst z)
      · exact g2 (congrArg Prod.fst z)
    · exact k5 ⟨ys a u ga gu g1, ys b v gb gv g2⟩
    · exact k6 ⟨ys a v ga gv g1, ys b u gb gu g2⟩
section
variable {p q : Nat → Pt} {m : Nat}
theorem off_of {a b u v x : Pt} (h : Apart a b u v) (hab : a ≠ b) (huv : u ≠ v) (hx : onP u v x = true) : onP a b x = false := by
  cases ho : onP a b x
  · rfl
  · exact (h.not_on hab huv ho hx).elim
theorem Cut.off_t (h : Cut p q m) {j : Nat} (h3 : 3 ≤ j) (hj : j ≤ m + 1) : onP (p 0) (p 1) (p j) = false ∧ onP (p 1) (p 2) (p j) = false ∧ onP (p 0) (p 2) (p j) = false := by
  have a1 : onP (p 0) (p 1) (p j) = false := by
    have := off_of (h.hp.apart 0 (j - 1) (by omega) (by omega)) (h.hp.ne 0) (h.hp.ne _) (on_b _ _)
    rwa [show j - 1 + 1 = j by omega] at this
  have a2 : onP (p 1) (p 2) (p j) = false := off_of (h.hp.apart 1 j (by omega) (by omega)) (h.hp.ne 1) (h.hp.ne _) (on_a _ _)
  refine ⟨a1, a2, ?_⟩
  cases ho : onP (p 0) (p 2) (p j)
  · rfl
  · exfalso
    obtain ⟨i, k, w⟩ := on_wt ho h.ne02
    have w1 := w.e1; have w2 := w.e2; have w3 := w.pq; have w4 := w.p0; have w5 := w.q0
    rcases h.ear j (by omega) (i + k) 0 i k (by omega) (by omega) w4 w5 (by omega) (by omega) (by rw [Int.zero_mul, Int.add_zero]; exact w1) (by rw [Int.zero_mul, Int.add_zero]; exact w2) with e | e
    · by_cases g : p j = p 2
      · rw [g, on_b] at a2; cases a2
      · have := w.ne_c g; omega
    · by_cases g : p j = p 0
      · rw [g, on_a] at a1; cases a1
      · have := w.ne_a g; omega
theorem Cut.t_off (h : Cut p q m) {j : Nat} (h3 : 3 ≤ j) (hj : j ≤ m + 1) : ∀ k, k < 3 → onP (triP (p 0) (p 1) (p 2) k) (triP (p 0) (p 1) (p 2) (k + 1)) (p j) = false := fun k hk => by
  obtain ⟨a1, a2, a3⟩ := h.off_t h3 hj
  have e : k = 0 ∨ k = 1 ∨ k = 2 := by omega
  rcases e with rfl | rfl | rfl
  · exact a1
  · exact a2
  · show onP (p 2) (p 0) (p j) = false
    rw [on_flip]; exact a3
theorem Cut.t_move (h : Cut p q m) {j : Nat} (h3 : 3 ≤ j) (hj : j ≤ m) : wN (triP (p 0) (p 1) (p 2)) 3 (p j) = wN (triP (p 0) (p 1) (p 2)) 3 (p (j + 1)) := by
  have b0 := h.hp.apart 0 j (by omega) (by omega)
  have b1 := h.hp.apart 1 j (by omega) (by omega)
  refine wN_move (n := 3) (show triP (p 0) (p 1) (p 2) 3 = triP (p 0) (p 1) (p 2) 0 from rfl) fun k hk => ?_
  have e : k = 0 ∨ k = 1 ∨ k = 2 := by omega
  rcases e with rfl | rfl | rfl
  · exact b0
  · exact b1
  · show Apart (p 2) (p 0) (p j) (p (j + 1))
    exact ((h.ear j (by omega)).apart (off_of b0.swap (h.hp.ne _) (h.hp.ne _) (on_a _ _)) (off_of b1.swap (h.hp.ne _) (h.hp.ne _) (on_b _ _))).swap.flip1
theorem Cut.t_same (h : Cut p q m) : ∀ j, j + 3 ≤ m + 1 → wN (triP (p 0) (p 1) (p 2)) 3 (p (j + 3)) = wN (triP (p 0) (p 1) (p 2)) 3 (p 3)
  | 0, _ => by rw [Nat.zero_add]
  | j + 1, hj => by
    rw [← Cut.t_same h j (by omega)]
    exact (h.t_move (by omega) (by omega)).symm
/-- No corner lies in the ear. -/
theorem Cut.t_zero (h : Cut p q m) {j : Nat} (h3 : 3 ≤ j) (hj : j ≤ m + 1) : wN (triP (p 0) (p 1) (p 2)) 3 (p j) = 0 := by
  refine Classical.byContradiction fun hne => ?_
  have hall : ∀ i, 3 ≤ i → i ≤ m + 1 → wN (triP (p 0) (p 1) (p 2)) 3 (p i) ≠ 0 := fun i g1 g2 => by
    have k1 := h.t_same (i - 3) (by omega)
    have k2 := h.t_same (j - 3) (by omega)
    rw [show i - 3 + 3 = i by omega] at k1
    rw [show j - 3 + 3 = j by omega] at k2
    rw [k1, ← k2]; exact hne
  have ht := h.tri
  obtain ⟨e, f, hef, e0, e2, e1⟩ : ∃ e f : Pt, e ≠ f ∧ crossP e f (p 0) = 0 ∧ crossP e f (p 2) = 0 ∧ 0 < crossP e f (p 1) := by
    have k1 : crossP (p 2) (p 0) (p 1) = crossP (p 0) (p 1) (p 2) := by unfold crossP crossI; grind
    rcases Int.lt_or_gt_of_ne ht with l | l
    · exact ⟨p 0, p 2, h.ne02, cross_aa _ _, cross_abb _ _, by rw [crossP_neg (p 2) (p 0)]; omega⟩
    · exact ⟨p 2, p 0, Ne.symm h.ne02, cross_abb _ _, cross_aa _ _, by omega⟩
  have hpos : ∀ k, k ≤ m + 2 → 0 ≤ crossP e f (p k) := fun k hk => by
    by_cases g : 3 ≤ k ∧ k ≤ m + 1
    · refine Classical.byContradiction fun hn => hall k g.1 g.2 ?_
      refine half_plane (e := e) (f := f) (p := triP (p 0) (p 1) (p 2)) (n := 3) rfl hef (fun i hi => ?_) (by omega) (h.t_off g.1 g.2)
      have c : i = 0 ∨ i = 1 ∨ i = 2 ∨ i = 3 := by omega
      rcases c with rfl | rfl | rfl | rfl
      · exact Int.le_of_eq e0.symm
      · exact Int.le_of_lt e1
      · exact Int.le_of_eq e2.symm
      · exact Int.le_of_eq e0.symm
    · have c : k = 0 ∨ k = 1 ∨ k = 2 ∨ k = m + 2 := by omega
      rcases c with rfl | rfl | rfl | rfl
      · exact Int.le_of_eq e0.symm
      · exact Int.le_of_lt e1
      · exact Int.le_of_eq e2.symm
      · rw [h.p_end]; exact Int.le_of_eq e0.symm
  refine h.inn ?_
  refine half_plane (e := scP 2 e) (f := scP 2 f) (p := fun k => scP 2 (p k)) (by simp only [h.p_end]) (fun g => hef (by
    have g1 := congrArg Prod.fst g
    have g2 := congrArg Prod.snd g
    simp only [scP] at g1 g2
    exact Prod.ext (by omega) (by omega))) (fun k hk => by
      simp only [sc_cross]
      have := hpos k hk
      omega) ?_ (fun k hk => (h.ear k hk).off (h.hp.ne k))
  have g : crossP (scP 2 e) (scP 2 f) (mixP 1 (p 0) 1 (p 2)) = 2 * (crossP e f (p 0) + crossP e f (p 2)) := by
    unfold scP mixP crossP crossI; simp only; grind
  rw [g, e0, e2]; decide
end
end Go.Proofs.Ytimkknljoeiceaa

/-
  Plain geometry: cutting off an ear: a diagonal of the whole is one of what is left.
-/
namespace Go.Proofs.Ytimkknljoeiceaa

section
variable {p q : Nat → Pt} {m : Nat}
/-- Two cells that fit leave the third one no choice. -/
theorem no_cross {p : Nat → Pt} {u v : Pt} (f0 : Apart (p 0) (p 1) u v) (f1 : Apart (p 1) (p 2) u v) (e : wN (triP (p 0) (p 1) (p 2)) 3 u = wN (triP (p 0) (p 1) (p 2)) 3 v) : wS (p 0) (p 2) u - wS (p 0) (p 2) v = rS u v (p 2) - rS u v (p 0) := by
  have c0 := cell f0
  have c1 := cell f1
  rw [tri_w, tri_w, wS_flip (p 0) (p 2) u, wS_flip (p 0) (p 2) v] at e
  omega
theorem Cut.base_free (h : Cut p q m) {i k : Nat} (hi2 : 2 ≤ i) (hi : i ≤ m + 2) (hk2 : 2 ≤ k) (hk : k ≤ m + 2) (huv : p i ≠ p k) (n1 : ¬ (i = 2 ∧ k = m + 2)) (n2 : ¬ (i = m + 2 ∧ k = 2))
    (hf : ∀ j, j < m + 2 → Free (p j) (p (j + 1)) (p i) (p k)) : Free (p 0) (p 2) (p i) (p k) := fun s t x y hs ht hx hy h5 h6 e1 e2 => by
  refine Classical.byContradiction fun hn => ?_
  have x0 : 0 < x := by omega
  have y0 : 0 < y := by omega
  have m2 := h.m2
  have t0 : 0 < t := by
    refine Classical.byContradiction fun g => ?_
    obtain rfl : t = 0 := by omega
    have := hf 0 (by omega) s 0 x y hs (by omega) hx hy h5 h6 (by rw [Int.zero_mul] at e1 ⊢; exact e1) (by rw [Int.zero_mul] at e2 ⊢; exact e2)
    omega
  have s0 : 0 < s := by
    refine Classical.byContradiction fun g => ?_
    obtain rfl : s = 0 := by omega
    have := hf 2 (by omega) t 0 x y ht (by omega) hx hy (by omega) (by omega) (by rw [Int.zero_mul] at e1 ⊢; omega) (by rw [Int.zero_mul] at e2 ⊢; omega)
    omega
  have kind : ∀ j, 2 ≤ j → j ≤ m + 2 → (3 ≤ j ∧ j ≤ m + 1) ∨ (j = 2 ∧ p j = p 2) ∨ (j = m + 2 ∧ p j = p 0) := fun j g1 g2 => by
    by_cases c : j = 2
    · exact .inr (.inl ⟨c, by rw [c]⟩)
    · by_cases c2 : j = m + 2
      · exact .inr (.inr ⟨c2, by rw [c2]; exact h.p_end⟩)
      · exact .inl (by omega)
  have onb : ∀ j, 2 ≤ j → j ≤ m + 2 → onP (p 0) (p 2) (p j) = true → p j = p 0 ∨ p j = p 2 := fun j g1 g2 ho => by
    rcases kind j g1 g2 with c | c | c
    · rw [(h.off_t c.1 c.2).2.2] at ho; cases ho
    · exact .inr c.2
    · exact .inl c.2
  have ona : ∀ j, j < m + 2 → onP (p i) (p k) (p j) = true → p j = p i ∨ p j = p k := fun j g ho => by
    obtain ⟨a, b, w⟩ := on_wt ho huv
    have w1 := w.e1; have w2 := w.e2; have w3 := w.pq; have w4 := w.p0; have w5 := w.q0
    refine Classical.byContradiction fun hno => ?_
    have a0 := w.ne_c (fun e => hno (.inr e))
    have b0 := w.ne_a (fun e => hno (.inl e))
    have := hf j g (a + b) 0 a b (by omega) (by omega) w4 w5 (by omega) (by omega) (by rw [Int.zero_mul, Int.add_zero]; exact w1) (by rw [Int.zero_mul, Int.add_zero]; exact w2)
    omega
  have eqb : ∀ j, 2 ≤ j → j ≤ m + 2 → p j = p 0 → j = m + 2 := fun j g1 g2 e => by
    rcases kind j g1 g2 with c | c | c
    · have := (h.off_t c.1 c.2).1
      rw [e, on_a] at this; cases this
    · exact absurd (e.symm.trans c.2) h.ne02
    · exact c.1
  have eqc : ∀ j, 2 ≤ j → j ≤ m + 2 → p j = p 2 → j = 2 := fun j g1 g2 e => by
    rcases kind j g1 g2 with c | c | c
    · have := (h.off_t c.1 c.2).2.1
      rw [e, on_b] at this; cases this
    · exact c.1
    · exact absurd (c.2.symm.trans e) h.ne02
  have k1 := cross_two (e := p 0) (f := p 2) h6 e1 e2
  rw [cross_aa, cross_abb, Int.mul_zero, Int.mul_zero] at k1
  by_cases hu : crossP (p 0) (p 2) (p i) = 0
  · rw [hu, Int.mul_zero] at k1
    have hv : crossP (p 0) (p 2) (p k) = 0 := by
      rcases Int.mul_eq_zero.1 (show y * crossP (p 0) (p 2) (p k) = 0 by omega) with g | g
      · omega
      · exact g
    exact flat_over s0 t0 x0 y0 h6 e1 e2 h.ne02 huv hu hv (onb i hi2 hi) (onb k hk2 hk) (ona 0 (by omega)) (ona 2 (by omega))
      (fun g => n2 ⟨eqb i hi2 hi g.1.symm, eqc k hk2 hk g.2.symm⟩) (fun g => n1 ⟨eqc i hi2 hi g.2.symm, eqb k hk2 hk g.1.symm⟩)
  · have hv : crossP (p 0) (p 2) (p k) ≠ 0 := fun g => by
      rw [g, Int.mul_zero] at k1
      rcases Int.mul_eq_zero.1 (show x * crossP (p 0) (p 2) (p i) = 0 by omega) with z | z
      · omega
      · exact hu z
    have mid : ∀ j, 2 ≤ j → j ≤ m + 2 → crossP (p 0) (p 2) (p j) ≠ 0 → 3 ≤ j ∧ j ≤ m + 1 := fun j g1 g2 hc => by
      rcases kind j g1 g2 with c | c | c
      · exact c
      · exact absurd (by rw [c.2, cross_abb]) hc
      · exact absurd (by rw [c.2, cross_aa]) hc
    have iu := mid i hi2 hi hu
    have kv := mid k hk2 hk hv
    obtain ⟨a1, a2, -⟩ := h.off_t iu.1 iu.2
    obtain ⟨b1, b2, -⟩ := h.off_t kv.1 kv.2
    exact cross_cell s0 t0 x0 y0 h6 e1 e2 hu (no_cross ((hf 0 (by omega)).apart a1 b1) ((hf 1 (by omega)).apart a2 b2) (by rw [h.t_zero iu.1 iu.2, h.t_zero kv.1 kv.2]))
/-- A diagonal of the whole is one of what is left. -/
theorem Cut.forth (h : Cut p q m) {i k : Nat} (hi2 : 2 ≤ i) (hi : i ≤ m + 2) (hk2 : 2 ≤ k) (hk : k ≤ m + 2) (huv : p i ≠ p k) (n1 : ¬ (i = 2 ∧ k = m + 2)) (n2 : ¬ (i = m + 2 ∧ k = 2)) (hik : i ≠ k)
    (hf : ∀ j, j < m + 2 → Free (p j) (p (j + 1)) (p i) (p k)) (hne : wM p (m + 2) (p i) (p k) ≠ 0) : (∀ j, j < m + 1 → Free (q j) (q (j + 1)) (p i) (p k)) ∧ wM q (m + 1) (p i) (p k) ≠ 0 := by
  have m2 := h.m2
  have fb := h.base_free hi2 hi hk2 hk huv n1 n2 hf
  refine ⟨fun j hj => ?_, ?_⟩
  · by_cases e : j = m
    · subst e
      rw [h.q_m, h.q_end]; exact fb
    · rw [h.at' j (by omega), h.at' (j + 1) (by omega)]
      exact hf (j + 2) (by omega)
  · have ft : ∀ j, j < 3 → Free (triP (p 0) (p 1) (p 2) j) (triP (p 0) (p 1) (p 2) (j + 1)) (p i) (p k) := fun j hj => by
      have e : j = 0 ∨ j = 1 ∨ j = 2 := by omega
      rcases e with rfl | rfl | rfl
      · exact hf 0 (by omega)
      · exact hf 1 (by omega)
      · exact fb.flip
    have hz : wM (triP (p 0) (p 1) (p 2)) 3 (p i) (p k) = 0 := by
      by_cases c : 3 ≤ i ∧ i ≤ m + 1
      · rw [← end_const (n := 3) rfl ft (h.t_off c.1 c.2)]
        exact h.t_zero c.1 c.2
      · have c2 : 3 ≤ k ∧ k ≤ m + 1 := by omega
        rw [wM_swap, ← end_const (n := 3) rfl (fun j hj => (ft j hj).swap) (h.t_off c2.1 c2.2)]
        exact h.t_zero c2.1 c2.2
    have := h.sumM (p i) (p k)
    omega
end
end Go.Proofs.Ytimkknljoeiceaa

/-
  A diagonal of a list of points, said by common points and the winding number.
-/
namespace Go.Proofs.Ytimkknljoeiceaa
open Go.RowKit

theorem touch_only {a b d : Pt} (had : a ≠ d) (hab : a ≠ b) (h1 : onP a d b = false) (h2 : onP a b d = false) : Only d a a b := by
  refine corner_only (Ne.symm had) hab ?_
  by_cases hc : crossP d a b = 0
  · right
    rcases on_line hc with g | g | g
    · exact g
    · rw [h2] at g; cases g
    · rw [on_flip] at g; rw [h1] at g; cases g
  · exact .inl hc
theorem Only.free {a b c d : Pt} (h : Only a b c d) : Free a b c d := fun s t p q h1 h2 h3 h4 h5 h6 e1 e2 => .inr (h s t p q h1 h2 h3 h4 h5 h6 e1 e2)
theorem touch_free {a b c d : Pt} (hab : a ≠ b) (hcd : c ≠ d) (h : meetI a b c d = 1) (hc : c = a ∨ c = b ∨ d = a ∨ d = b) : Free c d a b := by
  have M := meet_one h
  have no : ∀ x y : Pt, x ≠ y → x ∈ sharedS a b c d → y ∈ sharedS a b c d → False := fun x y hxy hx hy => hxy (M x y hx hy)
  have sh : ∀ x, (x = a ∨ x = b) → onP c d x = true → x ∈ sharedS a b c d := fun x hx ho => mem_shared.2 (.inl ⟨hx, ho⟩)
  have sh2 : ∀ x, (x = c ∨ x = d) → onP a b x = true → x ∈ sharedS a b c d := fun x hx ho => mem_shared.2 (.inr ⟨hx, ho⟩)
  have off : ∀ x y : Pt, x ≠ y → x ∈ sharedS a b c d → (y = a ∨ y = b) → onP c d y = false := fun x y hxy hx hy => by
    cases ho : onP c d y
    · rfl
    · exact (no x y hxy hx (sh y hy ho)).elim
  have off2 : ∀ x y : Pt, x ≠ y → x ∈ sharedS a b c d → (y = c ∨ y = d) → onP a b y = false := fun x y hxy hx hy => by
    cases ho : onP a b y
    · rfl
    · exact (no x y hxy hx (sh2 y hy ho)).elim
  rcases hc with e | e | e | e
  · have m0 := sh a (.inl rfl) (by rw [← e]; exact on_left _ _)
    have k1 := off a b hab m0 (.inr rfl)
    have k2 := off2 a d (by rw [← e]; exact hcd) m0 (.inr rfl)
    rw [e] at k1 ⊢
    exact (touch_only (by rw [← e]; exact hcd) hab k1 k2).flip.free
  · have m0 := sh b (.inr rfl) (by rw [← e]; exact on_left _ _)
    have k1 := off b a (Ne.symm hab) m0 (.inl rfl)
    have k2 := off2 b d (by rw [← e]; exact hcd) m0 (.inr rfl)
    rw [e] at k1 ⊢
    exact (touch_only (by rw [← e]; exact hcd) (Ne.symm hab) k1 (by rw [on_flip]; exact k2)).flip.free.swap
  · have m0 := sh a (.inl rfl) (by rw [← e]; exact on_right _ _)
    have k1 := off a b hab m0 (.inr rfl)
    have k2 := off2 a c (by rw [← e]; exact Ne.symm hcd) m0 (.inl rfl)
    rw [e] at k1 ⊢
    exact (touch_only (by rw [← e]; exact Ne.symm hcd) hab (by rw [on_flip]; exact k1) k2).free
  · have m0 := sh b (.inr rfl) (by rw [← e]; exact on_right _ _)
    have k1 := off b a (Ne.symm hab) m0 (.inl rfl)
    have k2 := off2 b c (by rw [← e]; exact Ne.symm hcd) m0 (.inl rfl)
    rw [e] at k1 ⊢
    exact (touch_only (by rw [← e]; exact Ne.symm hcd) (Ne.symm hab) (by rw [on_flip]; exact k1) (by rw [on_flip]; exact k2)).free.swap
theorem opp_point {a b c d : Pt} (h1 : opp a b c d = true) (h2 : opp c d a b = true) : ∃ s t p q : Int, 0 < s ∧ 0 < t ∧ 0 < p ∧ 0 < q ∧ s + t = p + q ∧ s * c.1 + t * d.1 = p * a.1 + q * b.1 ∧ s * c.2 + t * d.2 = p * a.2 + q * b.2 := by
  rw [opp_iff] at h1 h2
  have k : crossP a b c - crossP a b d = crossP c d b - crossP c d a := by unfold crossP crossI; grind
  have g1 : -crossP a b d * c.1 + crossP a b c * d.1 = crossP c d b * a.1 + -crossP c d a * b.1 := by unfold crossP crossI; grind
  have g2 : -crossP a b d * c.2 + crossP a b c * d.2 = crossP c d b * a.2 + -crossP c d a * b.2 := by unfold crossP crossI; grind
  rcases h1 with ⟨l1, l2⟩ | ⟨l1, l2⟩
  · refine ⟨-crossP a b d, crossP a b c, crossP c d b, -crossP c d a, by omega, by omega, by omega, by omega, by omega, g1, g2⟩
  · refine ⟨crossP a b d, -crossP a b c, -crossP c d b, crossP c d a, by omega, by omega, by omega, by omega, by omega, ?_, ?_⟩
    · rw [Int.neg_mul] at g1 ⊢; rw [Int.neg_mul] at g1 ⊢; omega
    · rw [Int.neg_mul] at g2 ⊢; rw [Int.neg_mul] at g2 ⊢; omega
theorem free_ends {a b c d x : Pt} (h : Free c d a b) (hab : a ≠ b) (hx : x = c ∨ x = d) (ho : onP a b x = true) : x = a ∨ x = b := by
  obtain ⟨p, q, w⟩ := on_wt ho hab
  have w1 := w.e1; have w2 := w.e2; have w3 := w.pq; have w4 := w.p0; have w5 := w.q0
  refine Classical.byContradiction fun hno => ?_
  have p0 := w.ne_c (fun e => hno (.inr e))
  have q0 := w.ne_a (fun e => hno (.inl e))
  rcases hx with rfl | rfl
  · have := h (p + q) 0 p q (by omega) (by omega) w4 w5 (by omega) (by omega) (by rw [Int.zero_mul, Int.add_zero]; exact w1) (by rw [Int.zero_mul, Int.add_zero]; exact w2)
    omega
  · have := h 0 (p + q) p q (by omega) (by omega) w4 w5 (by omega) (by omega) (by rw [Int.zero_mul, Int.zero_add]; exact w1) (by rw [Int.zero_mul, Int.zero_add]; exact w2)
    omega
theorem free_meet {a b c d : Pt} (h : Free c d a b) (hab : a ≠ b) (hcd : c ≠ d) (ha : onP c d a = true → a = c ∨ a = d) (hb : onP c d b = true → b = c ∨ b = d) : meetI a b c d = 0 ∨ meetI a b c d = 1 := by
  have hno : (opp a b c d && opp c d a b) = false := by
    cases ho : opp a b c d && opp c d a b
    · rfl
    · rw [Bool.and_eq_true] at ho
      obtain ⟨s, t, p, q, s0, t0, p0, q0, h6, e1, e2⟩ := opp_point ho.1 ho.2
      have := h s t p q (by omega) (by omega) (by omega) (by omega) (by omega) h6 e1 e2
      omega
  have hsh : ∀ x ∈ sharedS a b c d, (x = a ∨ x = b) ∧ (x = c ∨ x = d) := fun x hx => by
    rcases mem_shared.1 hx with ⟨g, ho⟩ | ⟨g, ho⟩
    · rcases g with rfl | rfl
      · exact ⟨.inl rfl, ha ho⟩
      · exact ⟨.inr rfl, hb ho⟩
    · exact ⟨free_ends h hab g ho, g⟩
  have hone : ∀ x ∈ sharedS a b c d, ∀ y ∈ sharedS a b c d, x = y := fun x hx y hy => by
    obtain ⟨g1, g2⟩ := hsh x hx
    obtain ⟨g3, g4⟩ := hsh y hy
    refine Classical.byContradiction fun hne => ?_
    have hh : (a = c ∧ b = d) ∨ (a = d ∧ b = c) := by
      rcases g1 with rfl | rfl <;> rcases g3 with rfl | rfl <;> first | exact absurd rfl hne | skip
      · rcases g2 with rfl | rfl <;> rcases g4 with rfl | rfl <;> first | exact absurd rfl hne | exact .inl ⟨rfl, rfl⟩ | exact .inr ⟨rfl, rfl⟩
      · rcases g2 with rfl | rfl <;> rcases g4 with rfl | rfl <;> first | exact absurd rfl hne | exact .inl ⟨rfl, rfl⟩ | exact .inr ⟨rfl, rfl⟩
    rcases hh with ⟨rfl, rfl⟩ | ⟨rfl, rfl⟩
    · have := h 1 1 1 1 (by omega) (by omega) (by omega) (by omega) (by omega) (by omega) rfl rfl
      omega
    · have := h 1 1 1 1 (by omega) (by omega) (by omega) (by omega) (by omega) (by omega) (Int.add_comm _ _) (Int.add_comm _ _)
      omega
  unfold meetI
  rw [hno]
  cases he : sharedS a b c d with
  | nil => simp
  | cons x t =>
    have hs : sameAll (x :: t) = true := (sameAll_iff x t).2 fun y hy => hone y (by rw [he]; exact hy) x (by rw [he]; exact List.mem_cons_self)
    rw [hs]; simp
theorem side_off {L : List Pt} (h : Good L) {a j : Nat} (ha : a < L.length) (hj : j < L.length) (h1 : j ≠ a) (h2 : j ≠ nx L a) : onP (gt L a) (gt L (nx L a)) (gt L j) = false := by
  have hl := h.1
  have hna := nx_lt (L := L) (by omega) a
  have hnj := nx_lt (L := L) (by omega) j
  have hs : (gt L a, gt L (nx L a)) ∈ sidesL L := mem_sides.2 ⟨a, ha, rfl⟩
  have ht : (gt L j, gt L (nx L j)) ∈ sidesL L := mem_sides.2 ⟨j, hj, rfl⟩
  have hne : gt L j ≠ gt L a := good_far h hj ha h1
  have hne2 : gt L j ≠ gt L (nx L a) := good_far h hj hna h2
  by_cases e : nx L j = a
  · have k := (h.2.2.2 _ ht _ hs (fun q => hne (congrArg Prod.fst q))).1
    simp only at k
    exact (k (by rw [e])).1
  · have hne3 : gt L (nx L j) ≠ gt L a := good_far h hnj ha e
    have k := (h.2.2.2 _ hs _ ht (fun q => hne (congrArg Prod.fst q).symm)).2
    simp only at k
    have m := k (fun q => hne2 q.symm) hne3
    cases ho : onP (gt L a) (gt L (nx L a)) (gt L j)
    · rfl
    · have := Mid.has_shared (a := gt L a) (b := gt L (nx L a)) (c := gt L j) (d := gt L (nx L j)) (p := gt L j) (mem_shared.2 (.inr ⟨.inl rfl, ho⟩))
      rw [m] at this
      rcases this with q | q <;> cases q
theorem side_iff {L : List Pt} (h : Good L) {i k j : Nat} (hi : i < L.length) (hk : k < L.length) (hj : j < L.length) (hik : i ≠ k) : sideB L i k j = true ↔ Free (gt L j) (gt L (nx L j)) (gt L i) (gt L k) := by
  have hl := h.1
  have hn := nx_lt (L := L) (by omega) j
  have hjn : j ≠ nx L j := by rw [nx_eq hj]; split <;> omega
  have hab := good_far h hi hk hik
  have hcd := good_far h hj hn hjn
  have hsame : sharesB L i k j = true ↔ (gt L j = gt L i ∨ gt L j = gt L k ∨ gt L (nx L j) = gt L i ∨ gt L (nx L j) = gt L k) := by
    have inj : ∀ x y, x < L.length → y < L.length → (gt L x = gt L y ↔ x = y) := fun x y hx hy => ⟨fun e => gt_inj h.2.2.1 hx hy e, fun e => by rw [e]⟩
    rw [inj j i hj hi, inj j k hj hk, inj _ i hn hi, inj _ k hn hk]
    simp only [sharesB, Bool.or_eq_true, beq_iff_eq, or_assoc]
  constructor
  · intro hb
    unfold sideB at hb
    cases hsh : sharesB L i k j
    · rw [hsh] at hb
      simp only [cond_false, beq_iff_eq] at hb
      exact fun s t p q h1 h2 h3 h4 h5 h6 e1 e2 => (Mid.apart hab hcd hb h3 h4 h1 h2 (by omega) h6.symm e1.symm e2.symm).elim
    · have hc := hsame.1 hsh
      rw [hsh] at hb
      refine touch_free hab hcd ?_ hc
      obtain ⟨x, hx⟩ := Mid.ends_shared hc
      rcases Mid.has_shared hx with e | e
      · exact e
      · rw [show sideM L i k j = 3 from e] at hb; cases hb
  · intro hf
    have end' : ∀ x, x < L.length → onP (gt L j) (gt L (nx L j)) (gt L x) = true → gt L x = gt L j ∨ gt L x = gt L (nx L j) := fun x hx ho => by
      by_cases e1 : x = j
      · exact .inl (by rw [e1])
      · by_cases e2 : x = nx L j
        · exact .inr (by rw [e2])
        · rw [side_off h hj hx e1 e2] at ho; cases ho
    have hm := free_meet hf hab hcd (end' i hi) (end' k hk)
    unfold sideB
    cases hsh : sharesB L i k j
    · rcases hm with e | e
      · rw [show sideM L i k j = 0 from e]; rfl
      · exfalso
        have hne : sharedS (gt L i) (gt L k) (gt L j) (gt L (nx L j)) ≠ [] := fun g => by
          unfold meetI at e
          rw [g] at e
          cases ho : opp (gt L i) (gt L k) (gt L j) (gt L (nx L j)) && opp (gt L j) (gt L (nx L j)) (gt L i) (gt L k) <;> rw [ho] at e <;> simp at e
        obtain ⟨x, hx⟩ := List.exists_mem_of_ne_nil _ hne
        have hc : gt L j = gt L i ∨ gt L j = gt L k ∨ gt L (nx L j) = gt L i ∨ gt L (nx L j) = gt L k := by
          rcases mem_shared.1 hx with ⟨g, ho⟩ | ⟨g, ho⟩
          · rcases g with rfl | rfl
            · rcases end' i hi ho with z | z
              · exact .inl z.symm
              · exact .inr (.inr (.inl z.symm))
            · rcases end' k hk ho with z | z
              · exact .inr (.inl z.symm)
              · exact .inr (.inr (.inr z.symm))
          · rcases free_ends hf hab g ho with z | z <;> rcases g with rfl | rfl
            · exact .inl z
            · exact .inr (.inr (.inl z))
            · exact .inr (.inl z)
            · exact .inr (.inr (.inr z))
        rw [hsame.2 hc] at hsh; cases hsh
    · rcases hm with e | e
      · rw [show sideM L i k j = 0 from e]; rfl
      · rw [show sideM L i k j = 1 from e]; rfl
theorem rp_dbl (L : List Pt) (k : Nat) : rp (dblL L) k = scP 2 (rp L k) := by
  rw [rp, rp, dbl_gt, dbl_len, dbQ, scP]
  exact Prod.ext (by simp only; omega) (by simp only; omega)
/-- What a diagonal is. -/
theorem diag_iff {L : List Pt} (h : Good L) {i k : Nat} (hi : i < L.length) (hk : k < L.length) (hik : i ≠ k) :
    diagB L i k = true ↔ farB L i k = true ∧ (∀ j, j < L.length → Free (rp L j) (rp L (j + 1)) (gt L i) (gt L k)) ∧ wM (rp L) L.length (gt L i) (gt L k) ≠ 0 := by
  have hR := good_ring h
  have hR2 : Ring (rp (dblL L)) (dblL L).length := by
    have e : rp (dblL L) = fun k => scP 2 (rp L k) := funext (rp_dbl L)
    rw [e, dbl_len]; exact hR.sc (by omega)
  have side : ∀ j, j < L.length → (sideB L i k j = true ↔ Free (rp L j) (rp L (j + 1)) (gt L i) (gt L k)) := fun j hj => by
    rw [side_iff h hi hk hj hik, rp_next, rp, Nat.mod_eq_of_lt hj]
  have w : wN (rp (dblL L)) (dblL L).length (addQ (gt L i) (gt L k)) = wM (rp L) L.length (gt L i) (gt L k) := by
    have e : rp (dblL L) = fun k => scP 2 (rp L k) := funext (rp_dbl L)
    rw [e, dbl_len, wM]
    congr 1
    unfold addQ mixP
    exact Prod.ext (by simp only; omega) (by simp only; omega)
  have ins := inn_spec hR2 (addQ (gt L i) (gt L k))
  rw [w] at ins
  simp only [diagB, Bool.and_eq_true, List.all_eq_true, List.mem_range]
  constructor
  · rintro ⟨g1, g2, g3⟩
    refine ⟨g1, fun j hj => (side j hj).1 (g2 j hj), (ins.1 ?_).2⟩
    rw [innT, dbl_rim h hi hk hik g2, g3]; rfl
  · rintro ⟨g1, g2, g3⟩
    have g4 : ∀ j, j < L.length → sideB L i k j = true := fun j hj => (side j hj).2 (g2 j hj)
    refine ⟨g1, g4, ?_⟩
    have hr := dbl_rim h hi hk hik g4
    have := ins.2 ⟨fun j => by
      rw [rp_dbl, rp_dbl]
      have := free_all hR g2 j
      have e : mixP 1 (gt L i) 1 (gt L k) = addQ (gt L i) (gt L k) := by
        unfold addQ mixP
        exact Prod.ext (by simp only; omega) (by simp only; omega)
      rwa [e] at this, g3⟩
    rw [innT, hr, Bool.not_false, Bool.true_and] at this
    exact this
end Go.Proofs.Ytimkknljoeiceaa

/-
  Cutting off an ear of a list of points: what is left is a polygon with just the diagonals of before.
-/
namespace Go.Proofs.Ytimkknljoeiceaa
open Go.RowKit

/-- Where corner j of what is left stands in the whole. -/
def upI (v j : Nat) : Nat := if j < v then j else j + 1
theorem gt_erase (L : List Pt) (v j : Nat) (hj : j + 1 < L.length) (hv : v < L.length) : gt (L.eraseIdx v) j = gt L (upI v j) := by
  have hl : (L.eraseIdx v).length = L.length - 1 := List.length_eraseIdx_of_lt hv
  rw [gt_at (by omega), gt_at (by unfold upI; split <;> omega), List.getElem_eraseIdx]
  unfold upI
  split <;> rfl
theorem up_nx {L : List Pt} {v j : Nat} (hj : j + 1 < L.length) (hv : v < L.length) (h4 : 4 ≤ L.length) :
    upI v j < L.length ∧ upI v j ≠ v ∧ (nx L (upI v j) ≠ v → upI v (nx (L.eraseIdx v) j) = nx L (upI v j)) ∧ (nx L (upI v j) = v → upI v (nx (L.eraseIdx v) j) = nx L v ∧ upI v j = pv L v) ∧ nx (L.eraseIdx v) j + 1 < L.length := by
  have hl : (L.eraseIdx v).length = L.length - 1 := List.length_eraseIdx_of_lt hv
  have hu : upI v j < L.length := by unfold upI; split <;> omega
  rw [nx_eq hu, nx_eq (L := L.eraseIdx v) (by omega), nx_eq hv, pv_eq hv, hl]
  unfold upI
  refine ⟨by split <;> omega, by split <;> omega, ?_, ?_, by split <;> omega⟩
  · intro g
    (repeat' split) <;> (repeat' split at g) <;> omega
  · intro g
    (repeat' split) <;> (repeat' split at g) <;> omega
theorem up_inj {v i k : Nat} (h : upI v i = upI v k) : i = k := by
  unfold upI at h
  split at h <;> split at h <;> omega
theorem good_erase {L : List Pt} (h : Good L) (h4 : 4 ≤ L.length) {v : Nat} (hv : v < L.length) (hd : diagB L (pv L v) (nx L v) = true) : Good (L.eraseIdx v) := by
  have hl : (L.eraseIdx v).length = L.length - 1 := List.length_eraseIdx_of_lt hv
  have h10 := h.1.2
  have ha : pv L v < L.length := pv_lt (by omega) v
  have hb : nx L v < L.length := nx_lt (by omega) v
  have hab : pv L v ≠ nx L v := by rw [pv_eq hv, nx_eq hv]; split <;> split <;> omega
  have hA := good_far h ha hb hab
  obtain ⟨-, hf, -⟩ := (diag_iff h ha hb hab).1 hd
  have hs : ∀ j, j < L.length → sideB L (pv L v) (nx L v) j = true := by
    simp only [diagB, Bool.and_eq_true, List.all_eq_true, List.mem_range] at hd
    exact hd.2.1
  have hF : ∀ j, j < L.length → Free (gt L j) (gt L (nx L j)) (gt L (pv L v)) (gt L (nx L v)) := fun j hj => by
    have := hf j hj
    rwa [rp_next, rp, Nat.mod_eq_of_lt hj] at this
  have side : ∀ s ∈ sidesL (L.eraseIdx v), (∃ j, j < L.length ∧ j ≠ v ∧ nx L j ≠ v ∧ s = (gt L j, gt L (nx L j))) ∨ s = (gt L (pv L v), gt L (nx L v)) := fun s hs => by
    obtain ⟨j, hj, rfl⟩ := mem_sides.1 hs
    rw [hl] at hj
    obtain ⟨u1, u2, u3, u4, u5⟩ := up_nx (L := L) (v := v) (j := j) (by omega) hv h4
    rw [gt_erase L v j (by omega) hv, gt_erase L v _ u5 hv]
    by_cases e : nx L (upI v j) = v
    · right
      obtain ⟨e1, e2⟩ := u4 e
      rw [e1, e2]
    · left
      exact ⟨upI v j, u1, u2, e, by rw [u3 e]⟩
  have inj : ∀ x y, x < L.length → y < L.length → gt L x = gt L y → x = y := fun x y hx hy e => gt_inj h.2.2.1 hx hy e
  have first : ∀ j, j < L.length → j ≠ v → nx L j ≠ v → gt L (nx L v) = gt L j → onP (gt L j) (gt L (nx L j)) (gt L (pv L v)) = false ∧ onP (gt L (pv L v)) (gt L (nx L v)) (gt L (nx L j)) = false := fun j hj g1 g2 e => by
    have ej := inj _ _ hb hj e
    have hn := nx_lt (L := L) (by omega) j
    have k1 : pv L v ≠ j := by rw [← ej]; exact hab
    have k2 : pv L v ≠ nx L j := by rw [← ej, pv_eq hv, nx_eq hb, nx_eq hv]; (repeat' split) <;> omega
    have k3 : nx L j ≠ nx L v := by rw [ej]; rw [nx_eq hj]; split <;> omega
    refine ⟨side_off h hj ha k1 k2, ?_⟩
    cases ho : onP (gt L (pv L v)) (gt L (nx L v)) (gt L (nx L j))
    · rfl
    · rcases free_ends (hF j hj) hA (.inr rfl) ho with z | z
      · exact absurd (inj _ _ hn ha z).symm k2
      · exact absurd (inj _ _ hn hb z) k3
  have last : ∀ j, j < L.length → j ≠ v → nx L j ≠ v → gt L (nx L j) = gt L (pv L v) → onP (gt L (pv L v)) (gt L (nx L v)) (gt L j) = false ∧ onP (gt L j) (gt L (nx L j)) (gt L (nx L v)) = false := fun j hj g1 g2 e => by
    have hn := nx_lt (L := L) (by omega) j
    have ej := inj _ _ hn ha e
    have k1 : nx L v ≠ nx L j := by rw [ej]; exact Ne.symm hab
    have k2 : nx L v ≠ j := fun q => by
      rw [← q] at ej
      rw [pv_eq hv, nx_eq hb, nx_eq hv] at ej
      (repeat' split at ej) <;> omega
    have k3 : j ≠ pv L v := by rw [← ej, nx_eq hj]; split <;> omega
    refine ⟨?_, side_off h hj hb k2 k1⟩
    cases ho : onP (gt L (pv L v)) (gt L (nx L v)) (gt L j)
    · rfl
    · rcases free_ends (hF j hj) hA (.inl rfl) ho with z | z
      · exact absurd (inj _ _ hj ha z) k3
      · exact absurd (inj _ _ hj hb z).symm k2
  have mz : ∀ j, j < L.length → j ≠ v → nx L j ≠ v → gt L (nx L v) ≠ gt L j → gt L (nx L j) ≠ gt L (pv L v) → meetI (gt L (pv L v)) (gt L (nx L v)) (gt L j) (gt L (nx L j)) = 0 := fun j hj g1 g2 e1 e2 => by
    have hb' := hs j hj
    have hn := nx_lt (L := L) (by omega) j
    have s1 : j ≠ pv L v := fun q => g2 (by rw [q]; exact nx_pv hv)
    have s2 : j ≠ nx L v := fun q => e1 (by rw [q])
    have s3 : nx L j ≠ pv L v := fun q => e2 (by rw [q])
    have s4 : nx L j ≠ nx L v := fun q => g1 (by
      rw [nx_eq hj, nx_eq hv] at q
      (repeat' split at q) <;> omega)
    unfold sideB sharesB at hb'
    rw [beq_eq_false_iff_ne.2 s1, beq_eq_false_iff_ne.2 s2, beq_eq_false_iff_ne.2 s3, beq_eq_false_iff_ne.2 s4] at hb'
    simpa [sideM] using hb'
  refine ⟨by omega, ?_, h.2.2.1.sublist (List.eraseIdx_sublist _ _), fun s hs' t ht' hst => ?_⟩
  · have := h.2.1
    unfold allOk at this ⊢
    rw [List.all_eq_true] at this ⊢
    exact fun x hx => this x ((List.eraseIdx_sublist L v).subset hx)
  · rcases side s hs' with ⟨j, hj, g1, g2, rfl⟩ | rfl
    · rcases side t ht' with ⟨i, hi, g3, g4, rfl⟩ | rfl
      · exact h.2.2.2 _ (mem_sides.2 ⟨j, hj, rfl⟩) _ (mem_sides.2 ⟨i, hi, rfl⟩) hst
      · refine ⟨fun e => last j hj g1 g2 e, fun e1 e2 => ?_⟩
        have := meet_zero.1 (mz j hj g1 g2 e2 e1)
        exact meet_zero.2 ⟨by rw [Bool.and_comm]; exact this.1, this.2.2.2.1, this.2.2.2.2, this.2.1, this.2.2.1⟩
    · rcases side t ht' with ⟨i, hi, g3, g4, rfl⟩ | rfl
      · exact ⟨fun e => first i hi g3 g4 e, fun e1 e2 => mz i hi g3 g4 e1 e2⟩
      · exact absurd rfl hst
end Go.Proofs.Ytimkknljoeiceaa

/-
  Cutting off an ear of a list of points: the diagonals stay.
-/
namespace Go.Proofs.Ytimkknljoeiceaa
open Go.RowKit

theorem rp_mod {L : List Pt} (h : Good L) {u v : Pt} (hf : ∀ j, j < L.length → Free (rp L j) (rp L (j + 1)) u v) (j : Nat) : Free (rp L j) (rp L (j + 1)) u v := by
  have hR := good_ring h
  have hn := h.1.1
  have e1 := hR.mod j
  have e2 := hR.mod (j + 1)
  have e3 := hR.mod (j % L.length + 1)
  rw [Nat.mod_add_mod] at e3
  rw [e1, e2, ← e3]
  exact hf _ (Nat.mod_lt _ (by omega))
theorem wM_shift {L : List Pt} (h : Good L) (t : Nat) (u v : Pt) : wM (fun k => rp L (k + t)) L.length u v = wM (rp L) L.length u v :=
  wN_shift ((good_ring h).sc (show (0 : Int) < 2 by omega)) _ t
theorem mod_once {x n : Nat} (h1 : n ≤ x) (h2 : x < 2 * n) : x % n = x - n := by
  rw [Nat.mod_eq_sub_mod h1, Nat.mod_eq_of_lt (by omega)]
theorem mod_up {v k n : Nat} (h4 : 4 ≤ n) (hv : v < n) (hk : k ≤ n - 2) : upI v ((k + v) % (n - 1)) = (k + v + 1) % n := by
  by_cases c : k + v < n - 1
  · rw [Nat.mod_eq_of_lt c, Nat.mod_eq_of_lt (by omega)]
    unfold upI
    rw [if_neg (by omega)]
  · rw [mod_once (by omega) (by omega), mod_once (by omega) (by omega)]
    unfold upI
    rw [if_pos (by omega)]; omega
theorem cut_of {L : List Pt} (h : Good L) (h4 : 4 ≤ L.length) {v : Nat} (hv : v < L.length) (hd : diagB L (pv L v) (nx L v) = true) :
    Cut (fun k => rp L (k + (v + L.length - 1))) (fun k => rp (L.eraseIdx v) (k + v)) (L.length - 2) := by
  have hl : (L.eraseIdx v).length = L.length - 1 := List.length_eraseIdx_of_lt hv
  have ha : pv L v < L.length := pv_lt (by omega) v
  have hb : nx L v < L.length := nx_lt (by omega) v
  have hab : pv L v ≠ nx L v := by rw [pv_eq hv, nx_eq hv]; split <;> split <;> omega
  obtain ⟨-, hf, hw⟩ := (diag_iff h ha hb hab).1 hd
  have e0 : rp L (0 + (v + L.length - 1)) = gt L (pv L v) := by rw [rp, pv, Nat.zero_add]
  have e2 : rp L (2 + (v + L.length - 1)) = gt L (nx L v) := by
    rw [rp, nx, show 2 + (v + L.length - 1) = v + 1 + L.length by omega, Nat.add_mod_right]
  refine ⟨?_, ?_, fun k hk => ?_, by omega, fun k hk => ?_, ?_⟩
  · rw [show L.length - 2 + 2 = L.length by omega]
    exact (good_ring h).shift _
  · have := (good_ring (good_erase h h4 hv hd)).shift v
    rwa [hl, show L.length - 1 = L.length - 2 + 1 by omega] at this
  · show rp (L.eraseIdx v) (k + v) = rp L (k + 2 + (v + L.length - 1))
    rw [rp, rp, hl, show k + 2 + (v + L.length - 1) = k + v + 1 + L.length by omega, Nat.add_mod_right, ← mod_up h4 hv hk]
    have hm : (k + v) % (L.length - 1) < L.length - 1 := Nat.mod_lt _ (by omega)
    exact gt_erase L v _ (by omega) hv
  · show Free (rp L (k + (v + L.length - 1))) (rp L (k + 1 + (v + L.length - 1))) (rp L (0 + (v + L.length - 1))) (rp L (2 + (v + L.length - 1)))
    rw [e0, e2, show k + 1 + (v + L.length - 1) = k + (v + L.length - 1) + 1 by omega]
    exact rp_mod h hf _
  · show wM (fun k => rp L (k + (v + L.length - 1))) (L.length - 2 + 2) (rp L (0 + (v + L.length - 1))) (rp L (2 + (v + L.length - 1))) ≠ 0
    rw [e0, e2, show L.length - 2 + 2 = L.length by omega, wM_shift h]
    exact hw
/-- Where corner i of what is left stands behind the ear. -/
def idxI (n v i : Nat) : Nat := if v ≤ i then i - v else i + (n - 1) - v
theorem idx_mod {n v i : Nat} (hi : i + 1 < n) (hv : v < n) : idxI n v i ≤ n - 2 ∧ (idxI n v i + v) % (n - 1) = i := by
  unfold idxI
  split
  · exact ⟨by omega, by rw [show i - v + v = i by omega, Nat.mod_eq_of_lt (by omega)]⟩
  · refine ⟨by omega, ?_⟩
    rw [show i + (n - 1) - v + v = i + (n - 1) by omega, Nat.add_mod_right, Nat.mod_eq_of_lt (by omega)]
theorem free_shift {L : List Pt} (h : Good L) (t n : Nat) (hn : L.length = n) {u v : Pt} : (∀ j, j < L.length → Free (rp L j) (rp L (j + 1)) u v) ↔ ∀ j, j < n → Free (rp L (j + t)) (rp L (j + 1 + t)) u v := by
  subst hn
  have h3 := h.1.1
  constructor
  · intro g j _
    rw [show j + 1 + t = j + t + 1 by omega]
    exact rp_mod h g _
  · intro g j hj
    have R := (good_ring h).shift t
    have all : ∀ j, Free (rp L (j + t)) (rp L (j + 1 + t)) u v := fun j => by
      have e1 : rp L (j + t) = rp L (j % L.length + t) := R.mod j
      have e2 : rp L (j + 1 + t) = rp L ((j + 1) % L.length + t) := R.mod (j + 1)
      have e3 : rp L (j % L.length + 1 + t) = rp L ((j % L.length + 1) % L.length + t) := R.mod (j % L.length + 1)
      rw [Nat.mod_add_mod] at e3
      rw [e1, e2, ← e3]
      exact g _ (Nat.mod_lt _ (by omega))
    have hle : t ≤ L.length * t := Nat.le_mul_of_pos_left t (by omega)
    have e := all (j + L.length * t - t)
    have k1 : rp L (j + L.length * t - t + t) = rp L j := by
      rw [Nat.sub_add_cancel (by omega), rp, rp, Nat.add_mul_mod_self_left]
    have k2 : rp L (j + L.length * t - t + 1 + t) = rp L (j + 1) := by
      rw [show j + L.length * t - t + 1 + t = j + 1 + L.length * t by omega, rp, rp, Nat.add_mul_mod_self_left]
    rw [k1, k2] at e
    exact e
theorem idx_apart {n v x y : Nat} (hx : x + 1 < n) (hy : y + 1 < n) (hv : v < n) (h4 : 4 ≤ n) (hn : (if y + 1 = n - 1 then 0 else y + 1) ≠ x) : ¬ (idxI n v x = 0 ∧ idxI n v y = n - 2) := fun ⟨g1, g2⟩ => by
  unfold idxI at g1 g2
  split at hn <;> split at g1 <;> split at g2 <;> omega
set_option maxHeartbeats 1000000 in
/-- The diagonals stay. -/
theorem cut_diag {L : List Pt} (h : Good L) (h4 : 4 ≤ L.length) {v : Nat} (hv : v < L.length) (hd : diagB L (pv L v) (nx L v) = true) {i k : Nat} (hi : i + 1 < L.length) (hk : k + 1 < L.length) (hfar : farB (L.eraseIdx v) i k = true) :
    diagB (L.eraseIdx v) i k = diagB L (upI v i) (upI v k) := by
  have hl : (L.eraseIdx v).length = L.length - 1 := List.length_eraseIdx_of_lt hv
  have n1 : L.length - 1 = L.length - 2 + 1 := by omega
  have n2 : L.length = L.length - 2 + 2 := by omega
  have hG := good_erase h h4 hv hd
  have hC := cut_of h h4 hv hd
  have hfar' := hfar
  simp only [farB, Bool.not_eq_true', Bool.or_eq_false_iff, beq_eq_false_iff_ne] at hfar
  obtain ⟨⟨f1, f2⟩, hik⟩ := hfar
  obtain ⟨u1, u2, u3, u4, -⟩ := up_nx (L := L) (v := v) (j := i) hi hv h4
  obtain ⟨w1, w2, w3, w4, -⟩ := up_nx (L := L) (v := v) (j := k) hk hv h4
  have huk : upI v i ≠ upI v k := fun e => hik (up_inj e)
  have hfar2 : farB L (upI v i) (upI v k) = true := by
    simp only [farB, Bool.not_eq_true', Bool.or_eq_false_iff, beq_eq_false_iff_ne]
    refine ⟨⟨fun e => ?_, fun e => ?_⟩, huk⟩
    · exact f1 (up_inj ((u3 (by rw [e]; exact w2)).trans e))
    · exact f2 (up_inj ((w3 (by rw [e]; exact u2)).trans e))
  obtain ⟨i1, i2⟩ := idx_mod (n := L.length) (v := v) hi hv
  obtain ⟨k1, k2⟩ := idx_mod (n := L.length) (v := v) hk hv
  have at1 : ∀ j, j + 1 < L.length → rp (L.eraseIdx v) (idxI L.length v j + v) = gt L (upI v j) := fun j hj => by
    rw [rp, hl, (idx_mod hj hv).2, gt_erase L v j hj hv]
  have pi : rp L (idxI L.length v i + 2 + (v + L.length - 1)) = gt L (upI v i) := (hC.at' _ i1).symm.trans (at1 i hi)
  have pk : rp L (idxI L.length v k + 2 + (v + L.length - 1)) = gt L (upI v k) := (hC.at' _ k1).symm.trans (at1 k hk)
  have hne : gt L (upI v i) ≠ gt L (upI v k) := good_far h u1 w1 huk
  have hix : idxI L.length v i ≠ idxI L.length v k := fun e => hik (by rw [← i2, ← k2, e])
  have nn : ∀ x y, x + 1 < L.length → y + 1 < L.length → nx (L.eraseIdx v) y ≠ x → ¬ (idxI L.length v x = 0 ∧ idxI L.length v y = L.length - 2) := fun x y hx hy hn g => by
    rw [nx_eq (L := L.eraseIdx v) (by omega), hl] at hn
    exact idx_apart hx hy hv h4 hn g
  have eA := diag_iff hG (i := i) (k := k) (by omega) (by omega) hik
  have eB := diag_iff h u1 w1 huk
  rw [gt_erase L v i hi hv, gt_erase L v k hk hv] at eA
  -- the two chains, from the corners that the cut speaks of
  have cq := free_shift hG v (L.length - 2 + 1) (u := gt L (upI v i)) (v := gt L (upI v k)) (hl.trans n1)
  have cp := free_shift h (v + L.length - 1) (L.length - 2 + 2) (u := gt L (upI v i)) (v := gt L (upI v k)) n2
  have mq : wM (fun k => rp (L.eraseIdx v) (k + v)) (L.length - 2 + 1) (gt L (upI v i)) (gt L (upI v k)) = wM (rp (L.eraseIdx v)) (L.eraseIdx v).length (gt L (upI v i)) (gt L (upI v k)) := by
    rw [← wM_shift hG v, hl, n1]
  have mp : wM (fun k => rp L (k + (v + L.length - 1))) (L.length - 2 + 2) (gt L (upI v i)) (gt L (upI v k)) = wM (rp L) L.length (gt L (upI v i)) (gt L (upI v k)) := by
    rw [← wM_shift h (v + L.length - 1), ← n2]
  rw [Bool.eq_iff_iff, eA, eB]
  constructor
  · rintro ⟨-, g2, g3⟩
    obtain ⟨b1, b2⟩ := hC.back (cq.1 g2) (by rw [mq]; exact g3)
    rw [mp] at b2
    exact ⟨hfar2, cp.2 b1, b2⟩
  · rintro ⟨-, g2, g3⟩
    have := hC.forth (i := idxI L.length v i + 2) (k := idxI L.length v k + 2) (by omega) (by omega) (by omega) (by omega) (by show rp L _ ≠ rp L _; rw [pi, pk]; exact hne)
      (fun g => nn i k hi hk f2 (by omega)) (fun g => nn k i hk hi f1 (by omega)) (by omega) (by
        show ∀ j, j < L.length - 2 + 2 → Free (rp L _) (rp L _) (rp L _) (rp L _)
        rw [pi, pk]; exact cp.1 g2) (by
        show wM _ _ (rp L _) (rp L _) ≠ 0
        rw [pi, pk, mp]; exact g3)
    obtain ⟨b1, b2⟩ := this
    simp only [pi, pk] at b1 b2
    rw [mq] at b2
    exact ⟨hfar', cq.2 b1, b2⟩
end Go.Proofs.Ytimkknljoeiceaa

/-
  Cutting off ears one after another: the diagonals of what is left are those of the whole.
-/
namespace Go.Proofs.Ytimkknljoeiceaa
open Go.RowKit

/-- Corners of L by their indices, in ascending order, as a polygon whose diagonals are those of L. -/
structure Rest (L : List Pt) (R : List Nat) : Prop where
  good : Good (R.map (gt L))
  up : R.Pairwise (· < ·)
  lt : ∀ x ∈ R, x < L.length
  diag : ∀ i k, i < R.length → k < R.length → farB (R.map (gt L)) i k = true → diagB (R.map (gt L)) i k = diagB L (R.getD i 0) (R.getD k 0)
theorem map_range_gt (L : List Pt) : (List.range L.length).map (gt L) = L := by
  apply List.ext_getElem (by simp)
  intro i h1 h2
  rw [List.getElem_map, List.getElem_range, gt_at h2]
theorem Rest.start {L : List Pt} (h : Good L) : Rest L (List.range L.length) := by
  refine ⟨by rw [map_range_gt]; exact h, List.pairwise_lt_range, fun x hx => List.mem_range.1 hx, fun i k hi hk _ => ?_⟩
  rw [List.length_range] at hi hk
  rw [map_range_gt]
  have g : ∀ j, j < L.length → (List.range L.length).getD j 0 = j := fun j hj => by simp [hj]
  rw [g i hi, g k hk]
theorem far_up {L : List Pt} (h4 : 4 ≤ L.length) {v : Nat} (hv : v < L.length) {i k : Nat} (hi : i + 1 < L.length) (hk : k + 1 < L.length) (hfar : farB (L.eraseIdx v) i k = true) : farB L (upI v i) (upI v k) = true := by
  simp only [farB, Bool.not_eq_true', Bool.or_eq_false_iff, beq_eq_false_iff_ne] at hfar ⊢
  obtain ⟨⟨f1, f2⟩, hik⟩ := hfar
  obtain ⟨u1, u2, u3, u4, -⟩ := up_nx (L := L) (v := v) (j := i) hi hv h4
  obtain ⟨w1, w2, w3, w4, -⟩ := up_nx (L := L) (v := v) (j := k) hk hv h4
  exact ⟨⟨fun e => f1 (up_inj ((u3 (by rw [e]; exact w2)).trans e)), fun e => f2 (up_inj ((w3 (by rw [e]; exact u2)).trans e))⟩, fun e => hik (up_inj e)⟩
theorem getD_erase (R : List Nat) (v j : Nat) (hj : j + 1 < R.length) (hv : v < R.length) : (R.eraseIdx v).getD j 0 = R.getD (upI v j) 0 := by
  have hl : (R.eraseIdx v).length = R.length - 1 := List.length_eraseIdx_of_lt hv
  have hu : upI v j < R.length := by unfold upI; split <;> omega
  have gd : ∀ (l : List Nat) (x : Nat) (hx : x < l.length), l.getD x 0 = l[x] := fun l x hx => by simp [hx]
  rw [gd _ _ (by omega), gd _ _ hu, List.getElem_eraseIdx]
  unfold upI
  split <;> rfl
theorem Rest.cut {L : List Pt} {R : List Nat} (h : Rest L R) (h4 : 4 ≤ R.length) {v : Nat} (hv : v < R.length) (hd : diagB (R.map (gt L)) (pv (R.map (gt L)) v) (nx (R.map (gt L)) v) = true) : Rest L (R.eraseIdx v) := by
  have hm : (R.eraseIdx v).map (gt L) = (R.map (gt L)).eraseIdx v := by simp [List.eraseIdx_eq_take_drop_succ, List.map_take, List.map_drop]
  have hl : (R.eraseIdx v).length = R.length - 1 := List.length_eraseIdx_of_lt hv
  have hML : (R.map (gt L)).length = R.length := List.length_map _
  refine ⟨?_, h.up.sublist (List.eraseIdx_sublist _ _), fun x hx => h.lt x ((List.eraseIdx_sublist R v).subset hx), fun i k hi hk hf => ?_⟩
  · rw [hm]; exact good_erase h.good (by omega) (by omega) hd
  · rw [hm] at hf ⊢
    rw [cut_diag h.good (by omega) (by omega) hd (by omega) (by omega) hf, getD_erase R v i (by omega) hv, getD_erase R v k (by omega) hv]
    have hu : ∀ j, j + 1 < R.length → upI v j < R.length := fun j hj => by unfold upI; split <;> omega
    exact h.diag _ _ (hu i (by omega)) (hu k (by omega)) (far_up (by omega) (by omega) (by omega) (by omega) hf)
/-- An ear of what is left, as the program asks: the corners beside it are joined by a diagonal of L. -/
theorem Rest.ear {L : List Pt} {R : List Nat} (h : Rest L R) (h4 : 4 ≤ R.length) {v : Nat} (hv : v < R.length) :
    diagB (R.map (gt L)) (pv (R.map (gt L)) v) (nx (R.map (gt L)) v) = diagB L (R.getD ((v + R.length - 1) % R.length) 0) (R.getD ((v + 1) % R.length) 0) := by
  have hML : (R.map (gt L)).length = R.length := List.length_map _
  have ha : pv (R.map (gt L)) v < (R.map (gt L)).length := pv_lt (by omega) v
  have hb : nx (R.map (gt L)) v < (R.map (gt L)).length := nx_lt (by omega) v
  have hv' : v < (R.map (gt L)).length := by omega
  have e : farB (R.map (gt L)) (pv (R.map (gt L)) v) (nx (R.map (gt L)) v) = true := by
    simp only [farB, Bool.not_eq_true', Bool.or_eq_false_iff, beq_eq_false_iff_ne]
    rw [nx_pv hv', nx_eq hb, nx_eq hv', pv_eq hv', hML]
    refine ⟨⟨?_, ?_⟩, ?_⟩ <;> (repeat' split) <;> omega
  rw [h.diag _ _ (by omega) (by omega) e, pv, nx, hML]
end Go.Proofs.Ytimkknljoeiceaa
