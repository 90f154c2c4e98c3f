/-
  Plain geometry: a segment has as many lattice points as its steps' greatest common divisor.
-/
import Derived.Test.YtklbambnnkdjlaaLat
namespace Go.Proofs.Ytklbambnnkdjlaa

theorem bezout : ∀ a b : Nat, ∃ s t : Int, s * a + t * b = Nat.gcd a b := fun a b => by
  induction a, b using Nat.gcd.induction with
  | H0 b => exact ⟨0, 1, by simp⟩
  | H1 a b ha ih =>
    obtain ⟨s, t, h⟩ := ih
    refine ⟨t - s * (b / a : Nat), s, ?_⟩
    rw [Nat.gcd_rec a b, ← h]
    have e : (b : Int) = (b % a : Nat) + a * (b / a : Nat) := by
      have := Nat.mod_add_div b a
      exact_mod_cast this.symm
    generalize ((b % a : Nat) : Int) = r at *
    generalize ((b / a : Nat) : Int) = q at *
    rw [e]
    grind
/-- The steps of a segment: g steps of (dx, dy), that have no common divisor. -/
theorem steps_of (x y : Int) (h : ¬ (x = 0 ∧ y = 0)) : ∃ (g : Nat) (dx dy s t : Int), g = Nat.gcd x.natAbs y.natAbs ∧ 0 < g ∧ x = g * dx ∧ y = g * dy ∧ s * dx + t * dy = 1 := by
  have hg : 0 < Nat.gcd x.natAbs y.natAbs := by
    rcases Nat.eq_zero_or_pos (Nat.gcd x.natAbs y.natAbs) with k | k
    · have := Nat.gcd_eq_zero_iff.1 k
      omega
    · exact k
  obtain ⟨s, t, hb⟩ := bezout x.natAbs y.natAbs
  obtain ⟨u, hu⟩ := Nat.gcd_dvd_left x.natAbs y.natAbs
  obtain ⟨v, hv⟩ := Nat.gcd_dvd_right x.natAbs y.natAbs
  generalize hG : Nat.gcd x.natAbs y.natAbs = g at *
  have hx : ∃ e : Int, (e = 1 ∨ e = -1) ∧ x = e * x.natAbs := by
    rcases Int.le_total 0 x with k | k
    · exact ⟨1, .inl rfl, by omega⟩
    · exact ⟨-1, .inr rfl, by omega⟩
  have hy : ∃ e : Int, (e = 1 ∨ e = -1) ∧ y = e * y.natAbs := by
    rcases Int.le_total 0 y with k | k
    · exact ⟨1, .inl rfl, by omega⟩
    · exact ⟨-1, .inr rfl, by omega⟩
  obtain ⟨e, he, hx⟩ := hx
  obtain ⟨f, hf, hy⟩ := hy
  have hu' : (x.natAbs : Int) = g * u := by exact_mod_cast hu
  have hv' : (y.natAbs : Int) = g * v := by exact_mod_cast hv
  rw [hu', hv'] at hb
  rw [hu'] at hx
  rw [hv'] at hy
  have h1 : s * u + t * v = 1 := eq_of_mulD (d := (g : Int)) (by omega) (by rw [Int.mul_one, ← hb]; grind)
  refine ⟨g, e * u, f * v, s * e, t * f, rfl, hg, by rw [hx]; grind, by rw [hy]; grind, ?_⟩
  have : s * e * (e * u) + t * f * (f * v) = s * u * (e * e) + t * v * (f * f) := by grind
  rw [this]
  rcases he with rfl | rfl <;> rcases hf with rfl | rfl <;> omega
/-- v is on the side, and not its first end. -/
def half (a b v : Pt) : Bool := onP a b v && !(decide (v = a))
theorem sumT_one {f : Nat → Int} {k : Nat} (h1 : f k = 1) : ∀ {n : Nat}, k < n → (∀ j, j < n → j ≠ k → f j = 0) → sumT f n = 1
  | n + 1, hk, h0 => by
    rw [sumT]
    rcases Nat.lt_or_ge k n with h | h
    · rw [sumT_one h1 h fun j hj => h0 j (by omega), h0 n (by omega) (by omega)]; rfl
    · have : k = n := by omega
      subst this
      rw [h1, sumT_zero f k fun j hj => h0 j (by omega) (by omega)]; rfl
theorem sumB_swap (f : Nat → Pt → Int) (x0 y0 : Int) (w h n : Nat) : sumB (fun v => sumT (fun k => f k v) n) x0 y0 w h = sumT (fun k => sumB (f k) x0 y0 w h) n := by
  unfold sumB
  rw [← sumT_swap (fun k r => sumT (fun j => f k (x0 + j, y0 + r)) w) n h]
  exact sumT_congr h fun r _ => sumT_swap (fun j k => f k (x0 + j, y0 + r)) w n |>.symm
theorem sumB_congr {f g : Pt → Int} {x0 y0 : Int} {w h : Nat} (e : ∀ v : Pt, x0 ≤ v.1 → v.1 < x0 + w → y0 ≤ v.2 → v.2 < y0 + h → f v = g v) : sumB f x0 y0 w h = sumB g x0 y0 w h :=
  sumT_congr h fun r hr => sumT_congr w fun j hj => e _ (by simp only; omega) (by simp only; omega) (by simp only; omega) (by simp only; omega)
theorem sumB_add (f g : Pt → Int) (x0 y0 : Int) (w h : Nat) : sumB (fun v => f v + g v) x0 y0 w h = sumB f x0 y0 w h + sumB g x0 y0 w h := by
  unfold sumB
  rw [← sumT_add]
  exact sumT_congr h fun r _ => sumT_add _ _ w
theorem sumB_mul (c : Int) (f : Pt → Int) (x0 y0 : Int) (w h : Nat) : sumB (fun v => c * f v) x0 y0 w h = c * sumB f x0 y0 w h := by
  unfold sumB
  rw [← sumT_mul]
  exact sumT_congr h fun r _ => sumT_mul _ _ w
def at1 (c v : Pt) : Int := if v.1 = c.1 ∧ v.2 = c.2 then 1 else 0
theorem sumB_one {c : Pt} {x0 y0 : Int} {w h : Nat} (h1 : x0 ≤ c.1) (h2 : c.1 < x0 + w) (h3 : y0 ≤ c.2) (h4 : c.2 < y0 + h) : sumB (at1 c) x0 y0 w h = 1 := by
  refine sumT_one (k := (c.2 - y0).toNat) ?_ (by omega) fun r hr hne => ?_
  · refine sumT_one (k := (c.1 - x0).toNat) ?_ (by omega) fun j hj hne => ?_
    · unfold at1; simp only; rw [if_pos (by omega)]
    · unfold at1; simp only; rw [if_neg (by omega)]
  · refine sumT_zero _ _ fun j _ => ?_
    unfold at1; simp only; rw [if_neg (by omega)]
theorem le_prod {j g d : Int} (h0 : 0 ≤ j) (h1 : j ≤ g) : bt 0 (g * d) (j * d) := by
  unfold bt
  rcases Int.le_total 0 d with k | k
  · left
    exact ⟨Int.mul_nonneg h0 k, Int.mul_le_mul_of_nonneg_right h1 k⟩
  · right
    have a1 := Int.mul_nonneg h0 (show 0 ≤ -d by omega)
    have a2 := Int.mul_le_mul_of_nonneg_right h1 (show 0 ≤ -d by omega)
    rw [Int.mul_neg] at a1
    rw [Int.mul_neg, Int.mul_neg] at a2
    omega
theorem prod_le {j g d : Int} (hg : 0 < g) (hd : d ≠ 0) (h : bt 0 (g * d) (j * d)) : 0 ≤ j ∧ j ≤ g := by
  unfold bt at h
  rcases Int.lt_or_gt_of_ne hd with k | k
  · have a0 := Int.mul_pos hg (show 0 < -d by omega)
    rw [Int.mul_neg] at a0
    have a1 : j * d ≤ 0 ∧ g * d ≤ j * d := by omega
    constructor
    · rcases Int.lt_or_le j 0 with l | l
      · have := Int.mul_pos_of_neg_of_neg l k; omega
      · exact l
    · exact Int.le_of_mul_le_mul_right (a := -d) (by rw [Int.mul_neg, Int.mul_neg]; omega) (by omega)
  · have a0 := Int.mul_pos hg k
    have a1 : 0 ≤ j * d ∧ j * d ≤ g * d := by omega
    constructor
    · rcases Int.lt_or_le j 0 with l | l
      · have := Int.mul_neg_of_neg_of_pos l k; omega
      · exact l
    · exact Int.le_of_mul_le_mul_right a1.2 k
/-- As many lattice points on a segment as its steps. -/
theorem seg_count {a b : Pt} (hab : a ≠ b) {x0 y0 : Int} {w h : Nat} (a0 : x0 ≤ a.1) (a1 : a.1 < x0 + w) (b0 : x0 ≤ b.1) (b1 : b.1 < x0 + w) (a2 : y0 ≤ a.2) (a3 : a.2 < y0 + h) (b2 : y0 ≤ b.2) (b3 : b.2 < y0 + h) :
    sumB (fun v => ind (half a b v)) x0 y0 w h = (Nat.gcd (b.1 - a.1).natAbs (b.2 - a.2).natAbs : Nat) := by
  obtain ⟨g, dx, dy, s, t, hg, g0, ex, ey, e1⟩ := steps_of (b.1 - a.1) (b.2 - a.2) (fun e => hab (Prod.ext (by omega) (by omega)))
  rw [← hg]
  have hd : dx ≠ 0 ∨ dy ≠ 0 := by
    by_cases k1 : dx = 0
    · right; intro k2; rw [k1, k2, Int.mul_zero, Int.mul_zero] at e1; omega
    · exact .inl k1
  have on : ∀ j : Int, 0 ≤ j → j ≤ g → onP a b (a.1 + j * dx, a.2 + j * dy) = true := fun j h0 h1 => by
    have p1 := le_prod (d := dx) h0 h1
    have p2 := le_prod (d := dy) h0 h1
    rw [← ex] at p1
    rw [← ey] at p2
    refine (onP_iff _ _ _).2 ⟨?_, by unfold bt at *; simp only; omega, by unfold bt at *; simp only; omega⟩
    unfold crossP crossI
    simp only
    rw [ex, ey]
    grind
  have inj : ∀ i j : Int, i * dx = j * dx → i * dy = j * dy → i = j := fun i j k1 k2 => by
    rcases hd with k | k
    · exact Int.eq_of_mul_eq_mul_right k k1
    · exact Int.eq_of_mul_eq_mul_right k k2
  have e : ∀ v : Pt, ind (half a b v) = sumT (fun j => at1 (a.1 + (j + 1 : Nat) * dx, a.2 + (j + 1 : Nat) * dy) v) g := fun v => by
    cases hh : half a b v
    · refine (sumT_zero _ _ fun j hj => ?_).symm
      unfold at1
      simp only
      rw [if_neg]
      rintro ⟨k1, k2⟩
      have ev : v = (a.1 + (j + 1 : Nat) * dx, a.2 + (j + 1 : Nat) * dy) := Prod.ext k1 k2
      have o := on (j + 1 : Nat) (by omega) (by omega)
      rw [← ev] at o
      unfold half at hh
      rw [o, Bool.true_and] at hh
      have ea : v = a := by simpa using hh
      rw [ea] at k1 k2
      have := inj (j + 1 : Nat) 0 (by rw [Int.zero_mul]; omega) (by rw [Int.zero_mul]; omega)
      omega
    · unfold half at hh
      rw [Bool.and_eq_true] at hh
      obtain ⟨o, hne⟩ := hh
      have hne : v ≠ a := by simpa using hne
      obtain ⟨c1, c2, c3⟩ := (onP_iff _ _ _).1 o
      have c : dx * (v.2 - a.2) = dy * (v.1 - a.1) := by
        refine eq_of_mulD (d := (g : Int)) (by omega) ?_
        unfold crossP crossI at c1
        rw [ex, ey] at c1
        rw [← Int.mul_assoc, ← Int.mul_assoc]
        omega
      have k1 : (s * (v.1 - a.1) + t * (v.2 - a.2)) * dx = v.1 - a.1 := by grind
      have k2 : (s * (v.1 - a.1) + t * (v.2 - a.2)) * dy = v.2 - a.2 := by grind
      generalize s * (v.1 - a.1) + t * (v.2 - a.2) = j at k1 k2
      have hj : 0 ≤ j ∧ j ≤ g := by
        rcases hd with k | k
        · refine prod_le (d := dx) (by omega) k ?_
          rw [k1, ← ex]; unfold bt at *; omega
        · refine prod_le (d := dy) (by omega) k ?_
          rw [k2, ← ey]; unfold bt at *; omega
      have hj0 : j ≠ 0 := fun e => by
        rw [e, Int.zero_mul] at k1 k2
        exact hne (Prod.ext (by omega) (by omega))
      refine (sumT_one (k := (j - 1).toNat) ?_ (by omega) fun i hi hne' => ?_).symm
      · unfold at1
        simp only
        rw [show (((j - 1).toNat + 1 : Nat) : Int) = j by omega, if_pos (by omega)]
      · unfold at1
        simp only
        rw [if_neg]
        rintro ⟨l1, l2⟩
        have := inj (i + 1 : Nat) j (by omega) (by omega)
        omega
  rw [sumB_congr (g := fun v => sumT (fun j => at1 (a.1 + (j + 1 : Nat) * dx, a.2 + (j + 1 : Nat) * dy) v) g) (fun v _ _ _ _ => e v), sumB_swap]
  rw [sumT_congr (g := fun _ => 1) _ fun j hj => ?_, sumT_const, Int.mul_one]
  obtain ⟨_, c2, c3⟩ := (onP_iff _ _ _).1 (on (j + 1 : Nat) (by omega) (by omega))
  unfold bt at c2 c3
  simp only at c2 c3
  exact sumB_one (by simp only; omega) (by simp only; omega) (by simp only; omega) (by simp only; omega)
end Go.Proofs.Ytklbambnnkdjlaa
