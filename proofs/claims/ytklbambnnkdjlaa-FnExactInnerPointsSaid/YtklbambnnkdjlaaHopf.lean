/-
  Plain geometry: how often a ring goes round its own corners; its turns.
-/
import Derived.Test.YtklbambnnkdjlaaWind
import Derived.Test.YtklbambnnkdjlaaArea
namespace Go.Proofs.Ytklbambnnkdjlaa

/-! ### Sums -/
theorem sumT_congr {f g : Nat → Int} : ∀ n, (∀ k, k < n → f k = g k) → sumT f n = sumT g n
  | 0, _ => rfl
  | n + 1, h => by rw [sumT, sumT, sumT_congr n (fun k hk => h k (by omega)), h n (by omega)]
theorem sumT_add (f g : Nat → Int) : ∀ n, sumT (fun k => f k + g k) n = sumT f n + sumT g n
  | 0 => rfl
  | n + 1 => by simp only [sumT]; rw [sumT_add f g n]; omega
theorem sumT_sub (f g : Nat → Int) : ∀ n, sumT (fun k => f k - g k) n = sumT f n - sumT g n
  | 0 => rfl
  | n + 1 => by simp only [sumT]; rw [sumT_sub f g n]; omega
theorem sumT_tele (g : Nat → Int) : ∀ n, sumT (fun k => g (k + 1) - g k) n = g n - g 0
  | 0 => by simp [sumT]
  | n + 1 => by simp only [sumT]; rw [sumT_tele g n]; omega
theorem sumT_succ' (f : Nat → Int) : ∀ n, sumT f (n + 1) = f 0 + sumT (fun k => f (k + 1)) n
  | 0 => by simp [sumT]
  | n + 1 => by rw [sumT, sumT_succ' f n, sumT]; omega
theorem sumT_zero (f : Nat → Int) : ∀ n, (∀ k, k < n → f k = 0) → sumT f n = 0
  | 0, _ => rfl
  | n + 1, h => by rw [sumT, sumT_zero f n (fun k hk => h k (by omega)), h n (by omega)]; rfl
theorem sumT_rot {f : Nat → Int} {n : Nat} (h : f n = f 0) : sumT (fun k => f (k + 1)) n = sumT f n := by
  have h1 := sumT_succ' f n
  rw [sumT, h] at h1
  omega

/-! ### Rings -/
structure Ring (p : Nat → Pt) (n : Nat) : Prop where
  n3 : 3 ≤ n
  per : ∀ k, p (k + n) = p k
  ne : ∀ k, p k ≠ p (k + 1)
  apart : ∀ i j, i + 2 ≤ j → j + 2 ≤ i + n → Apart (p i) (p (i + 1)) (p j) (p (j + 1))
  corner : ∀ k, crossP (p k) (p (k + 1)) (p (k + 2)) ≠ 0 ∨ onP (p k) (p (k + 2)) (p (k + 1)) = true
theorem Ring.shift {p : Nat → Pt} {n : Nat} (h : Ring p n) (t : Nat) : Ring (fun k => p (k + t)) n where
  n3 := h.n3
  per k := by rw [show k + n + t = k + t + n by omega]; exact h.per _
  ne k := by have := h.ne (k + t); rwa [show k + t + 1 = k + 1 + t by omega] at this
  apart i j h1 h2 := by
    have := h.apart (i + t) (j + t) (by omega) (by omega)
    rwa [show i + t + 1 = i + 1 + t by omega, show j + t + 1 = j + 1 + t by omega] at this
  corner k := by
    have := h.corner (k + t)
    rwa [show k + t + 1 = k + 1 + t by omega, show k + t + 2 = k + 2 + t by omega] at this
def wN (p : Nat → Pt) (n : Nat) (v : Pt) : Int := sumT (fun k => wS (p k) (p (k + 1)) v) n
theorem wN_shift1 {p : Nat → Pt} {n : Nat} (per : ∀ k, p (k + n) = p k) (v : Pt) : wN (fun k => p (k + 1)) n v = wN p n v := by
  unfold wN
  refine sumT_rot (f := fun k => wS (p k) (p (k + 1)) v) ?_
  have h0 := per 0
  have h1 := per 1
  simp only [Nat.zero_add] at h0 ⊢
  rw [h0, show n + 1 = 1 + n by omega, h1]
theorem wN_shift {p : Nat → Pt} {n : Nat} (h : Ring p n) (v : Pt) : ∀ t, wN (fun k => p (k + t)) n v = wN p n v
  | 0 => rfl
  | t + 1 => by
    have h1 := wN_shift1 (p := fun k => p (k + t)) (h.shift t).per v
    rw [← wN_shift h v t, ← h1]
    unfold wN
    refine sumT_congr n fun k _ => ?_
    simp only [show ∀ k, k + (t + 1) = k + 1 + t from fun k => by omega]
def mu (a b c : Pt) : Int := rS b c a - wS a b c
def mu' (a b c : Pt) : Int := rS a b c - wS b c a
def rho (a b : Pt) : Int := if a.2 < b.2 ∨ (a.2 = b.2 ∧ b.1 < a.1) then 1 else 0
theorem cross_aa (a b : Pt) : crossP a b a = 0 := by unfold crossP crossI; grind
theorem wS_a (a b : Pt) : wS a b a = 0 := by unfold wS; rw [cross_aa]; split <;> (try split) <;> omega
theorem cross_abb (a b : Pt) : crossP a b b = 0 := by unfold crossP crossI; grind
theorem wS_b (a b : Pt) : wS a b b = 0 := by unfold wS; rw [cross_abb]; split <;> (try split) <;> omega
theorem cross_rot (a b c : Pt) : crossP b c a = crossP a b c := by unfold crossP crossI; grind
set_option maxHeartbeats 8000000 in
/-- What a corner adds. -/
theorem mu_rho {a b c : Pt} (hab : a ≠ b) (hbc : b ≠ c) (h : crossP a b c ≠ 0 ∨ onP a c b = true) : mu a b c - mu' a b c = rho b c - rho a b := by
  unfold mu mu' rS wS rho
  rw [cross_rot]
  obtain ⟨ax, ay⟩ := a
  obtain ⟨bx, by'⟩ := b
  obtain ⟨cx, cy⟩ := c
  have hab' : ¬ (ax = bx ∧ ay = by') := fun e => hab (by rw [e.1, e.2])
  have hbc' : ¬ (bx = cx ∧ by' = cy) := fun e => hbc (by rw [e.1, e.2])
  have e1 : ay = by' → crossP (ax, ay) (bx, by') (cx, cy) = (bx - ax) * (cy - ay) := fun h => by unfold crossP crossI; simp only; grind
  have e2 : by' = cy → crossP (ax, ay) (bx, by') (cx, cy) = (by' - ay) * (bx - cx) := fun h => by unfold crossP crossI; simp only; grind
  have hon : onP (ax, ay) (cx, cy) (bx, by') = true → crossP (ax, ay) (bx, by') (cx, cy) = 0 ∧ bt ax cx bx ∧ bt ay cy by' := fun h => by
    obtain ⟨h1, h2, h3⟩ := (onP_iff _ _ _).1 h
    refine ⟨?_, h2, h3⟩
    unfold crossP crossI at h1 ⊢
    simp only at h1 ⊢
    grind
  generalize crossP (ax, ay) (bx, by') (cx, cy) = x at *
  simp only
  unfold bt at hon
  have hx := h.imp_right hon
  have f1 : ay = by' → ay < cy → (0 < x ∧ ax < bx) ∨ (x < 0 ∧ bx < ax) := fun h1 h2 => by
    have m1 := mul_signs (bx - ax) (cy - ay)
    rw [← e1 h1] at m1
    omega
  have f2 : ay = by' → cy < ay → (0 < x ∧ bx < ax) ∨ (x < 0 ∧ ax < bx) := fun h1 h2 => by
    have m1 := mul_signs (bx - ax) (cy - ay)
    rw [← e1 h1] at m1
    omega
  have f3 : by' = cy → ay < by' → (0 < x ∧ cx < bx) ∨ (x < 0 ∧ bx < cx) := fun h1 h2 => by
    have m1 := mul_signs (by' - ay) (bx - cx)
    rw [← e2 h1] at m1
    omega
  have f4 : by' = cy → by' < ay → (0 < x ∧ bx < cx) ∨ (x < 0 ∧ cx < bx) := fun h1 h2 => by
    have m1 := mul_signs (by' - ay) (bx - cx)
    rw [← e2 h1] at m1
    omega
  have f5 : ay = by' → by' = cy → x = 0 ∧ ((ax < bx ∧ bx < cx) ∨ (cx < bx ∧ bx < ax)) := fun h1 h2 => by
    have m1 : x = (bx - ax) * 0 := by rw [e1 h1]; congr 1; omega
    rw [Int.mul_zero] at m1
    omega
  clear e1 e2 hon h hab hbc
  rcases Int.lt_trichotomy ay by' with k1 | k1 | k1 <;> rcases Int.lt_trichotomy by' cy with k2 | k2 | k2
  · clear f1 f2 f3 f4 f5 hx hab' hbc'; (repeat (first | rw [if_pos (by omega)] | rw [if_neg (by omega)])); omega
  · have g := f3 k2 k1
    clear f1 f2 f3 f4 f5 hx hab' hbc'; rcases g with g | g <;> (repeat (first | rw [if_pos (by omega)] | rw [if_neg (by omega)])) <;> omega
  · clear f1 f2 f3 f4 f5 hab' hbc'
    rcases Int.lt_trichotomy ay cy with k3 | k3 | k3 <;> rcases Int.lt_trichotomy x 0 with k5 | k5 | k5 <;> (first | (exfalso; omega) | skip) <;> clear hx <;> (repeat (first | rw [if_pos (by omega)] | rw [if_neg (by omega)])) <;> omega
  · have g := f1 k1 (by omega)
    clear f1 f2 f3 f4 f5 hx hab' hbc'; rcases g with g | g <;> (repeat (first | rw [if_pos (by omega)] | rw [if_neg (by omega)])) <;> omega
  · have g := f5 k1 k2
    clear f1 f2 f3 f4 f5 hx hab' hbc'; obtain ⟨g0, g | g⟩ := g <;> (repeat (first | rw [if_pos (by omega)] | rw [if_neg (by omega)])) <;> omega
  · have g := f2 k1 (by omega)
    clear f1 f2 f3 f4 f5 hx hab' hbc'; rcases g with g | g <;> (repeat (first | rw [if_pos (by omega)] | rw [if_neg (by omega)])) <;> omega
  · clear f1 f2 f3 f4 f5 hab' hbc'
    rcases Int.lt_trichotomy ay cy with k3 | k3 | k3 <;> rcases Int.lt_trichotomy x 0 with k5 | k5 | k5 <;> (first | (exfalso; omega) | skip) <;> clear hx <;> (repeat (first | rw [if_pos (by omega)] | rw [if_neg (by omega)])) <;> omega
  · have g := f4 k2 k1
    clear f1 f2 f3 f4 f5 hx hab' hbc'; rcases g with g | g <;> (repeat (first | rw [if_pos (by omega)] | rw [if_neg (by omega)])) <;> omega
  · clear f1 f2 f3 f4 f5 hx hab' hbc'; (repeat (first | rw [if_pos (by omega)] | rw [if_neg (by omega)])); omega
end Go.Proofs.Ytklbambnnkdjlaa
