/-
  Plain geometry: sums over a box of lattice points.
-/
import Derived.Test.YtklbambnnkdjlaaOff
namespace Go.Proofs.Ytklbambnnkdjlaa

theorem cross_mix (a b : Pt) (u y : Int) : crossP a b (u, y) = (y - a.2) * (b.1 - u) + (b.2 - y) * (a.1 - u) := by unfold crossP crossI; simp only; grind
set_option maxHeartbeats 4000000 in
/-- Beside a side: what is to the right of v, and what is to the left. -/
theorem side_id {a b v : Pt} (hv : onP a b v = false) : wS a b v + rS a b v = rho v b - rho v a := by
  have h1 : ¬ (crossP a b v = 0 ∧ bt a.1 b.1 v.1 ∧ bt a.2 b.2 v.2) := fun e => by rw [(onP_iff _ _ _).2 e] at hv; cases hv
  have fa : v.2 = a.2 → crossP a b v = (b.2 - a.2) * (a.1 - v.1) := fun h => by unfold crossP crossI; rw [h]; grind
  have fb : v.2 = b.2 → crossP a b v = (b.2 - a.2) * (b.1 - v.1) := fun h => by unfold crossP crossI; rw [h]; grind
  have fx : crossP a b v = 0 → ¬ (a.2 < v.2 ∧ v.2 < b.2) ∧ ¬ (b.2 < v.2 ∧ v.2 < a.2) := fun hx => by
    have mx : crossP a b v = (v.2 - a.2) * (b.1 - v.1) + (b.2 - v.2) * (a.1 - v.1) := cross_mix a b v.1 v.2
    have p1 := mul_signs (v.2 - a.2) (b.1 - v.1)
    have p2 := mul_signs (b.2 - v.2) (a.1 - v.1)
    unfold bt at h1
    constructor <;> (rintro ⟨q1, q2⟩; omega)
  have ma := mul_signs (b.2 - a.2) (a.1 - v.1)
  have mb := mul_signs (b.2 - a.2) (b.1 - v.1)
  unfold bt at h1
  unfold wS rS rho
  generalize crossP a b v = x at *
  generalize (b.2 - a.2) * (a.1 - v.1) = y1 at *
  generalize (b.2 - a.2) * (b.1 - v.1) = y2 at *
  rcases Int.lt_trichotomy a.2 b.2 with k | k | k <;> rcases Int.lt_trichotomy v.2 a.2 with k1 | k1 | k1 <;> rcases Int.lt_trichotomy v.2 b.2 with k2 | k2 | k2 <;> (first | (exfalso; omega) | skip) <;>
    (try have ga := fa k1) <;> (try have gb := fb k2) <;> clear fa fb <;> rcases Int.lt_trichotomy x 0 with k5 | k5 | k5 <;> (first | (exfalso; omega) | skip) <;>
    (repeat (first | rw [if_pos (by omega)] | rw [if_neg (by omega)])) <;> (try split) <;> (try split) <;> omega
theorem sumT_split (f : Nat → Int) (a : Nat) : ∀ b, sumT f (a + b) = sumT f a + sumT (fun k => f (a + k)) b
  | 0 => by simp [sumT]
  | b + 1 => by rw [← Nat.add_assoc, sumT, sumT_split f a b, sumT]; omega
theorem sumT_rev (f : Nat → Int) : ∀ n, sumT (fun k => f (n - 1 - k)) n = sumT f n
  | 0 => rfl
  | n + 1 => by
    rw [sumT_succ', sumT]
    rw [← sumT_rev f n]
    have : sumT (fun k => f (n + 1 - 1 - (k + 1))) n = sumT (fun k => f (n - 1 - k)) n := sumT_congr n fun k hk => by rw [show n + 1 - 1 - (k + 1) = n - 1 - k by omega]
    rw [this, show n + 1 - 1 - 0 = n by omega]
    omega
theorem sumT_const (c : Int) : ∀ n : Nat, sumT (fun _ => c) n = n * c
  | 0 => by simp [sumT]
  | n + 1 => by rw [sumT, sumT_const c n]; grind
theorem sumT_mul (c : Int) (f : Nat → Int) : ∀ n : Nat, sumT (fun k => c * f k) n = c * sumT f n
  | 0 => by simp [sumT]
  | n + 1 => by rw [sumT, sumT_mul c f n, sumT]; grind
theorem sumT_swap (f : Nat → Nat → Int) (m : Nat) : ∀ n, sumT (fun k => sumT (fun j => f j k) m) n = sumT (fun j => sumT (fun k => f j k) n) m
  | 0 => by rw [sumT_zero (fun j => sumT (fun k => f j k) 0) m (fun _ _ => rfl)]; rfl
  | n + 1 => by rw [sumT, sumT_swap f m n, ← sumT_add]; rfl
theorem sumT_window (g : Nat → Int) {c m h : Nat} (hh : c + m ≤ h) (f : Nat → Int) (hi : ∀ k, k < m → f (c + k) = g k) (ho : ∀ r, r < c ∨ c + m ≤ r → f r = 0) : sumT f h = sumT g m := by
  obtain ⟨e, rfl⟩ : ∃ e, h = c + m + e := ⟨h - c - m, by omega⟩
  rw [sumT_split, sumT_split, sumT_zero f c (fun k hk => ho k (.inl hk)), sumT_zero (fun k => f (c + m + k)) e (fun k _ => ho _ (.inr (by omega))), sumT_congr m hi]
  omega
theorem sumT_slide (f : Nat → Int) (w d : Nat) : sumT f w - sumT (fun j => f (d + j)) w = sumT f d - sumT (fun j => f (w + j)) d := by
  have h1 := sumT_split f w d
  have h2 := sumT_split f d w
  rw [Nat.add_comm d w, h1] at h2
  omega
def sumB (f : Pt → Int) (x0 y0 : Int) (w h : Nat) : Int := sumT (fun r => sumT (fun j => f (x0 + j, y0 + r)) w) h
def ind (b : Bool) : Int := bif b then 1 else 0
theorem cross_left {a b : Pt} {u y : Int} (h1 : a.2 ≤ y) (h2 : y < b.2) (ha : u < a.1) (hb : u < b.1) : 0 < crossP a b (u, y) := by
  rw [cross_mix]
  have := Int.mul_nonneg (show 0 ≤ y - a.2 by omega) (show 0 ≤ b.1 - u by omega)
  have := Int.mul_pos (show 0 < b.2 - y by omega) (show 0 < a.1 - u by omega)
  omega
theorem cross_right {a b : Pt} {u y : Int} (h1 : a.2 ≤ y) (h2 : y < b.2) (ha : a.1 ≤ u) (hb : b.1 ≤ u) : ¬ 0 < crossP a b (u, y) := by
  rw [cross_mix]
  have := Int.mul_nonneg (show 0 ≤ y - a.2 by omega) (show 0 ≤ u - b.1 by omega)
  have := Int.mul_nonneg (show 0 ≤ b.2 - y by omega) (show 0 ≤ u - a.1 by omega)
  have e : (y - a.2) * (b.1 - u) + (b.2 - y) * (a.1 - u) = -((y - a.2) * (u - b.1) + (b.2 - y) * (u - a.1)) := by grind
  omega
theorem cross_mirror (a b : Pt) (u y : Int) : crossP a b (a.1 + b.1 - u, a.2 + b.2 - y) = -crossP a b (u, y) := by unfold crossP crossI; simp only; grind
def leftI (a b : Pt) (y u : Int) : Int := if 0 < crossP a b (u, y) then 1 else 0
def rightI (a b : Pt) (y u : Int) : Int := if crossP a b (u, y) < 0 then 1 else 0
/-- A row left of the side, and the mirrored row right of it. -/
theorem row_diff {a b : Pt} {y x0 : Int} {w : Nat} (h1 : a.2 ≤ y) (h2 : y < b.2) (a0 : x0 ≤ a.1) (a1 : a.1 < x0 + w) (b0 : x0 ≤ b.1) (b1 : b.1 < x0 + w) :
    sumT (fun j => leftI a b y (x0 + j)) w - sumT (fun j => rightI a b (a.2 + b.2 - y) (x0 + j)) w = a.1 + b.1 - x0 - (x0 + w - 1) := by
  have e : sumT (fun j => rightI a b (a.2 + b.2 - y) (x0 + j)) w = sumT (fun j => leftI a b y (a.1 + b.1 - (x0 + w - 1) + j)) w := by
    rw [← sumT_rev]
    refine sumT_congr w fun k hk => ?_
    unfold rightI leftI
    have := cross_mirror a b (a.1 + b.1 - (x0 + w - 1) + k) y
    rw [show a.1 + b.1 - (a.1 + b.1 - (x0 + w - 1) + k) = x0 + ((w - 1 - k : Nat) : Int) by omega] at this
    rw [this]
    split <;> split <;> omega
  rw [e]
  rcases Int.le_total x0 (a.1 + b.1 - (x0 + w - 1)) with h3 | h3
  · have s := sumT_slide (fun j => leftI a b y (x0 + j)) w (a.1 + b.1 - (x0 + w - 1) - x0).toNat
    have e1 : sumT (fun j => leftI a b y (x0 + ((a.1 + b.1 - (x0 + w - 1) - x0).toNat + j : Nat))) w = sumT (fun j => leftI a b y (a.1 + b.1 - (x0 + w - 1) + j)) w := sumT_congr w fun k _ => by
      rw [show x0 + (((a.1 + b.1 - (x0 + w - 1) - x0).toNat + k : Nat) : Int) = a.1 + b.1 - (x0 + w - 1) + k by omega]
    have e2 : sumT (fun j => leftI a b y (x0 + j)) (a.1 + b.1 - (x0 + w - 1) - x0).toNat = sumT (fun _ => 1) (a.1 + b.1 - (x0 + w - 1) - x0).toNat := sumT_congr _ fun k hk => by
      unfold leftI
      rw [if_pos (cross_left h1 h2 (by omega) (by omega))]
    have e3 : sumT (fun j => leftI a b y (x0 + (w + j : Nat))) (a.1 + b.1 - (x0 + w - 1) - x0).toNat = 0 := sumT_zero _ _ fun k hk => by
      unfold leftI
      rw [if_neg (cross_right h1 h2 (by omega) (by omega))]
    rw [e1, e2, e3, sumT_const] at s
    omega
  · have s := sumT_slide (fun j => leftI a b y (a.1 + b.1 - (x0 + w - 1) + j)) w (x0 - (a.1 + b.1 - (x0 + w - 1))).toNat
    have e1 : sumT (fun j => leftI a b y (a.1 + b.1 - (x0 + w - 1) + ((x0 - (a.1 + b.1 - (x0 + w - 1))).toNat + j : Nat))) w = sumT (fun j => leftI a b y (x0 + j)) w := sumT_congr w fun k _ => by
      rw [show a.1 + b.1 - (x0 + w - 1) + (((x0 - (a.1 + b.1 - (x0 + w - 1))).toNat + k : Nat) : Int) = x0 + k by omega]
    have e2 : sumT (fun j => leftI a b y (a.1 + b.1 - (x0 + w - 1) + j)) (x0 - (a.1 + b.1 - (x0 + w - 1))).toNat = sumT (fun _ => 1) (x0 - (a.1 + b.1 - (x0 + w - 1))).toNat := sumT_congr _ fun k hk => by
      unfold leftI
      rw [if_pos (cross_left h1 h2 (by omega) (by omega))]
    have e3 : sumT (fun j => leftI a b y (a.1 + b.1 - (x0 + w - 1) + (w + j : Nat))) (x0 - (a.1 + b.1 - (x0 + w - 1))).toNat = 0 := sumT_zero _ _ fun k hk => by
      unfold leftI
      rw [if_neg (cross_right h1 h2 (by omega) (by omega))]
    rw [e1, e2, e3, sumT_const] at s
    omega
def sS (a b v : Pt) : Int := wS a b v - rS a b v
theorem side_area_up {a b : Pt} {x0 y0 : Int} {w h : Nat} (hab : a.2 < b.2) (a0 : x0 ≤ a.1) (a1 : a.1 < x0 + w) (b0 : x0 ≤ b.1) (b1 : b.1 < x0 + w) (a2 : y0 ≤ a.2) (b2 : b.2 < y0 + h) :
    sumB (sS a b) x0 y0 w h = (b.2 - a.2) * (a.1 + b.1 - x0 - (x0 + w - 1)) := by
  have hl : ∀ r, sumT (fun j => wS a b (x0 + j, y0 + (r : Nat))) w = if a.2 ≤ y0 + r ∧ y0 + r < b.2 then sumT (fun j => leftI a b (y0 + r) (x0 + j)) w else 0 := fun r => by
    split
    · exact sumT_congr w fun k _ => by
        unfold wS leftI
        simp only
        split <;> split <;> (try split) <;> omega
    · exact sumT_zero _ w fun k _ => by
        unfold wS
        simp only
        rw [if_neg (by omega), if_neg (by omega)]
  have hr : ∀ r, sumT (fun j => rS a b (x0 + j, y0 + (r : Nat))) w = if a.2 < y0 + r ∧ y0 + r ≤ b.2 then sumT (fun j => rightI a b (y0 + r) (x0 + j)) w else 0 := fun r => by
    split
    · exact sumT_congr w fun k _ => by
        unfold rS rightI
        simp only
        split <;> split <;> (try split) <;> omega
    · exact sumT_zero _ w fun k _ => by
        unfold rS
        simp only
        rw [if_neg (by omega), if_neg (by omega)]
  have e0 : sumB (sS a b) x0 y0 w h = sumT (fun r => sumT (fun j => wS a b (x0 + j, y0 + (r : Nat))) w) h - sumT (fun r => sumT (fun j => rS a b (x0 + j, y0 + (r : Nat))) w) h := by
    unfold sumB sS
    rw [← sumT_sub]
    exact sumT_congr h fun r _ => sumT_sub _ _ w
  have e1 := sumT_window (fun k => sumT (fun j => leftI a b (a.2 + k) (x0 + j)) w) (c := (a.2 - y0).toNat) (m := (b.2 - a.2).toNat) (h := h) (by omega) (fun r => sumT (fun j => wS a b (x0 + j, y0 + (r : Nat))) w)
    (fun k hk => by rw [hl, if_pos (by omega), show y0 + (((a.2 - y0).toNat + k : Nat) : Int) = a.2 + k by omega])
    (fun r hr' => by rw [hl, if_neg (by omega)])
  have e2 := sumT_window (fun k => sumT (fun j => rightI a b (a.2 + 1 + k) (x0 + j)) w) (c := (a.2 - y0).toNat + 1) (m := (b.2 - a.2).toNat) (h := h) (by omega) (fun r => sumT (fun j => rS a b (x0 + j, y0 + (r : Nat))) w)
    (fun k hk => by rw [hr, if_pos (by omega), show y0 + (((a.2 - y0).toNat + 1 + k : Nat) : Int) = a.2 + 1 + k by omega])
    (fun r hr' => by rw [hr, if_neg (by omega)])
  rw [e0, e1, e2, ← sumT_rev (fun k => sumT (fun j => rightI a b (a.2 + 1 + k) (x0 + j)) w), ← sumT_sub]
  rw [sumT_congr (g := fun _ => a.1 + b.1 - x0 - (x0 + w - 1)) _ fun k hk => ?_, sumT_const, show (((b.2 - a.2).toNat : Nat) : Int) = b.2 - a.2 by omega]
  have := row_diff (a := a) (b := b) (y := a.2 + k) (x0 := x0) (w := w) (by omega) (by omega) a0 a1 b0 b1
  rw [← this, show a.2 + 1 + (((b.2 - a.2).toNat - 1 - k : Nat) : Int) = a.2 + b.2 - (a.2 + k) by omega]
theorem side_area {a b : Pt} {x0 y0 : Int} {w h : Nat} (a0 : x0 ≤ a.1) (a1 : a.1 < x0 + w) (b0 : x0 ≤ b.1) (b1 : b.1 < x0 + w) (a2 : y0 ≤ a.2) (a3 : a.2 < y0 + h) (b2 : y0 ≤ b.2) (b3 : b.2 < y0 + h) :
    sumB (sS a b) x0 y0 w h = (b.2 - a.2) * (a.1 + b.1 - x0 - (x0 + w - 1)) := by
  rcases Int.lt_trichotomy a.2 b.2 with k | k | k
  · exact side_area_up k a0 a1 b0 b1 a2 b3
  · rw [show b.2 - a.2 = 0 by omega, Int.zero_mul]
    refine sumT_zero _ _ fun r _ => sumT_zero _ _ fun j _ => ?_
    unfold sS wS rS
    simp only
    rw [if_neg (by omega), if_neg (by omega), if_neg (by omega), if_neg (by omega)]
    rfl
  · have := side_area_up (a := b) (b := a) k b0 b1 a0 a1 b2 a3
    have e : sumB (sS a b) x0 y0 w h = -1 * sumB (sS b a) x0 y0 w h := by
      unfold sumB
      rw [← sumT_mul]
      refine sumT_congr h fun r _ => ?_
      rw [← sumT_mul]
      refine sumT_congr w fun j _ => ?_
      unfold sS
      rw [wS_flip a b, rS_flip a b]
      omega
    rw [e, this]
    grind
end Go.Proofs.Ytklbambnnkdjlaa
