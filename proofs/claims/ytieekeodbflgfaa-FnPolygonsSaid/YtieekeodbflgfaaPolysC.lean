/-
  What the law FnPolygons asks of the points of a polygon: its corners and sides are inside, and as many points as Pick's theorem says.
-/
import Derived.Test.YtieekeodbflgfaaPickAll
import Derived.Test.YtieekeodbflgfaaLine
import Derived.Test.YtieekeodbflgfaaPtFacts
namespace Go.Proofs.Ytieekeodbflgfaa
open Go.RowKit

theorem line_on {ax ay bx by' : Int} (ha : okP ax ay = true) (hb : okP bx by' = true) {z : Pt} (hz : z ∈ lineV ax ay bx by') : onP (ax, ay) (bx, by') z = true := by
  have e : lineV ax ay bx by' = lineL ax ay (Int.tdiv (bx - ax) (stepsN ax ay bx by')) (Int.tdiv (by' - ay) (stepsN ax ay bx by')) (stepsN ax ay bx by' + 1) := by rw [lineV, ha, hb]; rfl
  rw [e] at hz
  simp only [lineL, List.mem_map, List.mem_range] at hz
  obtain ⟨i, hi, rfl⟩ := hz
  obtain ⟨h1, h2⟩ := steps_div ax ay bx by'
  generalize Int.tdiv (bx - ax) (stepsN ax ay bx by') = qx at *
  generalize Int.tdiv (by' - ay) (stepsN ax ay bx by') = qy at *
  generalize stepsN ax ay bx by' = n at *
  have e1 : bx = ax + n * qx := by omega
  have e2 : by' = ay + n * qy := by omega
  subst e1 e2
  have b1 := box_way ax qx n i (by omega)
  have b2 := box_way ay qy n i (by omega)
  refine (onP_iff _ _ _).2 ⟨cross_way ax ay qx qy n i, ?_, ?_⟩
  · show bt ax (ax + n * qx) (ax + qx * i)
    unfold bt
    generalize ax + n * qx = u at *
    generalize ax + qx * i = v at *
    omega
  · show bt ay (ay + n * qy) (ay + qy * i)
    unfold bt
    generalize ay + n * qy = u at *
    generalize ay + qy * i = v at *
    omega
theorem line_few {ax ay bx by' : Int} (ha : okP ax ay = true) (hb : okP bx by' = true) : (lineV ax ay bx by').length ≤ 100 := by
  have e : lineV ax ay bx by' = lineL ax ay (Int.tdiv (bx - ax) (stepsN ax ay bx by')) (Int.tdiv (by' - ay) (stepsN ax ay bx by')) (stepsN ax ay bx by' + 1) := by rw [lineV, ha, hb]; rfl
  rw [e, lineL_len]
  have h1 := okP_bounds ha; have h2 := okP_bounds hb
  have : stepsN ax ay bx by' ≤ 40 := by
    unfold stepsN
    rcases Nat.eq_zero_or_pos (bx - ax).natAbs with h | h
    · rw [h, Nat.gcd_zero_left]; omega
    · exact Nat.le_trans (Nat.gcd_le_left _ h) (by omega)
  omega
theorem on_ok {a b z : Pt} (ha : okP a.1 a.2 = true) (hb : okP b.1 b.2 = true) (h : onP a b z = true) : okQ z = true := by
  obtain ⟨_, h2, h3⟩ := (onP_iff _ _ _).1 h
  have h4 := okP_bounds ha; have h5 := okP_bounds hb
  unfold bt at h2 h3
  simp only [okQ, okP, Bool.and_eq_true, inB_spec]
  omega
/-- Whether a point is in the table and inside. -/
def inQ (L : List Pt) (x y : Int) : Bool := okQ (x, y) && insideB L (x, y)
def rowC (L : List Pt) (x0 : Int) (y : Int) (j : Nat) : Int := sumT (fun j => ind (inQ L (x0 + (j : Int)) y)) j
def allC (L : List Pt) (x0 y0 : Int) (W : Nat) (r : Nat) : Int := sumT (fun r => rowC L x0 (y0 + (r : Int)) W) r
theorem rowC_step (L : List Pt) (x0 : Int) (y : Int) (j : Nat) : rowC L x0 y (j + 1) = rowC L x0 y j + ind (inQ L (x0 + (j : Int)) y) := rfl
theorem allC_step (L : List Pt) (x0 y0 : Int) (W r : Nat) : allC L x0 y0 W (r + 1) = allC L x0 y0 W r + rowC L x0 (y0 + (r : Int)) W := rfl
theorem ind_bd (b : Bool) : 0 ≤ ind b ∧ ind b ≤ 1 := by cases b <;> decide
theorem rowC_bd (L : List Pt) (x0 : Int) (y : Int) : ∀ j, 0 ≤ rowC L x0 y j ∧ rowC L x0 y j ≤ j
  | 0 => ⟨Int.le_refl _, Int.le_refl _⟩
  | j + 1 => by
    have h1 := rowC_bd L x0 y j
    have h2 := ind_bd (inQ L (x0 + (j : Int)) y)
    rw [rowC_step]; omega
theorem allC_bd (L : List Pt) (x0 y0 : Int) (W : Nat) (hW : W ≤ 41) : ∀ r, 0 ≤ allC L x0 y0 W r ∧ allC L x0 y0 W r ≤ r * 41
  | 0 => ⟨Int.le_refl _, by simp [allC, sumT]⟩
  | r + 1 => by
    have h1 := allC_bd L x0 y0 W hW r
    have h2 := rowC_bd L x0 (y0 + (r : Int)) W
    rw [allC_step]; omega
structure Facts (L : List Pt) (x0 y0 x1 y1 : Int) : Prop where
  b : 0 ≤ x0 ∧ x0 ≤ x1 ∧ x1 ≤ 40 ∧ 0 ≤ y0 ∧ y0 ≤ y1 ∧ y1 ≤ 40
  corner : ∀ k, k < L.length → inQ L (gt L k).1 (gt L k).2 = true
  box : ∀ k, k < L.length → x0 ≤ (gt L k).1 ∧ (gt L k).1 ≤ x1 ∧ y0 ≤ (gt L k).2 ∧ (gt L k).2 ≤ y1
  side : ∀ k, k < L.length → ∀ z ∈ lineV (gt L k).1 (gt L k).2 (gt L (nx L k)).1 (gt L (nx L k)).2, inQ L z.1 z.2 = true
  few : ∀ k, k < L.length → (lineV (gt L k).1 (gt L k).2 (gt L (nx L k)).1 (gt L (nx L k)).2).length ≤ 100
  count : ∃ W H : Nat, x0 + W = x1 + 1 ∧ y0 + H = y1 + 1 ∧ allC L x0 y0 W H = rimI L + pickI L
  right : inQ L (x1 + 1) y0 = false
theorem facts_of {L : List Pt} (h : polyB L = true) {x0 y0 x1 y1 : Int} (hb : boxTill L L.length = ((x0, y0), (x1, y1))) : Facts L x0 y0 x1 y1 := by
  obtain ⟨h3, h10, hok⟩ := polyB_all h
  have hn : 0 < L.length := by omega
  have hin := box_in hok L.length
  have hh := box_has L L.length
  have hcp := count_poly L h
  have hor := fun v hv => out_right L h (v := v) hv
  have e1 : boxW L = (x1 - x0 + 1).toNat := by unfold boxW; rw [hb]
  have e2 : boxH L = (y1 - y0 + 1).toNat := by unfold boxH; rw [hb]
  rw [hb] at hin hh hcp
  simp only at hin hh hcp
  have b0 := okP_bounds hin.1
  have b1 := okP_bounds hin.2.1
  have hbb : 0 ≤ x0 ∧ x0 ≤ x1 ∧ x1 ≤ 40 ∧ 0 ≤ y0 ∧ y0 ≤ y1 ∧ y1 ≤ 40 := by
    obtain ⟨_, _, k1, k2⟩ := hin
    exact ⟨b0.1, k1, b1.2.1, b0.2.2.1, k2, b1.2.2.2⟩
  have hside : ∀ k, k < L.length → ∀ z : Pt, onP (gt L k) (gt L (nx L k)) z = true → inQ L z.1 z.2 = true := fun k hk z hz => by
    have q1 := on_ok (gt_ok hok k) (gt_ok hok (nx L k)) hz
    have q2 : onRim L z = true := onRim_true hk hz
    show (okQ z && insideB L z) = true
    rw [q1, insideB, q2]; rfl
  refine ⟨hbb, fun k hk => hside k hk _ (on_left _ _), fun k hk => hh k hk, fun k hk z hz => hside k hk z (line_on (gt_ok hok k) (gt_ok hok (nx L k)) hz), fun k _ => line_few (gt_ok hok k) (gt_ok hok (nx L k)), ?_, ?_⟩
  · refine ⟨boxW L, boxH L, by rw [e1]; omega, by rw [e2]; omega, ?_⟩
    rw [pick_poly L h] at hcp
    rw [← hcp]
    refine sumT_congr _ fun r hr => sumT_congr _ fun j hj => ?_
    have hr' : r < (y1 - y0 + 1).toNat := by rw [← e2]; exact hr
    have hj' : j < (x1 - x0 + 1).toNat := by rw [← e1]; exact hj
    have ho : okQ (x0 + (j : Int), y0 + (r : Int)) = true := by
      simp only [okQ, okP, Bool.and_eq_true, inB_spec]; omega
    show ind (inQ L _ _) = _
    rw [inQ, ho, Bool.true_and]
  · unfold inQ
    rw [hor (x1 + 1, y0) (fun i hi => by have := (hh i hi).2.1; show _ < x1 + 1; omega), Bool.and_false]
end Go.Proofs.Ytieekeodbflgfaa
