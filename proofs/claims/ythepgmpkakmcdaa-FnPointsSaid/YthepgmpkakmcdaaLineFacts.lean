/-
  Facts on the points of a segment.
-/
import Derived.Test.YthepgmpkakmcdaaPtFacts
namespace Go.Proofs.Ythepgmpkakmcdaa
open Go.RowKit

theorem line_len {ax ay bx by' : Int} (ha : okP ax ay = true) (hb : okP bx by' = true) : (lineV ax ay bx by').length = stepsN ax ay bx by' + 1 := by
  rw [lineV, ha, hb]
  exact lineL_len _ _ _ _ _
theorem line_at {ax ay bx by' : Int} (ha : okP ax ay = true) (hb : okP bx by' = true) (k : Nat) (hk : k < (lineV ax ay bx by').length) :
    (lineV ax ay bx by')[k] = (ax + Int.tdiv (bx - ax) (stepsN ax ay bx by') * (k : Int), ay + Int.tdiv (by' - ay) (stepsN ax ay bx by') * (k : Int)) := by
  have e : lineV ax ay bx by' = lineL ax ay (Int.tdiv (bx - ax) (stepsN ax ay bx by')) (Int.tdiv (by' - ay) (stepsN ax ay bx by')) (stepsN ax ay bx by' + 1) := by rw [lineV, ha, hb]; rfl
  simp only [e]
  simp [lineL]
/-- All that the law asks of the points of a segment. -/
theorem line_facts {ax ay bx by' : Int} (ha : okP ax ay = true) (hb : okP bx by' = true) (k : Nat) (hk : k < (lineV ax ay bx by').length) :
    onV ax ay bx by' ((lineV ax ay bx by')[k]).1 ((lineV ax ay bx by')[k]).2 = true ∧ crossV ax ay bx by' ((lineV ax ay bx by')[k]).1 ((lineV ax ay bx by')[k]).2 = 0 := by
  have hl := line_len ha hb
  have h1 := okP_bounds ha; have h2 := okP_bounds hb
  rw [line_at ha hb k hk]
  obtain ⟨d1, d2⟩ := steps_div ax ay bx by'
  rw [hl] at hk
  generalize stepsN ax ay bx by' = n at *
  generalize Int.tdiv (bx - ax) n = qx at *
  generalize Int.tdiv (by' - ay) n = qy at *
  have eb : bx = ax + n * qx := by omega
  have eb' : by' = ay + n * qy := by omega
  have hc := cross_way ax ay qx qy n k
  have b1 := box_way ax qx n k (by omega)
  have b2 := box_way ay qy n k (by omega)
  rw [← eb, ← eb'] at hc
  rw [← eb] at b1
  rw [← eb'] at b2
  have hp : okP (ax + qx * k) (ay + qy * k) = true := by
    simp only [okP, Bool.and_eq_true, inB_spec]
    generalize qx * (k : Int) = u at *
    generalize qy * (k : Int) = v at *
    omega
  have hon : onI ax ay bx by' (ax + qx * k) (ay + qy * k) = true := by
    simp only [onI, hc, boxB, Bool.and_eq_true, inB_spec]
    exact ⟨rfl, b1, b2⟩
  exact ⟨by rw [onV, ha, hb, hp, hon]; rfl, by rw [crossV, ha, hb, hp]; exact hc⟩
theorem line_okP {ax ay bx by' : Int} (ha : okP ax ay = true) (hb : okP bx by' = true) (k : Nat) (hk : k < (lineV ax ay bx by').length) : okP ((lineV ax ay bx by')[k]).1 ((lineV ax ay bx by')[k]).2 = true := by
  have := (line_facts ha hb k hk).1
  simp only [onV, Bool.and_eq_true] at this
  exact this.1.2
theorem line_step {ax ay bx by' : Int} (ha : okP ax ay = true) (hb : okP bx by' = true) (k : Nat) (hk0 : k < (lineV ax ay bx by').length) (hk : k + 1 < (lineV ax ay bx by').length) :
    stepsV ((lineV ax ay bx by')[k]'hk0).1 ((lineV ax ay bx by')[k]'hk0).2 ((lineV ax ay bx by')[k + 1]).1 ((lineV ax ay bx by')[k + 1]).2 = 1 := by
  rw [stepsV, line_okP ha hb k (by omega), line_okP ha hb (k + 1) hk]
  have hl := line_len ha hb
  rw [line_at ha hb k (by omega), line_at ha hb (k + 1) hk]
  obtain ⟨d1, d2⟩ := steps_div ax ay bx by'
  have h1 := step_one (n := stepsN ax ay bx by') (by omega) rfl d1 d2
  generalize Int.tdiv (bx - ax) (stepsN ax ay bx by') = qx at *
  generalize Int.tdiv (by' - ay) (stepsN ax ay bx by') = qy at *
  have e1 : ax + qx * ((k + 1 : Nat) : Int) - (ax + qx * (k : Int)) = qx := by
    rw [Int.natCast_add, Int.mul_add]; simp; omega
  have e2 : ay + qy * ((k + 1 : Nat) : Int) - (ay + qy * (k : Int)) = qy := by
    rw [Int.natCast_add, Int.mul_add]; simp; omega
  have : stepsN (ax + qx * (k : Int)) (ay + qy * (k : Int)) (ax + qx * ((k + 1 : Nat) : Int)) (ay + qy * ((k + 1 : Nat) : Int)) = 1 := by
    rw [stepsN, e1, e2]; exact h1
  show ((stepsN _ _ _ _ : Nat) : Int) = 1
  rw [this]; rfl
theorem line_first {ax ay bx by' : Int} (ha : okP ax ay = true) (hb : okP bx by' = true) (hk : 0 < (lineV ax ay bx by').length) : (lineV ax ay bx by')[0] = (ax, ay) := by
  rw [line_at ha hb 0 hk]; simp
theorem line_last {ax ay bx by' : Int} (ha : okP ax ay = true) (hb : okP bx by' = true) (hk : stepsN ax ay bx by' < (lineV ax ay bx by').length) : (lineV ax ay bx by')[stepsN ax ay bx by'] = (bx, by') := by
  rw [line_at ha hb _ hk]
  obtain ⟨d1, d2⟩ := steps_div ax ay bx by'
  rw [Int.mul_comm (Int.tdiv (bx - ax) _), Int.mul_comm (Int.tdiv (by' - ay) _), d1, d2]
  simp
  omega
/-- crossV, sides and squares under the orders of the points. -/
theorem crossV_flip (ax ay bx by' cx cy : Int) : crossV bx by' ax ay cx cy = -crossV ax ay bx by' cx cy := by
  unfold crossV
  rw [cross_flip bx]
  cases okP ax ay <;> cases okP bx by' <;> cases okP cx cy <;> rfl
theorem crossV_turn (ax ay bx by' cx cy : Int) : crossV bx by' cx cy ax ay = crossV ax ay bx by' cx cy := by
  unfold crossV
  rw [cross_turn ax ay bx by' cx cy]
  cases okP ax ay <;> cases okP bx by' <;> cases okP cx cy <;> rfl
theorem crossV_swap (ax ay bx by' cx cy : Int) : crossV ax ay cx cy bx by' = -crossV ax ay bx by' cx cy := by
  unfold crossV
  rw [cross_swap ax ay cx cy]
  cases okP ax ay <;> cases okP bx by' <;> cases okP cx cy <;> rfl
theorem stepsV_flip (ax ay bx by' : Int) : stepsV bx by' ax ay = stepsV ax ay bx by' := by
  unfold stepsV
  rw [steps_flip ax ay, Bool.and_comm]
theorem squareV_flip (ax ay bx by' : Int) : squareV bx by' ax ay = squareV ax ay bx by' := by
  unfold squareV
  rw [squareI_flip, Bool.and_comm]
theorem squareV_zero {ax ay bx by' : Int} (ha : okP ax ay = true) (hb : okP bx by' = true) : (squareV ax ay bx by' == 0) = (ax == bx && ay == by') := by
  have h := square_zero (ax - bx) (ay - by')
  have : squareV ax ay bx by' = squareI ax ay bx by' := by rw [squareV, ha, hb]; rfl
  rw [this, squareI]
  cases h1 : ((ax - bx) * (ax - bx) + (ay - by') * (ay - by') == 0)
  · cases h2 : (ax == bx && ay == by')
    · rfl
    · simp only [Bool.and_eq_true, beq_iff_eq] at h2
      have := h.2 ⟨by omega, by omega⟩
      rw [this] at h1; simp at h1
  · have := h.1 (by simpa using h1)
    have e1 : ax = bx := by omega
    have e2 : ay = by' := by omega
    simp [e1, e2]
theorem before_other {ax ay bx by' : Int} (h : (ax == bx && ay == by') = false) : (beforeB ax ay bx by' != beforeB bx by' ax ay) = true := by
  simp only [Bool.and_eq_false_iff, beq_eq_false_iff_ne] at h
  have key : beforeB ax ay bx by' = true ↔ ¬ beforeB bx by' ax ay = true := by
    simp only [beforeB, Bool.or_eq_true, Bool.and_eq_true, decide_eq_true_eq, beq_iff_eq]
    omega
  cases h1 : beforeB ax ay bx by' <;> cases h2 : beforeB bx by' ax ay <;> simp_all
end Go.Proofs.Ythepgmpkakmcdaa
