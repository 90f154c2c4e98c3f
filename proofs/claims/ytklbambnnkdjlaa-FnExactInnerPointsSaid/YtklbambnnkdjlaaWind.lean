/-
  Plain geometry: how often a closed chain goes round a point; moving the point beside it.
-/
import Derived.Test.YtklbambnnkdjlaaRing
namespace Go.Proofs.Ytklbambnnkdjlaa

/-- A side crosses the ray to the right of v (a little above v): upwards 1, downwards -1. -/
def wS (a b v : Pt) : Int := if a.2 ≤ v.2 ∧ v.2 < b.2 ∧ 0 < crossP a b v then 1 else if b.2 ≤ v.2 ∧ v.2 < a.2 ∧ crossP a b v < 0 then -1 else 0
/-- The same, seen from the segment of the point: p lies right of u v. -/
def rS (u v p : Pt) : Int := if u.2 < p.2 ∧ p.2 ≤ v.2 ∧ crossP u v p < 0 then 1 else if v.2 < p.2 ∧ p.2 ≤ u.2 ∧ 0 < crossP u v p then -1 else 0
/-- No common point. -/
def Apart (a b u v : Pt) : Prop := ∀ s t p q : Int, 0 ≤ s → 0 ≤ t → 0 ≤ p → 0 ≤ q → 0 < s + t → s + t = p + q → ¬ (s * a.1 + t * b.1 = p * u.1 + q * v.1 ∧ s * a.2 + t * b.2 = p * u.2 + q * v.2)
theorem Apart.flip1 {a b u v : Pt} (h : Apart a b u v) : Apart b a u v := fun s t p q h1 h2 h3 h4 h5 h6 ⟨e1, e2⟩ => h t s p q h2 h1 h3 h4 (by omega) (by omega) ⟨by omega, by omega⟩
theorem Apart.flip2 {a b u v : Pt} (h : Apart a b u v) : Apart a b v u := fun s t p q h1 h2 h3 h4 h5 h6 ⟨e1, e2⟩ => h s t q p h1 h2 h4 h3 h5 (by omega) ⟨by omega, by omega⟩
theorem Apart.swap {a b u v : Pt} (h : Apart a b u v) : Apart u v a b := fun s t p q h1 h2 h3 h4 h5 h6 ⟨e1, e2⟩ => h p q s t h3 h4 h1 h2 (by omega) (by omega) ⟨by omega, by omega⟩
theorem crossP_neg (a b p : Pt) : crossP b a p = -crossP a b p := crossP_flip a b p
theorem wS_flip (a b v : Pt) : wS b a v = -wS a b v := by
  unfold wS
  rw [crossP_neg]
  generalize crossP a b v = x
  split <;> split <;> (try split) <;> omega
theorem rS_flip (u v p : Pt) : rS v u p = -rS u v p := by
  unfold rS
  rw [crossP_neg]
  generalize crossP u v p = x
  split <;> split <;> (try split) <;> omega
theorem le_of_parts {m x n a k d : Int} (hm : 0 < m) (hn : 0 ≤ n) (hk : 0 ≤ k) (ha : 0 ≤ a) (hd : 0 ≤ d) (h : m * x = -(n * a) - k * d) : x ≤ 0 := by
  have h1 := Int.mul_nonneg hn ha
  have h2 := Int.mul_nonneg hk hd
  rcases Int.lt_or_le 0 x with h3 | h3
  · have := Int.mul_pos hm h3; omega
  · exact h3
theorem cell_up {a b u v : Pt} (hab : a.2 ≤ b.2) (huv : u.2 ≤ v.2) (h : Apart a b u v) : wS a b u - wS a b v = rS u v b - rS u v a := by
  obtain ⟨ax, ay⟩ := a
  obtain ⟨bx, by'⟩ := b
  obtain ⟨ux, uy⟩ := u
  obtain ⟨vx, vy⟩ := v
  obtain ⟨α, hα⟩ : ∃ α, α = crossP (ax, ay) (bx, by') (ux, uy) := ⟨_, rfl⟩
  obtain ⟨β, hβ⟩ : ∃ β, β = crossP (ax, ay) (bx, by') (vx, vy) := ⟨_, rfl⟩
  obtain ⟨γ, hγ⟩ : ∃ γ, γ = crossP (ux, uy) (vx, vy) (ax, ay) := ⟨_, rfl⟩
  obtain ⟨δ, hδ⟩ : ∃ δ, δ = crossP (ux, uy) (vx, vy) (bx, by') := ⟨_, rfl⟩
  unfold wS rS
  rw [← hα, ← hβ, ← hγ, ← hδ]
  simp only [crossP, crossI] at hα hβ hγ hδ
  simp only at hab huv ⊢
  have hsum : α + γ = β + δ := by grind
  have hM1 : ¬ (0 ≤ δ ∧ γ ≤ 0 ∧ β ≤ 0 ∧ 0 ≤ α ∧ 0 < δ - γ) := fun ⟨k1, k2, k3, k4, k5⟩ =>
    h δ (-γ) (-β) α k1 (by omega) (by omega) k4 (by omega) (by omega) ⟨by simp only; grind, by simp only; grind⟩
  have hM2 : ¬ (δ ≤ 0 ∧ 0 ≤ γ ∧ 0 ≤ β ∧ α ≤ 0 ∧ 0 < γ - δ) := fun ⟨k1, k2, k3, k4, k5⟩ =>
    h (-δ) γ β (-α) (by omega) k2 k3 (by omega) (by omega) (by omega) ⟨by simp only; grind, by simp only; grind⟩
  clear h
  by_cases A1 : ay ≤ uy
  · by_cases B1 : by' ≤ uy
    · split <;> split <;> (try split) <;> (try split) <;> (try split) <;> (try split) <;> (try split) <;> (try split) <;> omega
    · by_cases B2 : by' ≤ vy
      · -- a ≤ u < b ≤ v
        have i1 : (by' - uy) * γ = -((vy - uy) * α) - (uy - ay) * δ := by grind
        have i2 : (by' - uy) * β = -((vy - by') * α) - (by' - ay) * δ := by grind
        have key : 0 < α ↔ δ < 0 := by
          constructor
          · intro k
            false_or_by_contra
            have := le_of_parts (by omega) (by omega) (by omega) (Int.le_of_lt k) (by omega) i1
            have := le_of_parts (by omega) (by omega) (by omega) (Int.le_of_lt k) (by omega) i2
            omega
          · intro k
            false_or_by_contra
            have := le_of_parts (x := -γ) (a := -α) (d := -δ) (m := by' - uy) (n := vy - uy) (k := uy - ay) (by omega) (by omega) (by omega) (by omega) (by omega) (by grind)
            have := le_of_parts (x := -β) (a := -α) (d := -δ) (m := by' - uy) (n := vy - by') (k := by' - ay) (by omega) (by omega) (by omega) (by omega) (by omega) (by grind)
            omega
        clear i1 i2 hα hβ hγ hδ
        split <;> split <;> (try split) <;> (try split) <;> (try split) <;> (try split) <;> (try split) <;> (try split) <;> omega
      · -- a ≤ u ≤ v < b
        have key : 0 < α ↔ 0 < β := by
          constructor
          · intro k
            false_or_by_contra
            have := le_of_parts (x := γ) (a := α) (d := -β) (m := by' - ay) (n := vy - ay) (k := uy - ay) (by omega) (by omega) (by omega) (by omega) (by omega) (by grind)
            have := le_of_parts (x := -δ) (a := α) (d := -β) (m := by' - ay) (n := by' - vy) (k := by' - uy) (by omega) (by omega) (by omega) (by omega) (by omega) (by grind)
            omega
          · intro k
            false_or_by_contra
            have := le_of_parts (x := -γ) (a := -α) (d := β) (m := by' - ay) (n := vy - ay) (k := uy - ay) (by omega) (by omega) (by omega) (by omega) (by omega) (by grind)
            have := le_of_parts (x := δ) (a := -α) (d := β) (m := by' - ay) (n := by' - vy) (k := by' - uy) (by omega) (by omega) (by omega) (by omega) (by omega) (by grind)
            omega
        clear hα hβ hγ hδ
        split <;> split <;> (try split) <;> (try split) <;> (try split) <;> (try split) <;> (try split) <;> (try split) <;> omega
  · by_cases A2 : ay ≤ vy
    · by_cases B2 : by' ≤ vy
      · -- u < a ≤ b ≤ v
        have key : γ < 0 ↔ δ < 0 := by
          constructor
          · intro k
            false_or_by_contra
            have := le_of_parts (x := -α) (a := -γ) (d := δ) (m := vy - uy) (n := by' - uy) (k := ay - uy) (by omega) (by omega) (by omega) (by omega) (by omega) (by grind)
            have := le_of_parts (x := β) (a := -γ) (d := δ) (m := vy - uy) (n := vy - by') (k := vy - ay) (by omega) (by omega) (by omega) (by omega) (by omega) (by grind)
            omega
          · intro k
            false_or_by_contra
            have := le_of_parts (x := α) (a := γ) (d := -δ) (m := vy - uy) (n := by' - uy) (k := ay - uy) (by omega) (by omega) (by omega) (by omega) (by omega) (by grind)
            have := le_of_parts (x := -β) (a := γ) (d := -δ) (m := vy - uy) (n := vy - by') (k := vy - ay) (by omega) (by omega) (by omega) (by omega) (by omega) (by grind)
            omega
        clear hα hβ hγ hδ
        split <;> split <;> (try split) <;> (try split) <;> (try split) <;> (try split) <;> (try split) <;> (try split) <;> omega
      · -- u < a ≤ v < b
        have key : 0 < β ↔ γ < 0 := by
          by_cases hm : ay = vy
          · have i1 : (by' - ay) * γ = -((ay - uy) * β) := by grind
            constructor
            · intro k
              have := Int.mul_pos (show 0 < ay - uy by omega) k
              rcases Int.lt_or_le γ 0 with k2 | k2
              · exact k2
              · have := Int.mul_nonneg (show 0 ≤ by' - ay by omega) k2; omega
            · intro k
              have := Int.mul_neg_of_pos_of_neg (show 0 < by' - ay by omega) k
              rcases Int.lt_or_le 0 β with k2 | k2
              · exact k2
              · have := Int.mul_nonneg (show 0 ≤ ay - uy by omega) (show 0 ≤ -β by omega)
                have e : (ay - uy) * -β = -((ay - uy) * β) := by grind
                omega
          · constructor
            · intro k
              false_or_by_contra
              have := le_of_parts (x := α) (a := γ) (d := β) (m := vy - ay) (n := by' - ay) (k := ay - uy) (by omega) (by omega) (by omega) (by omega) (by omega) (by grind)
              have := le_of_parts (x := δ) (a := γ) (d := β) (m := vy - ay) (n := by' - vy) (k := vy - uy) (by omega) (by omega) (by omega) (by omega) (by omega) (by grind)
              omega
            · intro k
              false_or_by_contra
              have := le_of_parts (x := -α) (a := -γ) (d := -β) (m := vy - ay) (n := by' - ay) (k := ay - uy) (by omega) (by omega) (by omega) (by omega) (by omega) (by grind)
              have := le_of_parts (x := -δ) (a := -γ) (d := -β) (m := vy - ay) (n := by' - vy) (k := vy - uy) (by omega) (by omega) (by omega) (by omega) (by omega) (by grind)
              omega
        clear hα hβ hγ hδ
        split <;> split <;> (try split) <;> (try split) <;> (try split) <;> (try split) <;> (try split) <;> (try split) <;> omega
    · split <;> split <;> (try split) <;> (try split) <;> (try split) <;> (try split) <;> (try split) <;> (try split) <;> omega
/-- **A side and a segment that are apart.** -/
theorem cell {a b u v : Pt} (h : Apart a b u v) : wS a b u - wS a b v = rS u v b - rS u v a := by
  rcases Int.le_total a.2 b.2 with h1 | h1 <;> rcases Int.le_total u.2 v.2 with h2 | h2
  · exact cell_up h1 h2 h
  · have := cell_up h1 h2 h.flip2
    rw [rS_flip u v b, rS_flip u v a] at this
    omega
  · have := cell_up h1 h2 h.flip1
    rw [wS_flip a b u, wS_flip a b v] at this
    omega
  · have := cell_up h1 h2 h.flip1.flip2
    rw [wS_flip a b u, wS_flip a b v, rS_flip u v b, rS_flip u v a] at this
    omega
end Go.Proofs.Ytklbambnnkdjlaa
