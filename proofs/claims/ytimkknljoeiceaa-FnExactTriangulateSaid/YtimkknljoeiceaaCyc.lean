/-
  Plain geometry: points between points, and segments that are parted by a point.
-/
import Derived.Test.YtimkknljoeiceaaGeo
namespace Go.Proofs.Ytimkknljoeiceaa

/-- A point at a fraction of the way. -/
theorem frac_bt {m q b e f : Int} (hm : 0 < m) (h0 : 0 ≤ q) (h1 : q ≤ m) (h : m * (b - e) = q * (f - e)) : bt e f b := by
  rcases Int.le_total e f with hf | hf
  · left
    have a1 : 0 ≤ q * (f - e) := Int.mul_nonneg h0 (by omega)
    have a2 : q * (f - e) ≤ m * (f - e) := Int.mul_le_mul_of_nonneg_right h1 (by omega)
    rw [← h] at a1 a2
    constructor
    · have := Int.le_of_mul_le_mul_left (a := m) (b := 0) (c := b - e) (by omega) hm; omega
    · have := Int.le_of_mul_le_mul_left a2 hm; omega
  · right
    have a1 : 0 ≤ q * (e - f) := Int.mul_nonneg h0 (by omega)
    have a2 : q * (e - f) ≤ m * (e - f) := Int.mul_le_mul_of_nonneg_right h1 (by omega)
    have e1 : q * (e - f) = m * (e - b) := by grind
    rw [e1] at a1 a2
    constructor
    · have := Int.le_of_mul_le_mul_left a2 hm; omega
    · have := Int.le_of_mul_le_mul_left (a := m) (b := 0) (c := e - b) (by omega) hm; omega
/-- b is at q / (p + q) of the way from a to c. -/
structure Wt (a c b : Int × Int) (p q : Int) : Prop where
  p0 : 0 ≤ p
  q0 : 0 ≤ q
  pq : 0 < p + q
  e1 : (p + q) * b.1 = p * a.1 + q * c.1
  e2 : (p + q) * b.2 = p * a.2 + q * c.2
theorem on_wt {a c b : Int × Int} (h : onP a c b = true) (hac : a ≠ c) : ∃ p q, Wt a c b p q := by
  obtain ⟨h1, h2, h3⟩ := (onP_iff _ _ _).1 h
  obtain ⟨ax, ay⟩ := a
  obtain ⟨bx, by'⟩ := b
  obtain ⟨cx, cy⟩ := c
  simp only [crossP, crossI] at h1 h2 h3
  have hne : ¬ (ax = cx ∧ ay = cy) := fun e => hac (by rw [e.1, e.2])
  unfold bt at h2 h3
  rcases Int.le_total ax cx with hx | hx <;> rcases Int.le_total ay cy with hy | hy
  · exact ⟨(cx - bx) + (cy - by'), (bx - ax) + (by' - ay), by omega, by omega, by omega, by grind, by grind⟩
  · exact ⟨(cx - bx) + (by' - cy), (bx - ax) + (ay - by'), by omega, by omega, by omega, by grind, by grind⟩
  · exact ⟨(bx - cx) + (cy - by'), (ax - bx) + (by' - ay), by omega, by omega, by omega, by grind, by grind⟩
  · exact ⟨(bx - cx) + (by' - cy), (ax - bx) + (ay - by'), by omega, by omega, by omega, by grind, by grind⟩
theorem Wt.ne_a {a c b : Int × Int} {p q : Int} (h : Wt a c b p q) (hb : b ≠ a) : 0 < q := by
  rcases Int.lt_or_eq_of_le h.q0 with h1 | h1
  · exact h1
  · exfalso
    subst h1
    have := h.pq
    have e1 := h.e1
    have e2 := h.e2
    simp only [Int.add_zero, Int.zero_mul] at e1 e2 this
    exact hb (Prod.ext (Int.eq_of_mul_eq_mul_left (by omega) e1) (Int.eq_of_mul_eq_mul_left (by omega) e2))
theorem Wt.ne_c {a c b : Int × Int} {p q : Int} (h : Wt a c b p q) (hb : b ≠ c) : 0 < p := by
  rcases Int.lt_or_eq_of_le h.p0 with h1 | h1
  · exact h1
  · exfalso
    subst h1
    have := h.pq
    have e1 := h.e1
    have e2 := h.e2
    simp only [Int.zero_add, Int.zero_mul] at e1 e2 this
    exact hb (Prod.ext (Int.eq_of_mul_eq_mul_left (by omega) e1) (Int.eq_of_mul_eq_mul_left (by omega) e2))
theorem Wt.cross3 {a c b : Int × Int} {p q : Int} (h : Wt a c b p q) (e f : Int × Int) : (p + q) * crossP e f b = p * crossP e f a + q * crossP e f c := by
  have e1 := h.e1
  have e2 := h.e2
  simp only [crossP, crossI]
  grind
theorem Wt.cross_ab {a c b : Int × Int} {p q : Int} (h : Wt a c b p q) (e : Int × Int) : (p + q) * crossP a b e = q * crossP a c e := by
  have e1 := h.e1
  have e2 := h.e2
  simp only [crossP, crossI]
  grind
theorem Wt.cross_bc {a c b : Int × Int} {p q : Int} (h : Wt a c b p q) (e : Int × Int) : (p + q) * crossP b c e = p * crossP a c e := by
  have e1 := h.e1
  have e2 := h.e2
  simp only [crossP, crossI]
  grind
theorem mul_zero_of {m x : Int} (hm : 0 < m) (h : m * x = 0) : x = 0 := by
  rcases Int.mul_eq_zero.1 h with h1 | h1
  · omega
  · exact h1
/-- What is on the whole is on one of the parts. -/
theorem on_part {a c b e : Int × Int} (hb : onP a c b = true) (he : onP a c e = true) : onP a b e = true ∨ onP b c e = true := by
  by_cases hac : a = c
  · subst hac
    left
    obtain ⟨_, h2, h3⟩ := (onP_iff _ _ _).1 he
    have : e = a := by unfold bt at h2 h3; exact Prod.ext (by omega) (by omega)
    rw [this]; exact on_left _ _
  obtain ⟨p, q, hw⟩ := on_wt hb hac
  obtain ⟨b1, b2, b3⟩ := (onP_iff _ _ _).1 hb
  obtain ⟨e1, e2, e3⟩ := (onP_iff _ _ _).1 he
  have c1 : crossP a b e = 0 := mul_zero_of hw.pq (by rw [hw.cross_ab, e1, Int.mul_zero])
  have c2 : crossP b c e = 0 := mul_zero_of hw.pq (by rw [hw.cross_bc, e1, Int.mul_zero])
  rcases on_line c1 with h | h | h
  · right
    obtain ⟨_, h2, h3⟩ := (onP_iff _ _ _).1 h
    exact (onP_iff _ _ _).2 ⟨c2, by unfold bt at *; omega, by unfold bt at *; omega⟩
  · obtain ⟨_, h2, h3⟩ := (onP_iff _ _ _).1 h
    have k1 : a.1 = b.1 ∨ a.1 = e.1 := by unfold bt at *; omega
    have k2 : a.2 = b.2 ∨ a.2 = e.2 := by unfold bt at *; omega
    have hba : b = a → onP b c e = true := fun h => by rw [h]; exact he
    have hea : e = a → onP a b e = true := fun h => by rw [h]; exact on_left _ _
    unfold crossP crossI at b1 e1
    rcases k1 with k1 | k1 <;> rcases k2 with k2 | k2
    · exact .inr (hba (Prod.ext k1.symm k2.symm))
    · have : (c.1 - a.1) * (b.2 - a.2) = 0 := by grind
      rcases Int.mul_eq_zero.1 this with h4 | h4
      · exact .inl (hea (Prod.ext (by unfold bt at *; omega) k2.symm))
      · exact .inr (hba (Prod.ext k1.symm (by omega)))
    · have : (c.2 - a.2) * (b.1 - a.1) = 0 := by grind
      rcases Int.mul_eq_zero.1 this with h4 | h4
      · exact .inl (hea (Prod.ext k1.symm (by unfold bt at *; omega)))
      · exact .inr (hba (Prod.ext (by omega) k2.symm))
    · exact .inl (hea (Prod.ext k1.symm k2.symm))
  · exact .inl h
/-- What is on a part is on the whole. -/
theorem on_whole {a c b e : Int × Int} (hac : a ≠ c) (hb : onP a c b = true) (he : onP a b e = true) : onP a c e = true := by
  by_cases hba : b = a
  · subst hba
    obtain ⟨_, h2, h3⟩ := (onP_iff _ _ _).1 he
    have : e = b := by unfold bt at h2 h3; exact Prod.ext (by omega) (by omega)
    rw [this]; exact on_left _ _
  obtain ⟨p, q, hw⟩ := on_wt hb hac
  have hq := hw.ne_a hba
  obtain ⟨b1, b2, b3⟩ := (onP_iff _ _ _).1 hb
  obtain ⟨e1, e2, e3⟩ := (onP_iff _ _ _).1 he
  have c1 : crossP a c e = 0 := mul_zero_of hq (by rw [← hw.cross_ab, e1, Int.mul_zero])
  exact (onP_iff _ _ _).2 ⟨c1, by unfold bt at *; omega, by unfold bt at *; omega⟩
theorem on_flip (a b p : Int × Int) : onP b a p = onP a b p := by
  rw [Bool.eq_iff_iff, onP_iff, onP_iff, crossP_flip]
  unfold bt
  constructor <;> (rintro ⟨h1, h2, h3⟩; exact ⟨by omega, by omega, by omega⟩)
theorem meet_zero {a b c d : Int × Int} : meetI a b c d = 0 ↔ (opp a b c d && opp c d a b) = false ∧ onP c d a = false ∧ onP c d b = false ∧ onP a b c = false ∧ onP a b d = false := by
  unfold meetI
  have hs : (sharedS a b c d).isEmpty = (!(onP c d a) && !(onP c d b) && !(onP a b c) && !(onP a b d)) := by
    simp only [sharedS, List.filter_cons, List.filter_nil]
    cases onP c d a <;> cases onP c d b <;> cases onP a b c <;> cases onP a b d <;> rfl
  cases opp a b c d && opp c d a b
  · rw [hs]
    cases onP c d a <;> cases onP c d b <;> cases onP a b c <;> cases onP a b d <;> simp
    all_goals (cases sameAll (sharedS a b c d) <;> simp)
  · simp
theorem sgn_tri (n : Int) : (0 < n ∧ sgn n = 1) ∨ (n = 0 ∧ sgn n = 0) ∨ (n < 0 ∧ sgn n = -1) := by
  unfold sgn
  rcases Int.lt_trichotomy n 0 with h | h | h
  · right; right; exact ⟨h, by rw [if_neg (by omega), if_pos h]⟩
  · right; left; exact ⟨h, by rw [if_neg (by omega), if_neg (by omega)]⟩
  · left; exact ⟨h, by rw [if_pos h]⟩
theorem opp_iff (a b c d : Int × Int) : opp a b c d = true ↔ (0 < crossP a b c ∧ crossP a b d < 0) ∨ (crossP a b c < 0 ∧ 0 < crossP a b d) := by
  unfold opp
  rw [decide_eq_true_eq]
  rcases sgn_tri (crossP a b c) with ⟨h1, h2⟩ | ⟨h1, h2⟩ | ⟨h1, h2⟩ <;> rcases sgn_tri (crossP a b d) with ⟨h3, h4⟩ | ⟨h3, h4⟩ | ⟨h3, h4⟩ <;> rw [h2, h4] <;> omega
/-- Lines that cross: their common point is on a segment whose ends are on both sides. -/
theorem on_crossing {a c e f b : Int × Int} (h1 : crossP a c b = 0) (h2 : crossP e f b = 0) (ho : opp a c e f = true) : onP e f b = true := by
  rw [onP_iff]
  refine ⟨h2, ?_, ?_⟩
  · rcases (opp_iff _ _ _ _).1 ho with ⟨k1, k2⟩ | ⟨k1, k2⟩
    · exact frac_bt (m := crossP a c e - crossP a c f) (q := crossP a c e) (by omega) (by omega) (by omega) (by unfold crossP crossI at *; grind)
    · exact frac_bt (m := crossP a c f - crossP a c e) (q := -crossP a c e) (by omega) (by omega) (by omega) (by unfold crossP crossI at *; grind)
  · rcases (opp_iff _ _ _ _).1 ho with ⟨k1, k2⟩ | ⟨k1, k2⟩
    · exact frac_bt (m := crossP a c e - crossP a c f) (q := crossP a c e) (by omega) (by omega) (by omega) (by unfold crossP crossI at *; grind)
    · exact frac_bt (m := crossP a c f - crossP a c e) (q := -crossP a c e) (by omega) (by omega) (by omega) (by unfold crossP crossI at *; grind)
theorem pos_of_mul {m x y q : Int} (hm : 0 < m) (hq : 0 < q) (h : m * x = q * y) : (0 < y → 0 < x) ∧ (y < 0 → x < 0) := by
  constructor
  · intro hy
    have : 0 < m * x := by rw [h]; exact Int.mul_pos hq hy
    rcases Int.lt_trichotomy x 0 with h1 | h1 | h1
    · have := Int.mul_neg_of_pos_of_neg hm h1; omega
    · rw [h1, Int.mul_zero] at this; omega
    · exact h1
  · intro hy
    have : m * x < 0 := by rw [h]; exact Int.mul_neg_of_pos_of_neg hq hy
    rcases Int.lt_trichotomy x 0 with h1 | h1 | h1
    · exact h1
    · rw [h1, Int.mul_zero] at this; omega
    · have := Int.mul_pos hm h1; omega
/-- **Two parts that a segment does not meet: the whole does not, either.** -/
theorem meet_merge {a c b e f : Int × Int} (hb : onP a c b = true) (hba : b ≠ a) (hbc : b ≠ c) (h1 : meetI a b e f = 0) (h2 : meetI b c e f = 0) : meetI a c e f = 0 := by
  have hac : a ≠ c := by
    intro h
    subst h
    obtain ⟨_, k2, k3⟩ := (onP_iff _ _ _).1 hb
    exact hba (by unfold bt at k2 k3; exact Prod.ext (by omega) (by omega))
  obtain ⟨p, q, hw⟩ := on_wt hb hac
  have hp := hw.ne_c hbc
  have hq := hw.ne_a hba
  obtain ⟨o1, x1, x2, x3, x4⟩ := meet_zero.1 h1
  obtain ⟨o2, y1, y2, y3, y4⟩ := meet_zero.1 h2
  rw [meet_zero]
  refine ⟨?_, x1, y2, ?_, ?_⟩
  · cases ho : (opp a c e f && opp e f a c)
    · rfl
    · exfalso
      rw [Bool.and_eq_true] at ho
      obtain ⟨k1, k2⟩ := ho
      have hB := hw.cross3 e f
      rw [Bool.and_eq_false_iff] at o1 o2
      have n1 : opp a b e f = true := by
        have g1 := pos_of_mul hw.pq hq (hw.cross_ab e)
        have g2 := pos_of_mul hw.pq hq (hw.cross_ab f)
        rw [opp_iff] at k1 ⊢
        rcases k1 with k1 | k1
        · exact .inl ⟨g1.1 k1.1, g2.2 k1.2⟩
        · exact .inr ⟨g1.2 k1.1, g2.1 k1.2⟩
      have n2 : opp b c e f = true := by
        have g1 := pos_of_mul hw.pq hp (hw.cross_bc e)
        have g2 := pos_of_mul hw.pq hp (hw.cross_bc f)
        rw [opp_iff] at k1 ⊢
        rcases k1 with k1 | k1
        · exact .inl ⟨g1.1 k1.1, g2.2 k1.2⟩
        · exact .inr ⟨g1.2 k1.1, g2.1 k1.2⟩
      have m1 : ¬ opp e f a b = true := fun h => by rcases o1 with o | o <;> simp_all
      have m2 : ¬ opp e f b c = true := fun h => by rcases o2 with o | o <;> simp_all
      rw [opp_iff] at m1 m2 k2
      have hz : crossP e f b = 0 := by omega
      have hcb : crossP a c b = 0 := ((onP_iff _ _ _).1 hb).1
      have := on_crossing hcb hz k1
      rw [this] at x2
      cases x2
  · cases h : onP a c e
    · rfl
    · rcases on_part hb h with h3 | h3
      · rw [x3] at h3; cases h3
      · rw [y3] at h3; cases h3
  · cases h : onP a c f
    · rfl
    · rcases on_part hb h with h3 | h3
      · rw [x4] at h3; cases h3
      · rw [y4] at h3; cases h3
end Go.Proofs.Ytimkknljoeiceaa
