/-
  Walks and facts of this seat, part Cob (merged by a script of this repo out of smaller texts).
-/
import Derived.Test.YtnkehfhedjdhaaaDoorCoa
import Derived.WalkSpells
import Derived.RegionTactic
import Derived.OwnWalk
import Derived.Deep.RegionLaw
import Derived.Lib.AppendZerosOnto
import Derived.Lib.SliceRun
/-! PtFacts -/
namespace Go.Proofs.YtnkehfhedjdhaaaDoor
open Go.RowKit

theorem cross_flip (ax ay bx by' cx cy : Int) : crossI ax ay bx by' cx cy = -crossI bx by' ax ay cx cy := by
  unfold crossI
  simp only [Int.mul_sub, Int.mul_comm]
  omega
theorem cross_turn (ax ay bx by' cx cy : Int) : crossI ax ay bx by' cx cy = crossI bx by' cx cy ax ay := by
  unfold crossI
  simp only [Int.mul_sub, Int.mul_comm]
  omega
theorem cross_swap (ax ay bx by' cx cy : Int) : crossI ax ay bx by' cx cy = -crossI ax ay cx cy bx by' := by
  unfold crossI
  simp only [Int.mul_sub, Int.mul_comm]
  omega
theorem steps_flip (ax ay bx by' : Int) : stepsN bx by' ax ay = stepsN ax ay bx by' := by
  unfold stepsN
  have h1 : (ax - bx).natAbs = (bx - ax).natAbs := by omega
  have h2 : (ay - by').natAbs = (by' - ay).natAbs := by omega
  rw [h1, h2]
theorem steps_zero (ax ay bx by' : Int) : stepsN ax ay bx by' = 0 ↔ ax = bx ∧ ay = by' := by
  unfold stepsN
  rw [Nat.gcd_eq_zero_iff]
  omega
/-- The steps divide both differences. -/
theorem steps_div (ax ay bx by' : Int) : (stepsN ax ay bx by' : Int) * Int.tdiv (bx - ax) (stepsN ax ay bx by') = bx - ax ∧ (stepsN ax ay bx by' : Int) * Int.tdiv (by' - ay) (stepsN ax ay bx by') = by' - ay := by
  have h1 : (stepsN ax ay bx by' : Int) ∣ bx - ax := Int.ofNat_dvd_left.2 (Nat.gcd_dvd_left _ _)
  have h2 : (stepsN ax ay bx by' : Int) ∣ by' - ay := Int.ofNat_dvd_left.2 (Nat.gcd_dvd_right _ _)
  exact ⟨Int.mul_tdiv_cancel' h1, Int.mul_tdiv_cancel' h2⟩
/-- One step is no multiple. -/
theorem step_one {ax ay bx by' qx qy : Int} {n : Nat} (hn : 0 < n) (e : stepsN ax ay bx by' = n) (hx : (n : Int) * qx = bx - ax) (hy : (n : Int) * qy = by' - ay) : Nat.gcd qx.natAbs qy.natAbs = 1 := by
  have h : Nat.gcd (n * qx.natAbs) (n * qy.natAbs) = n := by
    have e1 : n * qx.natAbs = (bx - ax).natAbs := by rw [← hx, Int.natAbs_mul]; rfl
    have e2 : n * qy.natAbs = (by' - ay).natAbs := by rw [← hy, Int.natAbs_mul]; rfl
    rw [e1, e2]; exact e
  rw [Nat.gcd_mul_left] at h
  exact Nat.eq_of_mul_eq_mul_left hn (by omega)
/-- A point on the way lies on the line, and in the box. -/
theorem cross_way (ax ay qx qy : Int) (n i : Int) : crossI ax ay (ax + n * qx) (ay + n * qy) (ax + qx * i) (ay + qy * i) = 0 := by
  unfold crossI
  have e1 : ax + n * qx - ax = n * qx := by omega
  have e2 : ay + qy * i - ay = qy * i := by omega
  have e3 : ay + n * qy - ay = n * qy := by omega
  have e4 : ax + qx * i - ax = qx * i := by omega
  rw [e1, e2, e3, e4]
  have : n * qx * (qy * i) = n * qy * (qx * i) := by
    rw [Int.mul_assoc, Int.mul_assoc, ← Int.mul_assoc qx, ← Int.mul_assoc qy, Int.mul_comm qx qy]
  omega
theorem box_way (a q : Int) (n i : Nat) (h : i ≤ n) : min a (a + n * q) ≤ a + q * i ∧ a + q * i ≤ max a (a + n * q) := by
  have hi : (i : Int) ≤ n := by omega
  rcases Int.le_total 0 q with hq | hq
  · have h1 : 0 ≤ q * (i : Int) := Int.mul_nonneg hq (by omega)
    have h2 : q * (i : Int) ≤ q * n := Int.mul_le_mul_of_nonneg_left hi hq
    rw [Int.mul_comm q n] at h2
    generalize q * (i : Int) = u at *
    generalize (n : Int) * q = v at *
    omega
  · have h1 : q * (i : Int) ≤ 0 := Int.mul_nonpos_of_nonpos_of_nonneg hq (by omega)
    have h2 : q * (n : Int) ≤ q * i := Int.mul_le_mul_of_nonpos_left hq hi
    rw [Int.mul_comm q n] at h2
    generalize q * (i : Int) = u at *
    generalize (n : Int) * q = v at *
    omega
theorem square_zero (x y : Int) : x * x + y * y = 0 ↔ x = 0 ∧ y = 0 := by
  have h1 : 0 ≤ x * x := by rw [← Int.natAbs_mul_self (a := x)]; omega
  have h2 : 0 ≤ y * y := by rw [← Int.natAbs_mul_self (a := y)]; omega
  constructor
  · intro h
    have e1 : x * x = 0 := by omega
    have e2 : y * y = 0 := by omega
    exact ⟨(Int.mul_eq_zero.1 e1).elim id id, (Int.mul_eq_zero.1 e2).elim id id⟩
  · rintro ⟨rfl, rfl⟩; rfl
theorem sgn_minus (n : Int) : sgn (-n) = -sgn n := by
  rcases sgn_cases n with ⟨h, e⟩ | ⟨h, e⟩ | ⟨h, e⟩
  · rw [e, sgn_neg (by omega)]
  · rw [e, sgn_pos (by omega)]; rfl
  · rw [h]; rfl
theorem sgn_mul_neg (p q : Int) : sgn p * sgn q < 0 ↔ p * q < 0 := by
  rcases sgn_cases p with ⟨h, e⟩ | ⟨h, e⟩ | ⟨h, e⟩ <;> rcases sgn_cases q with ⟨h2, e2⟩ | ⟨h2, e2⟩ | ⟨h2, e2⟩ <;> rw [e, e2]
  · have := Int.mul_pos h h2; constructor <;> omega
  · have := Int.mul_neg_of_pos_of_neg h h2; constructor <;> omega
  · rw [h2]; simp
  · have := Int.mul_neg_of_neg_of_pos h h2; constructor <;> omega
  · have := Int.mul_pos_of_neg_of_neg h h2; constructor <;> omega
  · rw [h2]; simp
  · rw [h]; simp
  · rw [h]; simp
  · rw [h]; simp
/-- What meets depends on the shared ends as a set. -/
theorem same_set {M N : List (Int × Int)} (h : ∀ p, p ∈ M ↔ p ∈ N) : M.isEmpty = N.isEmpty ∧ sameAll M = sameAll N := by
  have key : ∀ M : List (Int × Int), sameAll M = true ↔ ∀ p ∈ M, ∀ q ∈ M, p = q := by
    intro M
    cases M with
    | nil => simp [sameAll]
    | cons x t =>
      simp only [sameAll, List.all_eq_true, Bool.and_eq_true, beq_iff_eq]
      constructor
      · intro h p hp q hq
        have e : ∀ r ∈ x :: t, r = x := fun r hr => by
          rcases List.mem_cons.1 hr with rfl | hr
          · rfl
          · exact Prod.ext (h r hr).1 (h r hr).2
        rw [e p hp, e q hq]
      · intro h y hy
        have := h y (List.mem_cons_of_mem _ hy) x (List.mem_cons_self)
        rw [this]; exact ⟨rfl, rfl⟩
  constructor
  · cases M with
    | nil =>
      cases N with
      | nil => rfl
      | cons y t => exact absurd ((h y).2 (List.mem_cons_self)) (by simp)
    | cons x t =>
      cases N with
      | nil => exact absurd ((h x).1 (List.mem_cons_self)) (by simp)
      | cons y u => rfl
  · have : sameAll M = true ↔ sameAll N = true := by
      rw [key, key]
      constructor
      · intro g p hp q hq; exact g p ((h p).2 hp) q ((h q).2 hq)
      · intro g p hp q hq; exact g p ((h p).1 hp) q ((h q).1 hq)
    cases h1 : sameAll M <;> cases h2 : sameAll N <;> simp_all
theorem meetI_of {a b c d a' b' c' d' : Int × Int} (ho : (opp a b c d && opp c d a b) = (opp a' b' c' d' && opp c' d' a' b')) (h : ∀ p, p ∈ sharedS a b c d ↔ p ∈ sharedS a' b' c' d') : meetI a b c d = meetI a' b' c' d' := by
  unfold meetI
  rw [ho, (same_set h).1, (same_set h).2]
theorem meetI_swap (a b c d : Int × Int) : meetI a b c d = meetI c d a b :=
  meetI_of (Bool.and_comm _ _) fun p => by
    unfold sharedS
    rw [List.mem_append, List.mem_append]
    exact Or.comm
theorem crossP_flip (a b p : Int × Int) : crossP b a p = -crossP a b p := by
  unfold crossP
  rw [cross_flip b.1]
theorem onP_flip (a b p : Int × Int) : onP b a p = onP a b p := by
  have hz : (crossI b.1 b.2 a.1 a.2 p.1 p.2 == 0) = (crossI a.1 a.2 b.1 b.2 p.1 p.2 == 0) := by
    rw [cross_flip b.1]
    cases h : (crossI a.1 a.2 b.1 b.2 p.1 p.2 == 0) <;> simp_all <;> omega
  unfold onP onI boxB
  rw [hz, Int.min_comm b.1, Int.max_comm b.1, Int.min_comm b.2, Int.max_comm b.2]
theorem opp_flip (a b c d : Int × Int) : opp b a d c = opp a b c d := by
  unfold opp
  rw [crossP_flip a b d, crossP_flip a b c, sgn_minus, sgn_minus, Int.neg_mul_neg, Int.mul_comm]
theorem meetI_flip (a b c d : Int × Int) : meetI b a d c = meetI a b c d :=
  meetI_of (by rw [opp_flip a b, opp_flip c d]) fun p => by
    simp only [sharedS, List.mem_append, List.mem_filter, List.mem_cons, List.not_mem_nil, or_false, onP_flip]
    constructor
    · rintro (⟨h1 | h1, h2⟩ | ⟨h1 | h1, h2⟩)
      · exact .inl ⟨.inr h1, h2⟩
      · exact .inl ⟨.inl h1, h2⟩
      · exact .inr ⟨.inr h1, h2⟩
      · exact .inr ⟨.inl h1, h2⟩
    · rintro (⟨h1 | h1, h2⟩ | ⟨h1 | h1, h2⟩)
      · exact .inl ⟨.inr h1, h2⟩
      · exact .inl ⟨.inl h1, h2⟩
      · exact .inr ⟨.inr h1, h2⟩
      · exact .inr ⟨.inl h1, h2⟩
theorem eqQ_comm (a b : Int × Int) : eqQ b a = eqQ a b := by
  unfold eqQ
  rw [Bool.beq_comm (a := b.1), Bool.beq_comm (a := b.2)]
theorem meetV_swap (a b c d : Int × Int) : meetV c d a b = meetV a b c d := by
  unfold meetV
  rw [meetI_swap a b c d]
  cases okQ a <;> cases okQ b <;> cases okQ c <;> cases okQ d <;> cases eqQ a b <;> cases eqQ c d <;> rfl
theorem meetV_flip (a b c d : Int × Int) : meetV b a d c = meetV a b c d := by
  unfold meetV
  rw [meetI_flip a b c d, eqQ_comm a b, eqQ_comm c d]
  cases okQ a <;> cases okQ b <;> cases okQ c <;> cases okQ d <;> cases eqQ a b <;> cases eqQ c d <;> rfl
theorem meetV_along {a b : Int × Int} (ha : okQ a = true) (hb : okQ b = true) (h : eqQ a b = false) : meetV a b b a = 3 := by
  have hn : ¬ a = b := fun e => by rw [e] at h; simp [eqQ] at h
  have h1 : opp a b b a = false := by
    have : crossP a b b = 0 := by simp [crossP, crossI, Int.mul_comm]
    simp [opp, this, sgn]
  have hS : sharedS a b b a = [a, b, b, a] := by
    simp [sharedS, on_left, on_right]
  have hs : sameAll [a, b, b, a] = false := by
    simp only [eqQ] at h
    simp only [sameAll, List.all_cons, List.all_nil]
    rw [Bool.beq_comm (a := b.1), Bool.beq_comm (a := b.2), h]; rfl
  unfold meetV meetI
  rw [ha, hb, h, eqQ_comm a b, h, h1, hS, hs]; rfl
/-- A crossing, by the four cross products. -/
theorem meetV_cross {a b c d : Int × Int} (ha : okQ a = true) (hb : okQ b = true) (hc : okQ c = true) (hd : okQ d = true) :
    (meetV a b c d == 2) = (decide (crossP a b c * crossP a b d < 0) && decide (crossP c d a * crossP c d b < 0)) := by
  have e1 : ∀ a b c d : Int × Int, opp a b c d = decide (crossP a b c * crossP a b d < 0) := fun a b c d => by
    unfold opp; simp only [sgn_mul_neg]
  rw [← e1, ← e1]
  have hz : ∀ a b c d : Int × Int, eqQ a b = true → opp a b c d = false := fun a b c d h => by
    simp only [eqQ, Bool.and_eq_true, beq_iff_eq] at h
    have : ∀ p, crossP a b p = 0 := fun p => by simp [crossP, crossI, h.1, h.2]
    simp [opp, this, sgn]
  unfold meetV
  rw [ha, hb, hc, hd]
  cases h1 : eqQ a b
  · cases h2 : eqQ c d
    · unfold meetI
      cases opp a b c d && opp c d a b <;> cases (sharedS a b c d).isEmpty <;> cases sameAll (sharedS a b c d) <;> rfl
    · rw [hz c d a b h2]; cases opp a b c d <;> rfl
  · rw [hz a b c d h1]; rfl
end Go.Proofs.YtnkehfhedjdhaaaDoor

/-! Geo -/
namespace Go.Proofs.YtnkehfhedjdhaaaDoor
open Go.RowKit

theorem mul_signs (x y : Int) : (0 < x → 0 < y → 0 < x * y) ∧ (x < 0 → y < 0 → 0 < x * y) ∧ (0 < x → y < 0 → x * y < 0) ∧ (x < 0 → 0 < y → x * y < 0) ∧ (x = 0 → x * y = 0) ∧ (y = 0 → x * y = 0) := by
  refine ⟨Int.mul_pos, Int.mul_pos_of_neg_of_neg, Int.mul_neg_of_pos_of_neg, Int.mul_neg_of_neg_of_pos, fun h => by rw [h, Int.zero_mul], fun h => by rw [h, Int.mul_zero]⟩
theorem prop_le {p q r s : Nat} (h : p * s = q * r) (hp : 0 < p) (hr : p ≤ r) : q ≤ s := by
  rcases Nat.lt_or_ge s q with h1 | h1
  · exfalso
    have h2 : p * s < p * q := Nat.mul_lt_mul_of_pos_left h1 hp
    have h3 : q * p ≤ q * r := Nat.mul_le_mul_left q hr
    rw [Nat.mul_comm q p] at h3
    omega
  · exact h1
theorem prop_ge {p q r s : Nat} (h : p * s = q * r) (hp : 0 < p) (hr : r ≤ p) : s ≤ q := by
  rcases Nat.lt_or_ge q s with h1 | h1
  · exfalso
    have h2 : p * q < p * s := Nat.mul_lt_mul_of_pos_left h1 hp
    have h3 : q * r ≤ q * p := Nat.mul_le_mul_left q hr
    rw [Nat.mul_comm q p] at h3
    omega
  · exact h1
theorem opp_x {ux uy vx vy : Int} (h : ux * vy = uy * vx) (hx : (0 < ux ∧ vx < 0) ∨ (ux < 0 ∧ 0 < vx)) :
    (0 < uy → vy < 0) ∧ (uy < 0 → 0 < vy) ∧ (uy = 0 → vy = 0) ∧ (ux.natAbs ≤ vx.natAbs → uy.natAbs ≤ vy.natAbs) ∧ (vx.natAbs ≤ ux.natAbs → vy.natAbs ≤ uy.natAbs) := by
  have hn : ux.natAbs * vy.natAbs = uy.natAbs * vx.natAbs := by rw [← Int.natAbs_mul, ← Int.natAbs_mul, h]
  have hp : 0 < ux.natAbs := by omega
  have m1 := mul_signs ux vy
  have m2 := mul_signs uy vx
  rw [h] at m1
  generalize uy * vx = z at *
  refine ⟨?_, ?_, ?_, prop_le hn hp, prop_ge hn hp⟩
  · intro hu
    rcases Int.lt_trichotomy vy 0 with hz | hz | hz
    · exact hz
    · exfalso
      rcases hx with hx | hx
      · have := m2.2.2.1 hu hx.2; have := m1.2.2.2.2.2 hz; omega
      · have := m2.1 hu hx.2; have := m1.2.2.2.2.2 hz; omega
    · exfalso
      rcases hx with hx | hx
      · have := m2.2.2.1 hu hx.2; have := m1.1 hx.1 hz; omega
      · have := m2.1 hu hx.2; have := m1.2.2.2.1 hx.1 hz; omega
  · intro hu
    rcases Int.lt_trichotomy vy 0 with hz | hz | hz
    · exfalso
      rcases hx with hx | hx
      · have := m2.2.1 hu hx.2; have := m1.2.2.1 hx.1 hz; omega
      · have := m2.2.2.2.1 hu hx.2; have := m1.2.1 hx.1 hz; omega
    · exfalso
      rcases hx with hx | hx
      · have := m2.2.1 hu hx.2; have := m1.2.2.2.2.2 hz; omega
      · have := m2.2.2.2.1 hu hx.2; have := m1.2.2.2.2.2 hz; omega
    · exact hz
  · intro hu
    have := m2.2.2.2.2.1 hu
    rcases Int.lt_trichotomy vy 0 with hz | hz | hz
    · exfalso
      rcases hx with hx | hx
      · have := m1.2.2.1 hx.1 hz; omega
      · have := m1.2.1 hx.1 hz; omega
    · exact hz
    · exfalso
      rcases hx with hx | hx
      · have := m1.1 hx.1 hz; omega
      · have := m1.2.2.2.1 hx.1 hz; omega
/-- x is between a and b. -/
def bt (a b x : Int) : Prop := (a ≤ x ∧ x ≤ b) ∨ (b ≤ x ∧ x ≤ a)
/-- Three points 0, u, u + v on a line: one is between the others. -/
theorem between3 {ux uy vx vy : Int} (h : ux * vy = uy * vx) :
    (bt 0 (ux + vx) ux ∧ bt 0 (uy + vy) uy) ∨ (bt ux (ux + vx) 0 ∧ bt uy (uy + vy) 0) ∨ (bt 0 ux (ux + vx) ∧ bt 0 uy (uy + vy)) := by
  unfold bt
  by_cases hx : (0 < ux ∧ vx < 0) ∨ (ux < 0 ∧ 0 < vx)
  · obtain ⟨k1, k2, k3, k4, k5⟩ := opp_x h hx
    right
    rcases Nat.le_total ux.natAbs vx.natAbs with hm | hm
    · have := k4 hm
      left
      constructor
      · omega
      · rcases Int.lt_trichotomy uy 0 with hu | hu | hu
        · have := k2 hu; omega
        · have := k3 hu; omega
        · have := k1 hu; omega
    · have := k5 hm
      right
      constructor
      · omega
      · rcases Int.lt_trichotomy uy 0 with hu | hu | hu
        · have := k2 hu; omega
        · have := k3 hu; omega
        · have := k1 hu; omega
  · by_cases hy : (0 < uy ∧ vy < 0) ∨ (uy < 0 ∧ 0 < vy)
    · obtain ⟨k1, k2, k3, k4, k5⟩ := opp_x h.symm hy
      right
      rcases Nat.le_total uy.natAbs vy.natAbs with hm | hm
      · have := k4 hm
        left
        constructor
        · rcases Int.lt_trichotomy ux 0 with hu | hu | hu
          · have := k2 hu; omega
          · have := k3 hu; omega
          · have := k1 hu; omega
        · omega
      · have := k5 hm
        right
        constructor
        · rcases Int.lt_trichotomy ux 0 with hu | hu | hu
          · have := k2 hu; omega
          · have := k3 hu; omega
          · have := k1 hu; omega
        · omega
    · left
      constructor <;> omega
theorem boxB_iff (ax ay bx by' px py : Int) : boxB ax ay bx by' px py = true ↔ bt ax bx px ∧ bt ay by' py := by
  unfold bt boxB
  simp only [Bool.and_eq_true, inB_spec]
  omega
theorem onP_iff (a b p : Int × Int) : onP a b p = true ↔ crossP a b p = 0 ∧ bt a.1 b.1 p.1 ∧ bt a.2 b.2 p.2 := by
  unfold onP onI crossP
  rw [Bool.and_eq_true, beq_iff_eq, boxB_iff]
/-- One of three points on a line is between the others. -/
theorem on_line {a b c : Int × Int} (h : crossP a b c = 0) : onP a c b = true ∨ onP b c a = true ∨ onP a b c = true := by
  have h' : (b.1 - a.1) * (c.2 - b.2) = (b.2 - a.2) * (c.1 - b.1) := by
    unfold crossP crossI at h
    have e1 : c.2 - a.2 = (b.2 - a.2) + (c.2 - b.2) := by omega
    have e2 : c.1 - a.1 = (b.1 - a.1) + (c.1 - b.1) := by omega
    rw [e1, e2, Int.mul_add, Int.mul_add, Int.mul_comm (b.2 - a.2) (b.1 - a.1)] at h
    omega
  have f1 : crossP a c b = 0 := by
    have := h
    unfold crossP at this ⊢
    rw [cross_swap] at this; omega
  have f2 : crossP b c a = 0 := by
    have := h
    unfold crossP at this ⊢
    rw [cross_turn] at this; exact this
  simp only [onP_iff]
  have := between3 h'
  unfold bt at *
  rcases this with h1 | h1 | h1
  · exact .inl ⟨f1, by omega, by omega⟩
  · exact .inr (.inl ⟨f2, by omega, by omega⟩)
  · exact .inr (.inr ⟨h, by omega, by omega⟩)
theorem eqQ_iff (p q : Int × Int) : eqQ p q = true ↔ p = q := by
  unfold eqQ
  rw [Bool.and_eq_true, beq_iff_eq, beq_iff_eq, Prod.ext_iff]
theorem sameAll_iff (x : Int × Int) (t : List (Int × Int)) : sameAll (x :: t) = true ↔ ∀ y ∈ x :: t, y = x := by
  simp only [sameAll, List.all_eq_true, Bool.and_eq_true, beq_iff_eq]
  constructor
  · intro h y hy
    rcases List.mem_cons.1 hy with rfl | hy
    · rfl
    · exact Prod.ext (h y hy).1 (h y hy).2
  · intro h y hy
    rw [h y (List.mem_cons_of_mem _ hy)]
    exact ⟨rfl, rfl⟩
theorem meet_one {a b c d : Int × Int} (h : meetI a b c d = 1) : ∀ p q, p ∈ sharedS a b c d → q ∈ sharedS a b c d → p = q := by
  unfold meetI at h
  cases h1 : (opp a b c d && opp c d a b)
  · rw [h1] at h
    cases hS : sharedS a b c d with
    | nil => intro p q hp; simp at hp
    | cons x t =>
      rw [hS] at h
      cases h2 : sameAll (x :: t)
      · rw [h2] at h; simp at h
      · have := (sameAll_iff x t).1 h2
        intro p q hp hq
        rw [this p hp, this q hq]
  · rw [h1] at h; simp at h
theorem mem_shared {a b c d p : Int × Int} : p ∈ sharedS a b c d ↔ ((p = a ∨ p = b) ∧ onP c d p = true) ∨ ((p = c ∨ p = d) ∧ onP a b p = true) := by
  simp [sharedS, List.mem_filter]
/-- Two sides that touch at their common corner: on a line only if the corner is between the others. -/
theorem touch_between {a b c : Int × Int} (hab : a ≠ b) (hbc : b ≠ c) (h : meetI a b b c = 1) (hc : crossP a b c = 0) : onP a c b = true := by
  have hb : b ∈ sharedS a b b c := mem_shared.2 (.inl ⟨.inr rfl, on_left b c⟩)
  rcases on_line hc with h1 | h1 | h1
  · exact h1
  · exact absurd (meet_one h a b (mem_shared.2 (.inl ⟨.inl rfl, h1⟩)) hb) hab
  · exact absurd (meet_one h b c hb (mem_shared.2 (.inr ⟨.inr rfl, h1⟩))) hbc

/-! ### A polygon's sides -/
theorem polyB_spec {L : List (Int × Int)} (h : polyB L = true) : (3 ≤ L.length ∧ L.length ≤ 10) ∧ allOk L = true ∧ (∀ i, i < L.length → gt L i ≠ gt L (nx L i)) ∧
    (∀ i k, i < k → k < L.length → pairM L i k = bif adjB L.length i k then 1 else 0) := by
  simp only [polyB, Bool.and_eq_true] at h
  obtain ⟨⟨⟨h1, h2⟩, h3⟩, h4⟩ := h
  have hn := inB_spec.1 h1
  refine ⟨by omega, h2, fun i hi he => ?_, fun i k hi hk => ?_⟩
  · have := List.all_eq_true.1 h3 i (List.mem_range.2 hi)
    rw [show eqQ (gt L i) (gt L ((i + 1) % L.length)) = true from (eqQ_iff _ _).2 he] at this
    simp at this
  · have h5 := List.all_eq_true.1 (List.all_eq_true.1 h4 i (List.mem_range.2 (by omega))) k (List.mem_range.2 hk)
    simp only [Bool.or_eq_true, decide_eq_true_eq] at h5
    rcases h5 with h5 | h5
    · omega
    · unfold pairOk at h5
      cases ha : adjB L.length i k
      · rw [ha] at h5; simpa using h5
      · rw [ha] at h5; simpa using h5
theorem nx_lt {L : List (Int × Int)} (h : 0 < L.length) (i : Nat) : nx L i < L.length := Nat.mod_lt _ h
theorem pv_lt {L : List (Int × Int)} (h : 0 < L.length) (i : Nat) : pv L i < L.length := Nat.mod_lt _ h
theorem nx_eq {L : List (Int × Int)} {i : Nat} (hi : i < L.length) : nx L i = if i + 1 = L.length then 0 else i + 1 := by
  unfold nx
  by_cases h : i + 1 = L.length
  · rw [if_pos h, h, Nat.mod_self]
  · rw [if_neg h, Nat.mod_eq_of_lt (by omega)]
theorem pv_eq {L : List (Int × Int)} {i : Nat} (hi : i < L.length) : pv L i = if i = 0 then L.length - 1 else i - 1 := by
  unfold pv
  by_cases h : i = 0
  · rw [if_pos h, h, Nat.zero_add, Nat.mod_eq_of_lt (by omega)]
  · rw [if_neg h, show i + L.length - 1 = (i - 1) + L.length by omega, Nat.add_mod_right, Nat.mod_eq_of_lt (by omega)]
theorem nx_pv {L : List (Int × Int)} {i : Nat} (hi : i < L.length) : nx L (pv L i) = i := by
  rw [nx_eq (pv_lt (by omega) i), pv_eq hi]
  by_cases h : i = 0
  · rw [if_pos h]; rw [if_pos (by omega)]; omega
  · rw [if_neg h]; rw [if_neg (by omega)]; omega
/-- The side to a corner and the side from it touch. -/
theorem meet_next {L : List (Int × Int)} (h : polyB L = true) {i : Nat} (hi : i < L.length) : meetI (gt L (pv L i)) (gt L i) (gt L i) (gt L (nx L i)) = 1 := by
  obtain ⟨hn, _, _, hp⟩ := polyB_spec h
  by_cases h0 : i = 0
  · subst h0
    have h1 := hp 0 (L.length - 1) (by omega) (by omega)
    have e : adjB L.length 0 (L.length - 1) = true := by simp [adjB]
    rw [e] at h1
    have h2 : nx L (L.length - 1) = 0 := by rw [nx_eq (by omega), if_pos (by omega)]
    have h3 : pv L 0 = L.length - 1 := by rw [pv_eq hi, if_pos rfl]
    rw [h3, meetI_swap]
    unfold pairM at h1
    rw [show (L.length - 1 + 1) % L.length = nx L (L.length - 1) from rfl, h2] at h1
    exact h1
  · have h1 := hp (i - 1) i (by omega) hi
    have e : adjB L.length (i - 1) i = true := by simp [adjB]; omega
    rw [e] at h1
    have h3 : pv L i = i - 1 := by rw [pv_eq hi, if_neg h0]
    rw [h3]
    unfold pairM at h1
    rw [show (i - 1 + 1) % L.length = nx L (i - 1) from rfl, nx_eq (by omega), if_neg (by omega), show i - 1 + 1 = i by omega] at h1
    exact h1
theorem on_bent {L : List (Int × Int)} (h : polyB L = true) {i : Nat} (hi : i < L.length) : onQ (gt L (pv L i)) (gt L (nx L i)) (gt L i) = !(bentB L i) := by
  obtain ⟨hn, hok, hne, _⟩ := polyB_spec h
  rw [onQ_ok (gt_ok hok _) (gt_ok hok _) (gt_ok hok _), bentB, Bool.not_not]
  have h1 := hne (pv L i) (pv_lt (by omega) i)
  rw [nx_pv hi] at h1
  rw [Bool.eq_iff_iff, beq_iff_eq]
  constructor
  · intro h2
    have := ((onP_iff _ _ _).1 h2).1
    unfold crossP at this ⊢
    rw [cross_swap, this]; rfl
  · exact touch_between h1 (hne i hi) (meet_next h hi)
theorem stP_range {L : List (Int × Int)} (h : polyB L = true) : ∀ k, k ≤ L.length → stP L (List.range k) = (if k = 0 then L.length - 1 else k - 1, straightTill L k) := by
  intro k
  induction k with
  | zero => intro _; rfl
  | succ k ih =>
    intro hk
    rw [List.range_succ, stP_snoc, ih (by omega)]
    unfold stStep
    have e : (if k = 0 then L.length - 1 else k - 1) = pv L k := (pv_eq (by omega)).symm
    simp only [e, on_bent h (show k < L.length by omega)]
    rw [if_neg (by omega), show k + 1 - 1 = k by omega, straightTill]
    cases bentB L k <;> rfl
theorem stP_straight {L : List (Int × Int)} (h : polyB L = true) : (stP L (List.range L.length)).2 = straightL L := by
  rw [stP_range h _ (Nat.le_refl _)]; rfl

end Go.Proofs.YtnkehfhedjdhaaaDoor

/-! Clone -/
namespace Go.Proofs.YtnkehfhedjdhaaaDoor
open Go.RowKit

theorem ptsA_news {w : World} {g : Nat} {L : List (Int × Int)} (h : PtsA w (some ⟨g, 0, none⟩) L) (k : Nat) : ∀ j u, (flat (L.drop k))[j]? = some u → w.cell? (Addr.add ⟨g, k * 2, none⟩ j) = some u := by
  intro j u hu
  have hj : j < (flat (L.drop k)).length := by
    rcases Nat.lt_or_ge j (flat (L.drop k)).length with h1 | h1
    · exact h1
    · rw [List.getElem?_eq_none h1] at hu; cases hu
  rw [flat_len, List.length_drop] at hj
  have hq : k + j / 2 < L.length := by omega
  obtain ⟨g', hg', h1, h2⟩ := h (k + j / 2) hq
  cases hg'
  have hf := flat_at (L.drop k) (j / 2) (by rw [List.length_drop]; omega)
  have hadd : Addr.add ⟨g, k * 2, none⟩ j = ⟨g, k * 2 + j, none⟩ := by
    unfold Addr.add
    split
    · rename_i h0; subst h0; rfl
    · rfl
  rw [hadd]
  have hd : (L.drop k)[j / 2]'(by rw [List.length_drop]; omega) = L[k + j / 2] := List.getElem_drop ..
  rw [hd] at hf
  rcases Nat.mod_two_eq_zero_or_one j with hm | hm
  · have e : j = j / 2 * 2 := by omega
    have e2 : k * 2 + j = (k + j / 2) * 2 := by omega
    rw [e2, h1, ← hu]
    rw [show (flat (L.drop k))[j]? = (flat (L.drop k))[j / 2 * 2]? from by rw [← e]]
    exact hf.1.symm
  · have e : j = j / 2 * 2 + 1 := by omega
    have e2 : k * 2 + j = (k + j / 2) * 2 + 1 := by omega
    rw [e2, h2, ← hu]
    rw [show (flat (L.drop k))[j]? = (flat (L.drop k))[j / 2 * 2 + 1]? from by rw [← e]]
    exact hf.2.symm
theorem flat_one (L : List (Int × Int)) : ∀ u ∈ flat L, u.oneCell' = true := by
  intro u hu
  simp only [flat, List.mem_flatMap, List.mem_cons, List.not_mem_nil, or_false] at hu
  obtain ⟨p, -, h | h⟩ := hu <;> subst h <;> rfl

/-! ### slices.Reverse behind the first element -/
/-- After k rounds. -/
def revAt (M : List (Int × Int)) (k t : Nat) : Int × Int := if 1 ≤ t ∧ (t ≤ k ∨ M.length - k ≤ t) then gt M (M.length - t) else gt M t
def revK (M : List (Int × Int)) (k : Nat) : List (Int × Int) := (List.range M.length).map (revAt M k)
theorem revK_len (M : List (Int × Int)) (k : Nat) : (revK M k).length = M.length := by simp [revK]
theorem revK_zero (M : List (Int × Int)) : revK M 0 = M := by
  apply List.ext_getElem (by simp [revK])
  intro t h1 h2
  simp only [revK, List.getElem_map, List.getElem_range, revAt]
  rw [if_neg (by omega), gt_at h2]
theorem revK_all (M : List (Int × Int)) {k : Nat} (h : M.length ≤ 2 * k + 2) (h0 : 1 ≤ M.length) : revK M k = turnL M := by
  apply List.ext_getElem (by simp [revK, turnL, turnTill]; omega)
  intro t h1 h2
  have ht : t < M.length := by simpa [revK] using h1
  simp only [revK, List.getElem_map, List.getElem_range, revAt]
  cases t with
  | zero => rw [if_neg (by omega)]; rfl
  | succ t =>
    have e : (turnL M)[t + 1]'h2 = gt M (M.length - 1 - t) := by simp [turnL, turnTill]
    rw [e]
    by_cases hc : t + 1 ≤ k ∨ M.length - k ≤ t + 1
    · rw [if_pos ⟨by omega, hc⟩]; congr 1; omega
    · rw [if_neg (by omega)]; congr 1; omega
theorem gt_revK (M : List (Int × Int)) (k t : Nat) (ht : t < M.length) : gt (revK M k) t = revAt M k t := by
  rw [gt_at (by rw [revK_len]; exact ht)]
  simp [revK]
theorem revK_step (M : List (Int × Int)) (k : Nat) (h : 2 * k + 2 < M.length) :
    revK M (k + 1) = ((revK M k).set (1 + k) (gt (revK M k) (M.length - 1 - k))).set (M.length - 1 - k) (gt (revK M k) (1 + k)) := by
  rw [gt_revK _ _ _ (by omega), gt_revK _ _ _ (by omega)]
  apply List.ext_getElem (by simp [revK])
  intro t h1 h2
  have ht : t < M.length := by simpa [revK] using h1
  rw [List.getElem_set, List.getElem_set]
  simp only [revK, List.getElem_map, List.getElem_range, revAt]
  by_cases e1 : M.length - 1 - k = t
  · rw [if_pos e1, if_pos (by omega), if_neg (by omega)]; congr 1; omega
  · rw [if_neg e1]
    by_cases e2 : 1 + k = t
    · rw [if_pos e2, if_pos (by omega), if_neg (by omega)]; congr 1; omega
    · rw [if_neg e2]
      by_cases hc : 1 ≤ t ∧ (t ≤ k ∨ M.length - k ≤ t)
      · rw [if_pos (by omega), if_pos hc]
      · rw [if_neg (by omega), if_neg hc]
theorem flat_set1 (M : List (Int × Int)) : ∀ i (p : Int × Int), i < M.length → flat (M.set i p) = ((flat M).set (i * 2) (.int .i64 p.1)).set (i * 2 + 1) (.int .i64 p.2) := by
  induction M with
  | nil => intro i p h; simp at h
  | cons q M ih =>
    intro i p h
    have e : ∀ (r : Int × Int) (N : List (Int × Int)), flat (r :: N) = .int .i64 r.1 :: .int .i64 r.2 :: flat N := fun _ _ => rfl
    cases i with
    | zero => rw [List.set_cons_zero, e, e]; rfl
    | succ i =>
      rw [List.set_cons_succ, e, e, ih i p (by simpa using h)]
      have h1 : (i + 1) * 2 = i * 2 + 1 + 1 := by omega
      have h2 : (i + 1) * 2 + 1 = i * 2 + 1 + 1 + 1 := by omega
      rw [h2, h1]
      simp

theorem pts_own {w : World} {B g n cap : Nat} {L : List (Int × Int)} (h : w.ownsRow B 73 2 (.slice (some ⟨g, 0, none⟩) n cap) n (flat L)) (hn : L.length = n) : ∀ k, k < n → w.cell? ⟨g, k * 2, none⟩ = some (.int .i64 (gt L k).1) ∧ w.cell? ⟨g, k * 2 + 1, none⟩ = some (.int .i64 (gt L k).2) := by
  intro k hk
  have hk' : k < L.length := by omega
  rw [h.cellAt (k * 2) (by omega), h.cellAt (k * 2 + 1) (by omega), gt_at hk']
  exact flat_at L k hk'

theorem grown_drew {w w' : World} {r : Option Nat} (h : w.grownBy w' r) : w.grownBy w'.drew r := ⟨h.os, h.tape, h.output, h.size, h.block⟩
theorem own_cap {w : World} {B g n cap : Nat} {e : TypeId} {size : Nat} {xs : List Value} (h : w.ownsRow B e size (.slice (some ⟨g, 0, none⟩) n cap) n xs) : n ≤ cap := by
  rcases h.2 with ⟨h1, _⟩ | ⟨g', cap', cur, hv, hB, hg, h3⟩
  · cases h1
  · simp only [Value.slice.injEq] at hv
    obtain ⟨-, -, rfl⟩ := hv
    exact h3.1

end Go.Proofs.YtnkehfhedjdhaaaDoor

/-! Box -/
namespace Go.Proofs.YtnkehfhedjdhaaaDoor
open Go.RowKit

def minI (x y : Int) : Int := if y < x then y else x
def maxI (x y : Int) : Int := if x < y then y else x
theorem run_minI (w : World) (x y : Int) (ts : Array TypeId) (t : TypeId) : (Builtin.min_ ts t #[.int .i64 x, .int .i64 y]).run Tryd.prog w = .ok (.int .i64 (minI x y)) w := by
  simp [go_sem, minI]
theorem run_maxI (w : World) (x y : Int) (ts : Array TypeId) (t : TypeId) : (Builtin.max_ ts t #[.int .i64 x, .int .i64 y]).run Tryd.prog w = .ok (.int .i64 (maxI x y)) w := by
  simp [go_sem, maxI]
def boxStep (s : (Int × Int) × (Int × Int)) (p : Int × Int) : (Int × Int) × (Int × Int) := ((minI s.1.1 p.1, minI s.1.2 p.2), (maxI s.2.1 p.1, maxI s.2.2 p.2))
def boxTill (L : List (Int × Int)) : Nat → (Int × Int) × (Int × Int)
  | 0 => (gt L 0, gt L 0)
  | k + 1 => boxStep (boxTill L k) (gt L k)
def ptV (p : Int × Int) : Value := .agg #[.int .i64 p.1, .int .i64 p.2]
def boxR (L : List (Int × Int)) : Value := bif polyB L then .tuple #[ptV (boxTill L L.length).1, ptV (boxTill L L.length).2, .bool true] else .tuple #[ptV (0, 0), ptV (0, 0), .bool false]


end Go.Proofs.YtnkehfhedjdhaaaDoor

/-! Uni9 -/
namespace Go.Proofs.YtnkehfhedjdhaaaDoor
open Go.RowKit

/-! ### What a numbering is, over ints -/
def numV (M : List Int) : Bool := M.all (fun x => decide (0 ≤ x)) && numF 0 (M.map Int.toNat)
theorem numV_cast (C : List Nat) : numV (castL C) = numF 0 C := by
  unfold numV castL
  rw [List.map_map, show (Int.toNat ∘ fun k : Nat => (k : Int)) = id by funext k; simp, List.map_id]
  simp
theorem numV_some {M : List Int} (h : numV M = true) : ∃ C, M = castL C ∧ numF 0 C = true ∧ C.length = M.length := by
  unfold numV at h
  rw [Bool.and_eq_true] at h
  refine ⟨M.map Int.toNat, ?_, h.2, by simp⟩
  unfold castL
  rw [List.map_map]
  refine (List.map_id M).symm.trans (List.map_congr_left fun x hx => ?_)
  have := List.all_eq_true.1 h.1 x hx
  simp only [decide_eq_true_eq] at this
  simp only [Function.comp, id]
  omega
theorem castL_inj : ∀ {C D : List Nat}, castL C = castL D → C = D
  | [], [], _ => rfl
  | [], _ :: _, h => by simp [castL] at h
  | _ :: _, [], h => by simp [castL] at h
  | c :: C, d :: D, h => by
    simp only [castL, List.map_cons, List.cons.injEq] at h
    rw [Int.ofNat.inj h.1, castL_inj (C := C) (D := D) h.2]
theorem numV_step {M : List Int} {C : List Nat} {k : Nat} (hk : k < M.length) (h : M.take k = castL C) {x : Nat} (hx : M[k] = (x : Int)) : M.take (k + 1) = castL (C ++ [x]) := by
  rw [take_snoc hk, h, castL_snoc, hx]
theorem numV_fail {M : List Int} {C : List Nat} {k : Nat} (hk : k < M.length) (h : M.take k = castL C) (hbad : inB M[k] 0 (bgF 0 C : Nat) = false) : numV M = false := by
  cases e : numV M
  · rfl
  · obtain ⟨D, rfl, hD, hDl⟩ := numV_some e
    have hk2 : k < D.length := by omega
    have h2 : D.take k = C := by
      have : castL (D.take k) = castL C := by rw [← h]; simp [castL, List.map_take]
      exact castL_inj this
    have h3 := numF_at hD hk2
    rw [h2] at h3
    have : (castL D)[k] = ((D[k] : Nat) : Int) := by simp [castL]
    rw [this] at hbad
    have h4 : inB ((D[k] : Nat) : Int) 0 (bgF 0 C : Nat) = true := by
      unfold inB
      rw [Bool.and_eq_true, decide_eq_true_eq, decide_eq_true_eq]
      omega
    rw [h4] at hbad
    cases hbad
theorem inB_nat {x : Int} {b : Nat} (h : inB x 0 (b : Int) = true) : ∃ k : Nat, x = k ∧ k ≤ b := by
  unfold inB at h
  rw [Bool.and_eq_true, decide_eq_true_eq, decide_eq_true_eq] at h
  exact ⟨x.toNat, by omega, by omega⟩
theorem maxI_nat (a b : Nat) : maxI (a : Int) ((b : Int) + 1) = ((max a (b + 1) : Nat) : Int) := by
  unfold maxI
  split <;> omega

set_option maxRecDepth 100000 in
set_option maxHeartbeats 1000000 in
theorem isNum_any (A : Option Addr) (c : Nat) (M : List Int) (w : World) (hP : IntsA w A M) (hL : M.length ≤ 1048576) :
    Calls Tryd.prog 45 #[.slice A M.length c] w fun e w' => e = .returned (.bool (numV M)) ∧ w' = w := by
  have HP := Lib.hid hP; clear hP
  have hmax : ∀ (w : World) (x y : Int) (ts : Array TypeId) (t : TypeId), (Builtin.max_ ts t #[.int .i64 x, .int .i64 y]).run Tryd.prog w = .ok (.int .i64 (maxI x y)) w := run_maxI
  go_enter Tryd.func45, Tryd.ntmps45
  go_wp2_with fail
  go_loop [3, 8] (fun b i => ∃ (k bg : Nat) (C : List Nat), k ≤ M.length ∧ i = .int .i64 k ∧ b = .int .i64 bg ∧ bg ≤ k ∧ Hid (M.take k = castL C ∧ numF 0 C = true ∧ bg = bgF 0 C ∧ C.length = k)) (fun _ i => M.length - (intOf i).toNat)
  case atStart => exact ⟨0, 0, [], Nat.zero_le _, rfl, rfl, Nat.le_refl _, by simp [castL], rfl, rfl, rfl⟩
  case round =>
    obtain ⟨k, bg, C, hk, rfl, rfl, hbk, HC⟩ := hrel
    by_cases hlt : k < M.length
    · obtain ⟨g1, rfl, hc⟩ := HP.out k hlt
      obtain ⟨p, hp⟩ : ∃ p, p = M[k] := ⟨_, rfl⟩
      rw [← hp] at hc
      cases hin : inB p 0 (bg : Int)
      · have HF : Hid (numV M = false) := numV_fail hlt HC.out.1 (by rw [← HC.out.2.2.1, ← hp]; exact hin)
        have HI := Lib.hid (fun w => from_any p 0 bg w)
        rw [hin] at HI
        clear hin hp
        go_wp2_with fail
        refine (HI.out _).mono ?_
        rintro e w1 ⟨rfl, rfl⟩
        go_wp2_with fail
        go_ret
        rw [HF.out]
        exact ⟨rfl, rfl⟩
      · obtain ⟨x, rfl, hxb⟩ := inB_nat hin
        have HI := Lib.hid (fun w => from_any x 0 bg w)
        rw [hin] at HI
        have hm := maxI_nat bg x
        have HC2 : Hid (M.take (k + 1) = castL (C ++ [x]) ∧ numF 0 (C ++ [x]) = true ∧ max bg (x + 1) = bgF 0 (C ++ [x]) ∧ (C ++ [x]).length = k + 1) := by
          obtain ⟨q1, q2, q3, q4⟩ := HC.out
          refine ⟨numV_step hlt q1 hp.symm, ?_, ?_, by simp [q4]⟩
          · rw [numF_snoc, q2, Bool.true_and, decide_eq_true_eq]; omega
          · rw [bgF_snoc, q3]
        have hmb : max bg (x + 1) ≤ k + 1 := by omega
        generalize max bg (x + 1) = bg2 at *
        clear hin hp
        go_wp2_with fail
        refine (HI.out _).mono ?_
        rintro e w1 ⟨rfl, rfl⟩
        go_wp2_with fail
        go_round
        case rel => exact ⟨k + 1, bg2, C ++ [x], by omega, by go_num, by first | rfl | go_num | exact congrArg _ hm, hmb, HC2⟩
        case measure => simp [intOf]; omega
    · have HT : Hid (numV M = true) := by
        obtain ⟨q1, q2, q3, q4⟩ := HC.out
        rw [List.take_of_length_le (by omega)] at q1
        show _ = _
        rw [q1, numV_cast]; exact q2
      go_wp2_with fail
      go_ret
      rw [HT.out]
      exact ⟨rfl, rfl⟩

/-! ### The cells of a shape that can be cut -/
def okC (w h M : Int) : Bool := shapeB w h M && decide (1 ≤ pc 64 M.toNat ∧ pc 64 M.toNat ≤ 9)
def idxV (w h M : Int) : List Nat := idxL M.toNat (w * h).toNat
def cutCells (w h M : Int) : List Int := bif okC w h M then castL ((idxV w h M).map (2 ^ ·)) else []
theorem and_bit {m k : Nat} (h : m.testBit k = true) : m &&& 2 ^ k = 2 ^ k := Nat.eq_of_testBit_eq fun j => by
  rw [Nat.testBit_and, Nat.testBit_two_pow]
  by_cases e : k = j
  · subst e; simp [h]
  · simp [e]
theorem and_nobit {m k : Nat} (h : m.testBit k = false) : m &&& 2 ^ k = 0 := Nat.eq_of_testBit_eq fun j => by
  rw [Nat.testBit_and, Nat.testBit_two_pow]
  by_cases e : k = j
  · subst e; simp [h]
  · simp [e]
set_option maxRecDepth 100000 in
set_option maxHeartbeats 2000000 in
theorem cellsTo_any (w h M : Int) (W : World) : Calls Tryd.prog 36 #[.int .i64 w, .int .i64 h, .int .i64 M] W (ListsI W (cutCells w h M)) := by
  have HS := Lib.hid (fun W => impl_cells w h M W)
  have HF := Lib.hid (fun W => from_any (cellsV w h M) 1 9 W)
  cases hB : okC w h M
  · have hin : inB (cellsV w h M) 1 9 = false := by
      unfold okC at hB
      cases hS : shapeB w h M
      · rw [cellsV_no hS]; rfl
      · obtain ⟨a, b, m, rfl, rfl, rfl, _⟩ := mask_nat hS
        rw [hS, Bool.true_and, decide_eq_false_iff_not, Int.toNat_natCast] at hB
        rw [cellsV_yes hS]
        unfold inB
        rw [Bool.and_eq_false_iff, decide_eq_false_iff_not, decide_eq_false_iff_not]
        omega
    rw [hin] at HF
    have HC : Hid (cutCells w h M = []) := by
      show _ = _
      unfold cutCells; rw [hB]; rfl
    rw [HC.out]
    clear hin hB
    go_enter Tryd.func36, Tryd.ntmps36
    go_wp2_with fail
    refine (HS.out _).mono ?_
    rintro e w1 ⟨rfl, rfl⟩
    go_wp2_with fail
    refine (HF.out _).mono ?_
    rintro e w1 ⟨rfl, rfl⟩
    go_wp2_with fail
    go_ret
    exact ⟨_, rfl, World.ownsRow_nil _ _ _ _, Below.refl _ _⟩
  · obtain ⟨i0, hi0, hz0, hz1, hz2⟩ := info_parts infoI
    have HC : Hid (cutCells w h M = castL ((idxV w h M).map (2 ^ ·))) := by
      show _ = _
      unfold cutCells; rw [hB]; rfl
    rw [HC.out]
    unfold okC at hB
    rw [Bool.and_eq_true, decide_eq_true_eq] at hB
    obtain ⟨hS, hp1, hp9⟩ := hB
    obtain ⟨a, b, m, rfl, rfl, rfl, ha1, ha2, hb1, hb2, hm, hab⟩ := mask_nat hS
    have hin : inB (cellsV (a : Int) b m) 1 9 = true := by
      rw [cellsV_yes hS]
      rw [Int.toNat_natCast] at hp1 hp9
      unfold inB
      rw [Bool.and_eq_true, decide_eq_true_eq, decide_eq_true_eq]
      omega
    rw [hin] at HF
    obtain ⟨n, hn⟩ : ∃ n, n = a * b := ⟨_, rfl⟩
    have hN : ((a : Int) * (b : Int) = (n : Int)) := by rw [hn, Int.natCast_mul]
    have HIX : Hid (idxV (a : Int) b m = idxL m n) := by
      show _ = _
      unfold idxV
      rw [hN]; rfl
    rw [HIX.out]
    rw [← hn] at hab hm
    have hm36 : m < 2 ^ 36 := lt62 hm hab
    clear hS hp1 hp9 hm hn hin
    go_enter Tryd.func36, Tryd.ntmps36
    go_wp2_with fail
    refine (HS.out _).mono ?_
    rintro e w1 ⟨rfl, rfl⟩
    go_wp2_with fail
    refine (HF.out _).mono ?_
    rintro e w1 ⟨rfl, rfl⟩
    go_wp2_with fail
    go_loopw [7, 8, 9, 19] (fun o _ _ i wr => ∃ (k : Nat) (K : List Nat), k ≤ n ∧ i = .int .i64 k ∧ K.length ≤ k ∧ Hid (K = (idxL m k).map (2 ^ ·)) ∧ wr.ownsRow w1.heap.size 3 1 o (castL K).length (ints (castL K)) ∧ Below w1.heap.size w1 wr) (fun _ _ _ i _ => n - (intOf i).toNat)
    case atStart => exact ⟨0, [], Nat.zero_le _, rfl, Nat.le_refl _, rfl, World.ownsRow_nil _ _ _ _, Below.refl _ _⟩
    case round =>
      obtain ⟨wo, rfl⟩ : ∃ wo : World, wo = wr := ⟨_, rfl⟩
      obtain ⟨k, K, hk, rfl, hKl, HK, own, hb⟩ := hrel
      by_cases hlt : k < n
      · have hlt36 : k < 36 := by omega
        obtain ⟨p, hp, hp2, hp3⟩ := pow_nat k hlt36
        have hand := and_nat (a := m) (b := p) (by omega) (by omega)
        cases hT : m.testBit k
        · rw [hp2, and_nobit hT, ← hp2] at hand
          have HK2 : Hid (K = (idxL m (k + 1)).map (2 ^ ·)) := by
            show _ = _
            rw [idxL_no hT]; exact HK.out
          have R := Lib.hid (And.intro own hb)
          clear hT hp2 own hb
          go_wp2_with fail
          go_roundw
          case rel => exact ⟨k + 1, K, by omega, by go_num, by omega, HK2, R.out.1, R.out.2⟩
          case measure => simp [intOf]; omega
        · rw [hp2, and_bit hT, ← hp2] at hand
          have hp0 : 0 < p := by rw [hp2]; exact Nat.two_pow_pos k
          have HK2 : Hid (K ++ [p] = (idxL m (k + 1)).map (2 ^ ·)) := by
            show _ = _
            rw [idxL_yes hT, List.map_append, ← HK.out, hp2]; rfl
          have hs6 := hb.size
          have hKL : (castL K).length ≤ 36 := by rw [castL_len]; omega
          clear hT hp2
          go_wp2_with (at_builtin; refine wpList_append_own _ rfl _ _ 27 rfl w1.heap.size 3 i0 (.int .i64 0) 1 8 Tryd.underlying27 hi0 hz0 hz1 hz2 rfl (by decide) _ _ _ rfl (own.alloc _) ⟨wo.heap.size, 0, none⟩ 1 1 [.int .i64 (p : Int)] rfl rfl ?d1 ?d2 ?d3 ?d4 ?d5 ?_)
          case d1 => exact World.news_of_block (cs := #[.int .i64 (p : Int)]) (t := 3) (fr := (0, 0)) (heap_alloc_new wo _)
          case d2 => simp [Value.oneCell']
          case d3 => unfold maxLen; omega
          case d4 => omega
          case d5 => simp; omega
          intro v' w7 own7 hgrow _
          have hrw := fun k hk => (own.lt k hk).1
          have R : Hid (w7.ownsRow w1.heap.size 3 1 v' (castL (K ++ [p])).length (ints (castL (K ++ [p]))) ∧ Below w1.heap.size w1 w7) :=
            ⟨by rw [castL_snoc, ints_snoc, List.length_append]; exact own7, (hb.alloc hs6 _).grown hgrow (by simp; omega) hrw⟩
          clear own own7 hgrow hb hrw
          go_wp2_with fail
          go_roundw
          case rel => exact ⟨k + 1, K ++ [p], by omega, by go_num, by simp; omega, HK2, R.out.1, R.out.2⟩
          case measure => simp [intOf]; omega
      · obtain rfl : k = n := by omega
        have R := Lib.hid (And.intro own hb)
        clear own hb
        go_wp2_with fail
        go_ret
        rw [← HK.out]
        exact ⟨_, rfl, R.out.1, R.out.2⟩
end Go.Proofs.YtnkehfhedjdhaaaDoor

/-! Law4 -/
namespace Go.Proofs.YtnkehfhedjdhaaaDoor
open Go.RowKit
end Go.Proofs.YtnkehfhedjdhaaaDoor

/-! Whole9 -/
namespace Go.Proofs.YtnkehfhedjdhaaaDoor
open Go.RowKit

/-- A whole number of a list at a place. -/
theorem castL_get {K : List Nat} {k : Nat} (h : k < (castL K).length) : (castL K)[k] = ((K[k]'(by rwa [castL_len] at h) : Nat) : Int) := by simp [castL]
theorem castL_set (K : List Nat) (k v : Nat) : (castL K).set k (v : Int) = castL (K.set k v) := by simp [castL, List.map_set]
theorem ints_put (M : List Int) (k : Nat) (v : Int) : (ints M).set k (.int .i64 v) = ints (M.set k v) := by simp [ints, List.map_set]
theorem uniF_lt {I C : List Nat} (h : I.length = C.length) (hn : numF 0 C = true) {n : Nat} (hI : ∀ i ∈ I, i < n) {p : Nat} (hp : p ∈ uniF [] I C) : p < 2 ^ n :=
  Nat.lt_pow_two_of_testBit p fun j hj => by
    cases e : p.testBit j
    · rfl
    · have := hI j (uniF_sub h hn hp j e); omega
theorem uniF_lt36 {I C : List Nat} (h : I.length = C.length) (hn : numF 0 C = true) (hI : ∀ i ∈ I, i < 36) (t k : Nat) : (uniF [] (I.take t) (C.take t)).getD k 0 < 2 ^ 36 := by
  rcases Nat.lt_or_ge k (uniF [] (I.take t) (C.take t)).length with h1 | h1
  · rw [List.getD_eq_getElem?_getD, List.getElem?_eq_getElem h1]
    exact uniF_lt (by simp [h]) (numF_take hn t) (fun i hi => hI i (List.mem_of_mem_take hi)) (List.getElem_mem h1)
  · rw [List.getD_eq_getElem?_getD, List.getElem?_eq_none h1]; decide
theorem own_castL {w : World} {B : Nat} {e : TypeId} {v : Value} {n : Nat} {P : List Nat} (h : w.ownsRow B e 1 v n (ints (castL P))) : ∃ A c, v = .slice A n c := by
  have h1 := h.1
  rw [ints_len, castL_len] at h1
  obtain ⟨_, A, c, rfl, _⟩ := own_ints h
  exact ⟨A, c, by rw [castL_len]; congr 1; omega⟩
theorem own_some {w : World} {B : Nat} {e : TypeId} {v : Value} {n : Nat} {xs : List Value} (h : w.ownsRow B e 1 v n xs) (hn : 0 < n) : ∃ g c, v = .slice (some ⟨g, 0, none⟩) n c := by
  obtain ⟨k, rfl⟩ : ∃ k, n = k + 1 := ⟨n - 1, by omega⟩
  exact ownsRow_succ h
theorem row_cell {w : World} {B g n cap : Nat} {e : TypeId} {P : List Nat} (h : w.ownsRow B e 1 (.slice (some ⟨g, 0, none⟩) n cap) n (ints (castL P))) {x : Nat} (hx : x < P.length) : w.cell? ⟨g, x, none⟩ = some (.int .i64 ((P.getD x 0 : Nat) : Int)) := by
  have hl := h.1
  rw [ints_len, castL_len] at hl
  rw [h.cellAt x (by omega)]
  simp [ints, castL, hx]
theorem row_put {w : World} {B g n cap : Nat} {e : TypeId} {P : List Nat} (h : w.ownsRow B e 1 (.slice (some ⟨g, 0, none⟩) n cap) n (ints (castL P))) (x v : Nat) : (w.setCell ⟨g, x, none⟩ (.int .i64 (v : Int))).ownsRow B e 1 (.slice (some ⟨g, 0, none⟩) n cap) n (ints (castL (P.set x v))) := by
  have := (h.stored x (.int .i64 (v : Int))).1
  rw [ints_put, castL_set] at this
  exact this
set_option maxRecDepth 100000 in
set_option maxHeartbeats 4000000 in
theorem unite_any (A1 A2 : Option Addr) (c1 c2 : Nat) (I C : List Nat) (W : World) (h1 : IntsA W A1 (castL (I.map (2 ^ ·)))) (h2 : IntsA W A2 (castL C)) (hl : I.length = C.length) (h9 : C.length ≤ 9) (hI : ∀ i ∈ I, i < 36) (hn : numF 0 C = true) :
    Calls Tryd.prog 35 #[.slice A1 C.length c1, .slice A2 C.length c2] W (ListsI W (castL (uniF [] I C))) := by
  obtain ⟨i0, hi0, hz0, hz1, hz2⟩ := info_parts infoI
  have H1 := Lib.hid h1; have H2 := Lib.hid h2
  have HN := Lib.hid hn
  have HI := Lib.hid hI
  have HL := Lib.hid hl
  clear h1 h2 hn hI hl
  go_enter Tryd.func35, Tryd.ntmps35
  go_wp2_with fail
  go_loopw [5, 6, 7, 10] (fun o _ _ i wr => ∃ (k : Nat) (P : List Nat), k ≤ C.length ∧ i = .int .i64 k ∧ P.length ≤ k ∧ Hid (P = uniF [] (I.take k) (C.take k)) ∧ wr.ownsRow W.heap.size 3 1 o P.length (ints (castL P)) ∧ Below W.heap.size W wr) (fun _ _ _ i _ => C.length - (intOf i).toNat)
  case atStart => exact ⟨0, [], Nat.zero_le _, rfl, Nat.le_refl _, rfl, World.ownsRow_nil _ _ _ _, Below.refl _ _⟩
  case round =>
    obtain ⟨wo, rfl⟩ : ∃ wo : World, wo = wr := ⟨_, rfl⟩
    obtain ⟨k, P, hk, rfl, hPk, HP, own, hb⟩ := hrel
    by_cases hlt : k < C.length
    · have hlI : k < I.length := by have := HL.out; omega
      obtain ⟨g2, rfl, e2⟩ := intsA_on H2.out hb k (by rw [castL_len]; exact hlt)
      obtain ⟨g1, rfl, e1⟩ := intsA_on H1.out hb k (by rw [castL_len, List.length_map]; exact hlI)
      rw [castL_get] at e1 e2
      simp only [List.getElem_map] at e1
      have hi36 : I[k] < 36 := HI.out _ (List.getElem_mem hlI)
      obtain ⟨p, hp⟩ : ∃ p, p = 2 ^ I[k] := ⟨_, rfl⟩
      have hp3 : p ≤ 68719476736 := by rw [hp]; exact two_le36 (by omega)
      rw [← hp] at e1
      have HQ1 : Hid (∀ w7, Below W.heap.size W w7 → w7.cell? ⟨g1, k, none⟩ = some (.int .i64 (p : Int))) := fun w7 hb7 => by
        obtain ⟨_, q, e⟩ := intsA_on H1.out hb7 k (by rw [castL_len, List.length_map]; exact hlI)
        cases q
        rw [castL_get] at e
        simp only [List.getElem_map, ← hp] at e
        exact e
      obtain ⟨x, hx⟩ : ∃ x, x = C[k] := ⟨_, rfl⟩
      rw [← hx] at e2
      have hxP : x ≤ P.length := by
        have := numF_at HN.out hlt
        rw [← uniF_take_len HL.out HN.out k, ← HP.out, ← hx] at this
        exact this
      have hst : uniF [] (I.take (k + 1)) (C.take (k + 1)) = putP P x I[k] := by rw [uniF_step hlI hlt, ← HP.out, hx]
      have hq := uniF_lt36 HL.out HN.out HI.out k x
      rw [← HP.out] at hq
      have hs6 := hb.size
      obtain ⟨n, hn⟩ : ∃ n, n = P.length := ⟨_, rfl⟩
      rw [← hn] at own hPk hxP
      have hxl' := Lib.hid hn
      obtain ⟨A5, c5, rfl⟩ := own_castL own
      have hPL : n ≤ 9 := by omega
      by_cases hc : x = n
      · have HS : Hid (P ++ [p] = uniF [] (I.take (k + 1)) (C.take (k + 1))) := by
          show _ = _
          rw [hst]; unfold putP; rw [if_pos (hc.trans hn), hp]
        have hor := or_nat (a := 0) (b := p) (by omega) (by omega)
        rw [Nat.zero_or, show ((0 : Nat) : Int) = 0 from rfl] at hor
        have k1 := e1; have k2 := e2
        subst hc
        clear hst hq hp hx hxP hn
        go_wp2_with (at_builtin; refine wpList_append_own _ rfl _ _ 27 rfl W.heap.size 3 i0 (.int .i64 0) 1 8 Tryd.underlying27 hi0 hz0 hz1 hz2 rfl (by decide) _ _ _ rfl (own.alloc _) ⟨wo.heap.size, 0, none⟩ 1 1 [.int .i64 0] rfl rfl (World.news_of_block (cs := #[.int .i64 0]) (t := 3) (fr := (0, 0)) (heap_alloc_new wo _)) ?d2 ?d3 ?d4 ?d5 ?_)
        case d2 => simp [Value.oneCell']
        case d3 => unfold maxLen; omega
        case d4 => omega
        case d5 => first | omega | (simp; omega)
        intro v' w7 own7 hgrow _
        have hrw := fun k hk => (own.lt k hk).1
        have hb7 := (hb.alloc hs6 (.cells #[.int .i64 0] 3)).grown hgrow (by simp; omega) hrw
        obtain ⟨g7, cap7, rfl⟩ := ownsRow_succ own7
        have e1' := HQ1.out _ hb7
        have hs7 := hb7.size
        have own8 : w7.ownsRow W.heap.size 3 1 (.slice (some ⟨g7, 0, none⟩) (x + 1) cap7) (x + 1) (ints (castL (P ++ [0]))) := by rw [castL_snoc, ints_snoc]; exact own7
        have hc7 := row_cell own8 (x := x) (by rw [List.length_append, ← hxl'.out]; simp)
        rw [List.getD_eq_getElem?_getD, List.getElem?_append_right (by rw [hxl'.out]; exact Nat.le_refl _), ← hxl'.out, Nat.sub_self] at hc7
        simp only [List.getElem?_cons_zero, Option.getD_some] at hc7
        have hf7 := own8.frozenAt x
        have hput := row_put own8 x p
        have hset : (P ++ [0]).set x p = P ++ [p] := by rw [hxl'.out]; simp
        rw [hset] at hput
        have hb8 := hb7.setCell (p := ⟨g7, x, none⟩) (own7.lt g7 rfl).1 (.int .i64 (p : Int))
        have R := Lib.hid (And.intro hput hb8)
        clear own own7 own8 hput hb8 hb7 hb hgrow hrw hset HP
        go_wp2_with fail
        go_region
        go_wp2_with fail
        go_roundw
        case rel => exact ⟨k + 1, P ++ [p], by omega, by go_num, by rw [List.length_append, ← hxl'.out]; simp only [List.length_singleton]; omega, HS, by rw [List.length_append, ← hxl'.out]; exact own_drew R.out.1, R.out.2.drew⟩
        case measure => simp [intOf]; omega
      · have hxn : x < n := by omega
        have HS : Hid (P.set x (P.getD x 0 ||| p) = uniF [] (I.take (k + 1)) (C.take (k + 1))) := by
          show _ = _
          rw [hst]; unfold putP; rw [if_neg (by omega), hp]
        obtain ⟨q, hq'⟩ : ∃ q, q = P.getD x 0 := ⟨_, rfl⟩
        rw [← hq'] at hq HS
        have hor := or_nat (a := q) (b := p) (by omega) (by omega)
        have hceq : ((x : Int) == (n : Int)) = false := by rw [beq_eq_false_iff_ne]; omega
        obtain ⟨g7, cap7, e7⟩ := own_some own (by omega)
        cases e7
        have hc7 := row_cell own (x := x) (by omega)
        rw [← hq'] at hc7
        have hf7 := own.frozenAt x
        have hput := row_put own x (q ||| p)
        have hb8 := hb.setCell (p := ⟨g7, x, none⟩) (own.lt g7 rfl).1 (.int .i64 ((q ||| p : Nat) : Int))
        have R := Lib.hid (And.intro hput hb8)
        clear hst hq hp hx hxP hc hq' own hput hb8 hb HP hn
        generalize q ||| p = r at *
        go_wp2_with fail
        go_region
        go_wp2_with fail
        go_roundw
        case rel => exact ⟨k + 1, P.set x r, by omega, by go_num, by rw [List.length_set, ← hxl'.out]; omega, HS, by rw [List.length_set, ← hxl'.out]; exact own_drew R.out.1, R.out.2.drew⟩
        case measure => simp [intOf]; omega
    · have R := Lib.hid (And.intro own hb)
      obtain rfl : k = C.length := by omega
      have HQ : Hid (P = uniF [] I C) := by
        show _ = _
        rw [HP.out, List.take_of_length_le (Nat.le_refl _), List.take_of_length_le (by have := HL.out; omega)]
      clear own hb
      go_wp2_with fail
      go_ret
      rw [← HQ.out]
      exact ⟨_, rfl, by rw [castL_len]; exact R.out.1, R.out.2⟩

/-! ### Whole pieces -/
def AllP (w h : Int) (L : List Int) : Prop := ∀ p ∈ L, OneP w h p
set_option maxRecDepth 100000 in
theorem notWhole_any (w h x : Int) (b1 b2 : Nat) (W : World) (h1 : W.cell? ⟨b1, 0, none⟩ = some (.int .i64 w)) (h2 : W.cell? ⟨b2, 0, none⟩ = some (.int .i64 h)) :
    Calls Tryd.prog 67 #[.int .i64 x, .pointer (some ⟨b1, 0, none⟩), .pointer (some ⟨b2, 0, none⟩)] W fun e w' => ∃ v : Bool, e = .returned (.bool v) ∧ (v = false ↔ OneP w h x) ∧ Below W.heap.size W w' := by
  have HW := Lib.hid (fun W => impl_whole w h x W)
  go_enter Tryd.func67, Tryd.ntmps67
  go_wp2_with fail
  refine (HW.out _).mono ?_
  rintro e w1 ⟨v, rfl, hv, hb⟩
  have R : Hid (∀ u : Bool, u = !v → ∃ v : Bool, Ending.returned (.bool u) = .returned (.bool v) ∧ (v = false ↔ OneP w h x) ∧ Below W.heap.size W w1) := fun u hu => ⟨u, rfl, by rw [hu, ← hv]; cases v <;> simp, hb⟩
  clear hv hb
  go_wp2_with fail
  go_ret
  exact R.out _ (by first | rfl | simp)
set_option maxRecDepth 100000 in
set_option maxHeartbeats 1000000 in
theorem findNot_any (w h : Int) (b1 b2 : Nat) (A : Option Addr) (c : Nat) (M : List Int) (W : World) (hP : IntsA W A M) (hL : M.length ≤ 1048576) (h1 : W.cell? ⟨b1, 0, none⟩ = some (.int .i64 w)) (h2 : W.cell? ⟨b2, 0, none⟩ = some (.int .i64 h)) :
    Calls Tryd.prog 43 #[.slice A M.length c, .func (.func 67) #[] #[.pointer (some ⟨b1, 0, none⟩), .pointer (some ⟨b2, 0, none⟩)]] W fun e w' => ∃ z : Int, e = .returned (.int .i64 z) ∧ (z < 0 ↔ AllP w h M) ∧ Below W.heap.size W w' := by
  have HP := Lib.hid hP
  have H1 := Lib.hid h1
  have H2 := Lib.hid h2
  clear hP h1 h2
  go_enter Tryd.func43, Tryd.ntmps43
  go_wp2_with fail
  go_loopw [5, 8] (fun _ i wr => ∃ j : Nat, j ≤ M.length ∧ i = .int .i64 j ∧ Hid (AllP w h (M.take j)) ∧ Below W.heap.size W wr) (fun _ i _ => M.length - (intOf i).toNat)
  case atStart => exact ⟨0, Nat.zero_le _, rfl, fun p hp => by simp at hp, Below.refl _ _⟩
  case round =>
    obtain ⟨k, hk, rfl, HA, hb⟩ := hrel
    by_cases hlt : k < M.length
    · obtain ⟨g, rfl, hc⟩ := intsA_on HP.out hb k hlt
      obtain ⟨x, hx⟩ : ∃ x, x = M[k] := ⟨_, rfl⟩
      rw [← hx] at hc
      have HC := Lib.hid (notWhole_any w h x b1 b2 wr (cell_on hb rfl H1.out) (cell_on hb rfl H2.out))
      have HX := Lib.hid hx
      clear hx
      go_wp2_with fail
      refine HC.out.mono ?_
      rintro e w1 ⟨v, rfl, hv, hb1⟩
      have hb2 := below_on hb hb1
      cases v
      · have HA2 : Hid (AllP w h (M.take (k + 1))) := by
          show AllP _ _ _
          rw [take_snoc hlt]
          intro p hp
          rcases List.mem_append.1 hp with h1 | h1
          · exact HA.out p h1
          · simp only [List.mem_singleton] at h1
            rw [h1, ← HX.out]; exact hv.1 rfl
        clear hv hb hb1
        go_wp2_with fail
        go_roundw
        case rel => exact ⟨k + 1, by omega, by go_num, HA2, hb2⟩
        case measure => simp [intOf]; omega
      · have R : Hid (((k : Int) < 0 ↔ AllP w h M) ∧ Below W.heap.size W w1) := by
          refine ⟨⟨fun h => absurd h (by omega), fun h => ?_⟩, hb2⟩
          have := h x (by rw [HX.out]; exact List.getElem_mem hlt)
          exact absurd (hv.2 this) (by simp)
        clear hv hb hb1 hb2
        go_wp2_with fail
        go_ret
        exact ⟨_, rfl, R.out⟩
    · have R : Hid (((-1 : Int) < 0 ↔ AllP w h M) ∧ Below W.heap.size W wr) := by
        refine ⟨⟨fun _ => ?_, fun _ => by omega⟩, hb⟩
        have := HA.out
        rw [List.take_of_length_le (by omega)] at this
        exact this
      clear hb
      go_wp2_with fail
      go_ret
      exact ⟨_, rfl, R.out⟩
set_option maxRecDepth 100000 in
theorem areWhole_any (w h : Int) (A : Option Addr) (c : Nat) (M : List Int) (W : World) (hP : IntsA W A M) (hL : M.length ≤ 1048576) :
    Calls Tryd.prog 38 #[.int .i64 w, .int .i64 h, .slice A M.length c] W fun e w' => ∃ v : Bool, e = .returned (.bool v) ∧ (v = true ↔ AllP w h M) ∧ Below W.heap.size W w' := by
  have bx1 := (Boxed.new W 3 (.int .i64 w)).alloc (.cells #[.int .i64 h] 3)
  have bx2 := Boxed.new (W.alloc (.cells #[.int .i64 w] 3)) 3 (.int .i64 h)
  simp only [World.size_alloc] at bx2
  have hb0 := below2 W (.cells #[.int .i64 w] 3) (.cells #[.int .i64 h] 3)
  have HC := Lib.hid (fun b1 b2 A c W hP => findNot_any w h b1 b2 A c M W hP hL)
  have HP := Lib.hid (intsA_on hP hb0)
  clear hP
  have HCF : Hid (∀ f W, Calls Tryd.prog 43 #[.slice A M.length c, f] W (fun e w' => ∃ z : Int, e = .returned (.int .i64 z) ∧ (z < 0 ↔ AllP w h M) ∧ Below W.heap.size W w') → Calls Tryd.prog 66 #[.slice A M.length c, f] W fun e w' => ∃ v : Bool, e = .returned (.bool v) ∧ (v = false ↔ AllP w h M) ∧ Below W.heap.size W w') := by
    intro f W HI
    have HI := Lib.hid HI
    clear HP HC bx1 bx2 hb0
    go_enter Tryd.func66, Tryd.ntmps66
    go_wp2_with fail
    refine HI.out.mono ?_
    rintro e w1 ⟨z, rfl, hz, hb⟩
    have R : Hid (∀ u : Bool, u = decide (0 ≤ z) → ∃ v : Bool, Ending.returned (.bool u) = .returned (.bool v) ∧ (v = false ↔ AllP w h M) ∧ Below W.heap.size W w1) := fun u hu => ⟨u, rfl, by rw [hu, decide_eq_false_iff_not, ← hz]; omega, hb⟩
    clear hz hb
    go_wp2_with fail
    go_ret
    exact R.out _ (by first | rfl | simp)
  go_enter Tryd.func38, Tryd.ntmps38
  go_wp2_with fail
  refine (HCF.out _ _ (HC.out _ _ _ _ _ HP.out bx1.cell bx2.cell)).mono ?_
  rintro e w1 ⟨v, rfl, hv, hb⟩
  have R : Hid (∀ u : Bool, u = !v → ∃ v : Bool, Ending.returned (.bool u) = .returned (.bool v) ∧ (v = true ↔ AllP w h M) ∧ Below W.heap.size W w1) := fun u hu => ⟨u, rfl, by rw [hu, ← hv]; cases v <;> simp, hb0.trans (hb.mono hb0.size)⟩
  clear hv hb hb0 bx1 bx2 HP
  go_wp2_with fail
  go_ret
  exact R.out _ (by first | rfl | simp)
end Go.Proofs.YtnkehfhedjdhaaaDoor

/-! CutOk9 -/
namespace Go.Proofs.YtnkehfhedjdhaaaDoor
open Go.RowKit

def pieV (w h M : Int) (cut : List Int) : List Int := castL (uniF [] (idxV w h M) (cut.map Int.toNat))
def CutP (w h M : Int) (cut : List Int) : Prop := okC w h M = true ∧ cut.length = (idxV w h M).length ∧ numV cut = true ∧ AllP w h (pieV w h M cut)
def CutQ (w h M : Int) (cut : List Int) (W : World) (e : Ending) (w' : World) : Prop := ∃ v : Bool, e = .returned (.bool v) ∧ (v = true ↔ CutP w h M cut) ∧ Below W.heap.size W w'
theorem toNat_castL (C : List Nat) : (castL C).map Int.toNat = C := by
  unfold castL
  rw [List.map_map, show (Int.toNat ∘ fun k : Nat => (k : Int)) = id by funext k; simp, List.map_id]
theorem pieV_cast (w h M : Int) (C : List Nat) : pieV w h M (castL C) = castL (uniF [] (idxV w h M) C) := by unfold pieV; rw [toNat_castL]
theorem okC_nat {w h M : Int} (hB : okC w h M = true) : ∃ a b m n : Nat, w = a ∧ h = b ∧ M = m ∧ n = a * b ∧ 1 ≤ a ∧ a ≤ 6 ∧ 1 ≤ b ∧ b ≤ 6 ∧ m < 2 ^ n ∧ n ≤ 36 ∧ idxV w h M = idxL m n ∧ pc 64 m = (idxL m n).length ∧ 1 ≤ (idxL m n).length ∧ (idxL m n).length ≤ 9 ∧ shapeB w h M = true := by
  unfold okC at hB
  rw [Bool.and_eq_true, decide_eq_true_eq] at hB
  obtain ⟨hS, h1, h2⟩ := hB
  obtain ⟨a, b, m, rfl, rfl, rfl, ha1, ha2, hb1, hb2, hm, hab⟩ := mask_nat hS
  rw [Int.toNat_natCast] at h1 h2
  have e := pc_idx hm (by omega : a * b ≤ 64)
  refine ⟨a, b, m, a * b, rfl, rfl, rfl, rfl, ha1, ha2, hb1, hb2, hm, hab, ?_, e, by omega, by omega, hS⟩
  unfold idxV
  rw [← Int.natCast_mul]; rfl
theorem idx36 {m n : Nat} (hn : n ≤ 36) : ∀ i ∈ idxL m n, i < 36 := fun i hi => by have := (mem_idxL.1 hi).1; omega
theorem uni_ge {I C : List Nat} (h : I.length = C.length) (hn : numF 0 C = true) : (uniF [] I C).length ≤ C.length := by
  rw [uniF_len I C [] h hn]
  have := bgF_le C 0 hn
  simp only [List.length_nil]
  omega
theorem castL_intsA {w : World} {B : Nat} {e : TypeId} {v : Value} {n : Nat} {L : List Int} (h : w.ownsRow B e 1 v n (ints L)) : ∃ A c, v = .slice A L.length c ∧ IntsA w A L := (own_ints h).2

set_option maxRecDepth 100000 in
set_option maxHeartbeats 2000000 in
theorem impl_cutOk (w h M : Int) (A : Option Addr) (c : Nat) (cut : List Int) (W : World) (hA : IntsA W A cut) (hL : cut.length ≤ 1048576) :
    Calls Tryd.prog 13 #[.int .i64 w, .int .i64 h, .int .i64 M, .slice A cut.length c] W (CutQ w h M cut W) := by
  have HC := Lib.hid (fun W => cellsTo_any w h M W)
  have HA := Lib.hid hA
  clear hA
  cases hB : okC w h M
  · have hcc : cutCells w h M = [] := by unfold cutCells; rw [hB]; rfl
    rw [hcc] at HC
    have R : Hid (∀ w1, Below W.heap.size W w1 → CutQ w h M cut W (.returned (.bool false)) w1) := fun w1 hb => ⟨false, rfl, ⟨fun h => (by cases h), fun h => (by have := h.1; rw [hB] at this; cases this)⟩, hb⟩
    clear hB hcc
    go_enter Tryd.func13, Tryd.ntmps13
    go_wp2_with fail
    refine (HC.out _).mono ?_
    rintro e w1 ⟨v, rfl, own, hb⟩
    obtain ⟨A1, c1, rfl, _⟩ := castL_intsA own
    have RR := Lib.hid (R.out _ hb)
    clear own hb
    go_wp2_with fail
    go_ret
    exact RR.out
  · obtain ⟨a, b, m, n, rfl, rfl, rfl, hab, ha1, ha2, hb1, hb2, hm, hn36, hix, hpc, hl1, hl9, hS⟩ := okC_nat hB
    have hcc : cutCells (a : Int) b m = castL ((idxL m n).map (2 ^ ·)) := by unfold cutCells; rw [hB, hix]; rfl
    rw [hcc] at HC
    obtain ⟨k, hk⟩ : ∃ k, k = (idxL m n).length := ⟨_, rfl⟩
    have hkk : (castL ((idxL m n).map (2 ^ ·))).length = k := by rw [castL_len, List.length_map, hk]
    have hk1 : 1 ≤ k := by omega
    have hk9 : k ≤ 9 := by omega
    by_cases hl : k = cut.length
    · subst hl
      have HN := Lib.hid (fun W hA => isNum_any A c cut W hA hL)
      cases hV : numV cut
      · rw [hV] at HN
        have R : Hid (∀ w1, Below W.heap.size W w1 → CutQ a b m cut W (.returned (.bool false)) w1) := fun w1 hb => ⟨false, rfl, ⟨fun h => (by cases h), fun h => (by have := h.2.2.1; rw [hV] at this; cases this)⟩, hb⟩
        clear hB hcc hix hpc hV hm hab hS hk hl1 hl9 hL
        go_enter Tryd.func13, Tryd.ntmps13
        go_wp2_with fail
        refine (HC.out _).mono ?_
        rintro e w1 ⟨v, rfl, own, hb⟩
        rw [hkk] at own
        obtain ⟨A1, c1, rfl⟩ := own_castL own
        have H1 := Lib.hid (HN.out w1 (intsA_on HA.out hb))
        have RR := Lib.hid (R.out _ hb)
        clear own hb hkk
        go_wp2_with fail
        refine H1.out.mono ?_
        rintro e w2 ⟨rfl, rfl⟩
        go_wp2_with fail
        go_ret
        exact RR.out
      · rw [hV] at HN
        obtain ⟨C, rfl, hC, hCl⟩ := numV_some hV
        have HU := Lib.hid (fun A1 c1 W h1 h2 => unite_any A1 A c1 c (idxL m n) C W h1 h2 (by rw [castL_len] at hk; omega) (by rw [castL_len] at hk; omega) (idx36 hn36) hC)
        have HW := Lib.hid (fun A c W hP => areWhole_any (a : Int) b A c (castL (uniF [] (idxL m n) C)) W hP (by rw [castL_len]; rw [castL_len] at hk; have := uni_ge (I := idxL m n) (C := C) (by omega) hC; omega))
        have R : Hid (∀ (v : Bool) w1, Below W.heap.size W w1 → (v = true ↔ AllP a b (castL (uniF [] (idxL m n) C))) → CutQ a b m (castL C) W (.returned (.bool v)) w1) := fun v w1 hb hv => ⟨v, rfl, by
          rw [hv]
          unfold CutP
          rw [pieV_cast, hix, castL_len]
          exact ⟨fun h => ⟨hB, by rw [castL_len] at hk; omega, hV, h⟩, fun h => h.2.2.2⟩, hb⟩
        rw [castL_len] at hk1 hk9 hk
        rw [castL_len (C)] at hkk
        simp only [castL_len] at HN ⊢
        clear hB hcc hix hpc hV hm hab hS hC hCl hk hl1 hl9 hL
        go_enter Tryd.func13, Tryd.ntmps13
        go_wp2_with fail
        refine (HC.out _).mono ?_
        rintro e w1 ⟨v, rfl, own, hb⟩
        rw [hkk] at own
        obtain ⟨A1, c1, rfl⟩ := own_castL own
        have H1 := Lib.hid (HN.out w1 (intsA_on HA.out hb))
        have H2 := Lib.hid (HU.out A1 c1 w1 (intsA_of own) (intsA_on HA.out hb))
        clear own hkk
        go_wp2_with fail
        refine H1.out.mono ?_
        rintro e w2 ⟨rfl, rfl⟩
        go_wp2_with fail
        refine H2.out.mono ?_
        rintro e w3 ⟨v, rfl, own3, hb3⟩
        have hb4 := below_on hb hb3
        obtain ⟨A3, c3, rfl, p3⟩ := castL_intsA own3
        have H3 := Lib.hid (HW.out A3 c3 w3 p3)
        clear own3 p3 hb hb3
        go_wp2_with fail
        refine H3.out.mono ?_
        rintro e w4 ⟨v, rfl, hv, hb5⟩
        have RR := Lib.hid (R.out v _ (below_on hb4 hb5) hv)
        clear hv hb4 hb5
        go_wp2_with fail
        go_ret
        exact RR.out
    · have hlq : ((k : Int) == (cut.length : Int)) = false := by rw [beq_eq_false_iff_ne]; omega
      have R : Hid (∀ w1, Below W.heap.size W w1 → CutQ a b m cut W (.returned (.bool false)) w1) := fun w1 hb => ⟨false, rfl, ⟨fun h => (by cases h), fun h => (by have := h.2.1; rw [hix] at this; omega)⟩, hb⟩
      clear hB hcc hix hpc hm hab hS hk hl1 hl9 hL hl
      go_enter Tryd.func13, Tryd.ntmps13
      go_wp2_with fail
      refine (HC.out _).mono ?_
      rintro e w1 ⟨v, rfl, own, hb⟩
      rw [hkk] at own
      obtain ⟨A1, c1, rfl⟩ := own_castL own
      have RR := Lib.hid (R.out _ hb)
      clear own hb hkk
      go_wp2_with fail
      go_ret
      exact RR.out
end Go.Proofs.YtnkehfhedjdhaaaDoor

/-! CofP10 -/
namespace Go.Proofs.YtnkehfhedjdhaaaDoor
open Go.RowKit

theorem or_nat63 {a b : Nat} (ha : a < 2 ^ 63) (hb : b < 2 ^ 63) : bits BinOp.or IntKind.i64 (a : Int) (b : Int) = ((a ||| b : Nat) : Int) := by
  have h4 : bits BinOp.or IntKind.i64 (a : Int) b = IntKind.i64.wrap ((BitVec.ofInt 64 (a : Int) ||| BitVec.ofInt 64 (b : Int)).toNat : Int) := rfl
  have bv : ∀ {a : Nat}, a < 2 ^ 63 → (BitVec.ofInt 64 (a : Int)).toNat = a := fun {a} h => by
    rw [BitVec.ofInt_natCast, BitVec.toNat_ofNat]; exact Nat.mod_eq_of_lt (by omega)
  rw [h4, BitVec.toNat_or, bv ha, bv hb]
  have : a ||| b < 2 ^ 63 := Nat.or_lt_two_pow ha hb
  exact IntWalk.i64_in _ (by omega)
theorem left_snoc : ∀ (Q : List Nat) (m r q : Nat), leftF m Q = some r → leftF m (Q ++ [q]) = if q &&& r = q then some (r - q) else none
  | [], m, r, q, h => by
    have e : m = r := by simpa [leftF] using h
    subst e
    simp [leftF]
  | p :: Q, m, r, q, h => by
    rw [leftF] at h
    rw [List.cons_append, leftF]
    split at h
    · rename_i h1
      rw [if_pos h1]; exact left_snoc Q _ r q h
    · cases h
theorem left_app : ∀ (Q R : List Nat) (m s : Nat), leftF m (Q ++ R) = some s → ∃ r, leftF m Q = some r ∧ leftF r R = some s
  | [], R, m, s, h => ⟨m, rfl, h⟩
  | q :: Q, R, m, s, h => by
    rw [List.cons_append, leftF] at h
    rw [leftF]
    split at h
    · rename_i h1
      rw [if_pos h1]; exact left_app Q R _ s h
    · cases h
theorem left_le : ∀ (Q : List Nat) (m r : Nat), leftF m Q = some r → r ≤ m
  | [], m, r, h => by
    have e : m = r := by simpa [leftF] using h
    omega
  | q :: Q, m, r, h => by
    rw [leftF] at h
    split at h
    · have := left_le Q _ r h; omega
    · cases h
/-- Pieces that fill a mask. -/
def FillX (w h M : Int) (X : List Int) : Prop := ∃ Q, X = castL Q ∧ AllP w h X ∧ leftF M.toNat Q = some 0
structure CofP (w h M : Int) (X : List Int) (V : List Int × Bool) : Prop where
  no : okC w h M = false ∨ ¬ FillX w h M X → V = ([], false)
  yes : ∀ Q, okC w h M = true → X = castL Q → AllP w h X → leftF M.toNat Q = some 0 → V = (castL ((idxV w h M).map (rankF (sortF Q))), true)
theorem CofP.uniq {w h M : Int} {X : List Int} {V V' : List Int × Bool} (h1 : CofP w h M X V) (h2 : CofP w h M X V') : V = V' := by
  by_cases hn : okC w h M = false ∨ ¬ FillX w h M X
  · rw [h1.no hn, h2.no hn]
  · have a : okC w h M = true := by cases hh : okC w h M <;> simp_all
    have b : FillX w h M X := Classical.byContradiction fun hb => hn (.inr hb)
    obtain ⟨Q, q1, q2, q3⟩ := b
    rw [h1.yes Q a q1 q2 q3, h2.yes Q a q1 q2 q3]
theorem cofP_no {w h M : Int} {X : List Int} (hn : okC w h M = false ∨ ¬ FillX w h M X) : CofP w h M X ([], false) :=
  ⟨fun _ => rfl, fun Q a q1 q2 q3 => by
    rcases hn with hn | hn
    · rw [a] at hn; cases hn
    · exact absurd ⟨Q, q1, q2, q3⟩ hn⟩
theorem cofP_yes {w h M : Int} {Q : List Nat} (h1 : okC w h M = true) (h2 : AllP w h (castL Q)) (h3 : leftF M.toNat Q = some 0) : CofP w h M (castL Q) (castL ((idxV w h M).map (rankF (sortF Q))), true) :=
  ⟨fun hn => by
    rcases hn with hn | hn
    · rw [h1] at hn; cases hn
    · exact absurd ⟨Q, rfl, h2, h3⟩ hn, fun Q' _ q1 _ _ => by rw [castL_inj q1]⟩
/-- As far as the pieces have come. -/
structure SoFar (w h M : Int) (X : List Int) (k r : Nat) : Prop where
  ex : ∃ Q, X.take k = castL Q ∧ AllP w h (X.take k) ∧ leftF M.toNat Q = some r
theorem SoFar.start (w h M : Int) (X : List Int) : SoFar w h M X 0 M.toNat := ⟨[], rfl, fun p hp => by simp at hp, rfl⟩
theorem SoFar.le {w h M : Int} {X : List Int} {k r : Nat} (h1 : SoFar w h M X k r) : r ≤ M.toNat := by
  obtain ⟨Q, -, -, h3⟩ := h1.ex
  exact left_le _ _ _ h3
theorem take_snocI {X : List Int} {k : Nat} (hk : k < X.length) : X.take (k + 1) = X.take k ++ [X[k]] := List.take_succ_eq_append_getElem hk
theorem SoFar.next {w h M : Int} {X : List Int} {k r q : Nat} (h1 : SoFar w h M X k r) (hk : k < X.length) (hq : X[k] = (q : Int)) (ho : OneP w h q) (hs : q &&& r = q) : SoFar w h M X (k + 1) (r - q) := by
  obtain ⟨Q, e1, e2, e3⟩ := h1.ex
  refine ⟨Q ++ [q], by rw [take_snocI hk, hq, castL_snoc, e1], fun p hp => ?_, by rw [left_snoc _ _ _ _ e3, if_pos hs]⟩
  rw [take_snocI hk, hq] at hp
  rcases List.mem_append.1 hp with hp | hp
  · exact e2 p hp
  · rw [List.mem_singleton.1 hp]; exact ho
theorem SoFar.stop {w h M : Int} {X : List Int} {k r : Nat} (h1 : SoFar w h M X k r) (hk : k < X.length) (hn : ∀ q : Nat, X[k] = (q : Int) → OneP w h q → q &&& r = q → False) : ¬ FillX w h M X := by
  rintro ⟨Q, rfl, a2, a3⟩
  obtain ⟨Q', e1, e2, e3⟩ := h1.ex
  rw [castL_len] at hk
  have e4 : Q.take k = Q' := by
    apply castL_inj
    rw [← e1]; unfold castL; rw [List.map_take]
  have e5 : Q = Q' ++ (Q[k] :: Q.drop (k + 1)) := by
    rw [← e4, ← List.drop_eq_getElem_cons hk, List.take_append_drop]
  have e6 := a3
  rw [e5] at e6
  obtain ⟨r', f1, f2⟩ := left_app _ _ _ _ e6
  rw [e3] at f1
  obtain rfl : r = r' := by simpa using f1
  rw [leftF] at f2
  split at f2
  · rename_i h6
    refine hn Q[k] (by rw [castL_get]) ?_ h6
    have := a2 ((Q[k] : Nat) : Int) (List.mem_map.2 ⟨Q[k], List.getElem_mem hk, rfl⟩)
    exact this
  · cases f2
theorem SoFar.all {w h M : Int} {X : List Int} {r : Nat} (h1 : SoFar w h M X X.length r) : ∃ Q, X = castL Q ∧ AllP w h X ∧ leftF M.toNat Q = some r := by
  obtain ⟨Q, e1, e2, e3⟩ := h1.ex
  rw [List.take_length] at e1 e2
  exact ⟨Q, e1, e2, e3⟩
theorem fill_of {a b m n : Nat} {Q : List Nat} (hn : n ≤ 36) (hm : m < 2 ^ n) (hA : AllP a b (castL Q)) (hF : leftF m Q = some 0) : Filled (idxL m n) Q := by
  obtain ⟨h1, h2, h3⟩ := left_bits Q m 0 hF
  have hle : ∀ q ∈ Q, q ≤ m := fun q hq => (h1 q hq).le
  have h36 : 2 ^ n ≤ 2 ^ 36 := Nat.pow_le_pow_right (by omega) hn
  refine ⟨fun q hq => ⟨?_, ?_⟩, h2, fun i => ?_⟩
  · rcases Nat.eq_zero_or_pos q with h0 | h0
    · exfalso
      have := hA ((q : Nat) : Int) (List.mem_map.2 ⟨q, hq, rfl⟩)
      rw [h0] at this
      exact oneP_zero this
    · exact h0
  · have := hle q hq; omega
  · rw [mem_idxL]
    constructor
    · rintro ⟨-, hi⟩
      rcases (h3 i).1 hi with h4 | h4
      · simp at h4
      · exact h4
    · intro h4
      have hi := (h3 i).2 (.inr h4)
      refine ⟨?_, hi⟩
      rcases Nat.lt_or_ge i n with h5 | h5
      · exact h5
      · rw [Nat.testBit_lt_two_pow (Nat.lt_of_lt_of_le hm (Nat.pow_le_pow_right (by omega) h5))] at hi
        cases hi
theorem filled_sort {I Q : List Nat} (h : Filled I Q) : Filled I (sortF Q) := h.perm (sortF_perm Q)
/-- The piece with a cell, by its place in order. -/
theorem rank_piece {I S : List Nat} (h : Filled I S) {i p : Nat} (hp : p ∈ S) (hb : p.testBit i = true) : ∃ hr : rankF S i < S.length, S[rankF S i] = p := by
  obtain ⟨j, hj, rfl⟩ := List.getElem_of_mem hp
  have := rankF_at h hj hb
  exact ⟨by omega, by simp only [this]⟩
/-- Each cell lies in one piece, at one place of the given list. -/
theorem cell_place {I Q : List Nat} (h : Filled I Q) {i : Nat} (hi : i ∈ I) : ∃ j, ∃ hj : j < Q.length, Q[j].testBit i = true ∧ ∀ k (hk : k < Q.length), Q[k].testBit i = true → k = j := by
  obtain ⟨q, hq, hb⟩ := (h.fill i).1 hi
  obtain ⟨j, hj, rfl⟩ := List.getElem_of_mem hq
  exact ⟨j, hj, hb, fun k hk hb2 => h.one hk hj hb2 hb⟩
/-- Looking a piece up among the first r names. -/
theorem look_take {S : List Nat} (hn : S.Nodup) {r j : Nat} (hj : j < S.length) : ∀ k (hk : k < (S.take r).length), ((S.take r)[k] = S[j] ↔ k = j) := fun k hk => by
  have hk2 : k < S.length := by rw [List.length_take] at hk; omega
  rw [List.getElem_take]
  exact ⟨fun e => by
    rcases Nat.lt_trichotomy k j with q | q | q
    · exact absurd e (List.pairwise_iff_getElem.1 hn k j hk2 hj q)
    · exact q
    · exact absurd e.symm (List.pairwise_iff_getElem.1 hn j k hj hk2 q), fun e => by subst e; rfl⟩
theorem wf_range {x : Int} (h : (Lit.int .i64 x).wf = true) : -2 ^ 63 ≤ x ∧ x < 2 ^ 63 := by
  simp [Lit.wf, IntKind.min, IntKind.max, IntKind.signed, IntKind.bits] at h
  omega
end Go.Proofs.YtnkehfhedjdhaaaDoor

/-! Mot -/
namespace Go.Proofs.YtnkehfhedjdhaaaDoor
open Go.RowKit

def mot (m : Nat) (p : Int × Int) : Int × Int :=
  match m with
  | 0 => p
  | 1 => (-p.2, p.1)
  | 2 => (-p.1, -p.2)
  | 3 => (p.2, -p.1)
  | 4 => (-p.1, p.2)
  | 5 => (-p.2, -p.1)
  | 6 => (p.1, -p.2)
  | _ => (p.2, p.1)
def turnT : Nat → Int × Int → Int × Int
  | 0, p => p
  | k + 1, p => (-(turnT k p).2, (turnT k p).1)
def mirr (m : Nat) (p : Int × Int) : Int × Int := if 4 ≤ m then (-p.1, p.2) else p
theorem mot_turn {m : Nat} (hm : m < 8) (p : Int × Int) : turnT (m % 4) (mirr m p) = mot m p := by
  match m, hm with
  | 0, _ => simp [turnT, mirr, mot]
  | 1, _ => simp [turnT, mirr, mot]
  | 2, _ => simp [turnT, mirr, mot]
  | 3, _ => simp [turnT, mirr, mot]
  | 4, _ => simp [turnT, mirr, mot]
  | 5, _ => simp [turnT, mirr, mot]
  | 6, _ => simp [turnT, mirr, mot]
  | 7, _ => simp [turnT, mirr, mot]
  | k + 8, h => omega
theorem turnT_bd {B : Int} {p : Int × Int} (h : -B ≤ p.1 ∧ p.1 ≤ B ∧ -B ≤ p.2 ∧ p.2 ≤ B) : ∀ k, -B ≤ (turnT k p).1 ∧ (turnT k p).1 ≤ B ∧ -B ≤ (turnT k p).2 ∧ (turnT k p).2 ≤ B
  | 0 => h
  | k + 1 => by have := turnT_bd h k; simp only [turnT]; omega
theorem mirr_bd {B : Int} {p : Int × Int} (m : Nat) (h : -B ≤ p.1 ∧ p.1 ≤ B ∧ -B ≤ p.2 ∧ p.2 ≤ B) : -B ≤ (mirr m p).1 ∧ (mirr m p).1 ≤ B ∧ -B ≤ (mirr m p).2 ∧ (mirr m p).2 ≤ B := by
  unfold mirr; split
  · simp only; omega
  · exact h
theorem mot_bd {B : Int} {p : Int × Int} {m : Nat} (hm : m < 8) (h : -B ≤ p.1 ∧ p.1 ≤ B ∧ -B ≤ p.2 ∧ p.2 ≤ B) : -B ≤ (mot m p).1 ∧ (mot m p).1 ≤ B ∧ -B ≤ (mot m p).2 ∧ (mot m p).2 ≤ B := by
  rw [← mot_turn hm]; exact turnT_bd (mirr_bd m h) _

end Go.Proofs.YtnkehfhedjdhaaaDoor

/-! Cyc -/
namespace Go.Proofs.YtnkehfhedjdhaaaDoor

/-- A point at a fraction of the way. -/
theorem frac_bt {m q b e f : Int} (hm : 0 < m) (h0 : 0 ≤ q) (h1 : q ≤ m) (h : m * (b - e) = q * (f - e)) : bt e f b := by
  rcases Int.le_total e f with hf | hf
  · left
    have a1 : 0 ≤ q * (f - e) := Int.mul_nonneg h0 (by omega)
    have a2 : q * (f - e) ≤ m * (f - e) := Int.mul_le_mul_of_nonneg_right h1 (by omega)
    rw [← h] at a1 a2
    constructor
    · have := Int.le_of_mul_le_mul_left (a := m) (b := 0) (c := b - e) (by omega) hm; omega
    · have := Int.le_of_mul_le_mul_left a2 hm; omega
  · right
    have a1 : 0 ≤ q * (e - f) := Int.mul_nonneg h0 (by omega)
    have a2 : q * (e - f) ≤ m * (e - f) := Int.mul_le_mul_of_nonneg_right h1 (by omega)
    have e1 : q * (e - f) = m * (e - b) := by grind
    rw [e1] at a1 a2
    constructor
    · have := Int.le_of_mul_le_mul_left a2 hm; omega
    · have := Int.le_of_mul_le_mul_left (a := m) (b := 0) (c := e - b) (by omega) hm; omega
/-- b is at q / (p + q) of the way from a to c. -/
structure Wt (a c b : Int × Int) (p q : Int) : Prop where
  p0 : 0 ≤ p
  q0 : 0 ≤ q
  pq : 0 < p + q
  e1 : (p + q) * b.1 = p * a.1 + q * c.1
  e2 : (p + q) * b.2 = p * a.2 + q * c.2
theorem on_wt {a c b : Int × Int} (h : onP a c b = true) (hac : a ≠ c) : ∃ p q, Wt a c b p q := by
  obtain ⟨h1, h2, h3⟩ := (onP_iff _ _ _).1 h
  obtain ⟨ax, ay⟩ := a
  obtain ⟨bx, by'⟩ := b
  obtain ⟨cx, cy⟩ := c
  simp only [crossP, crossI] at h1 h2 h3
  have hne : ¬ (ax = cx ∧ ay = cy) := fun e => hac (by rw [e.1, e.2])
  unfold bt at h2 h3
  rcases Int.le_total ax cx with hx | hx <;> rcases Int.le_total ay cy with hy | hy
  · exact ⟨(cx - bx) + (cy - by'), (bx - ax) + (by' - ay), by omega, by omega, by omega, by grind, by grind⟩
  · exact ⟨(cx - bx) + (by' - cy), (bx - ax) + (ay - by'), by omega, by omega, by omega, by grind, by grind⟩
  · exact ⟨(bx - cx) + (cy - by'), (ax - bx) + (by' - ay), by omega, by omega, by omega, by grind, by grind⟩
  · exact ⟨(bx - cx) + (by' - cy), (ax - bx) + (ay - by'), by omega, by omega, by omega, by grind, by grind⟩
theorem Wt.ne_a {a c b : Int × Int} {p q : Int} (h : Wt a c b p q) (hb : b ≠ a) : 0 < q := by
  rcases Int.lt_or_eq_of_le h.q0 with h1 | h1
  · exact h1
  · exfalso
    subst h1
    have := h.pq
    have e1 := h.e1
    have e2 := h.e2
    simp only [Int.add_zero, Int.zero_mul] at e1 e2 this
    exact hb (Prod.ext (Int.eq_of_mul_eq_mul_left (by omega) e1) (Int.eq_of_mul_eq_mul_left (by omega) e2))
theorem Wt.ne_c {a c b : Int × Int} {p q : Int} (h : Wt a c b p q) (hb : b ≠ c) : 0 < p := by
  rcases Int.lt_or_eq_of_le h.p0 with h1 | h1
  · exact h1
  · exfalso
    subst h1
    have := h.pq
    have e1 := h.e1
    have e2 := h.e2
    simp only [Int.zero_add, Int.zero_mul] at e1 e2 this
    exact hb (Prod.ext (Int.eq_of_mul_eq_mul_left (by omega) e1) (Int.eq_of_mul_eq_mul_left (by omega) e2))
theorem Wt.cross3 {a c b : Int × Int} {p q : Int} (h : Wt a c b p q) (e f : Int × Int) : (p + q) * crossP e f b = p * crossP e f a + q * crossP e f c := by
  have e1 := h.e1
  have e2 := h.e2
  simp only [crossP, crossI]
  grind
theorem Wt.cross_ab {a c b : Int × Int} {p q : Int} (h : Wt a c b p q) (e : Int × Int) : (p + q) * crossP a b e = q * crossP a c e := by
  have e1 := h.e1
  have e2 := h.e2
  simp only [crossP, crossI]
  grind
theorem Wt.cross_bc {a c b : Int × Int} {p q : Int} (h : Wt a c b p q) (e : Int × Int) : (p + q) * crossP b c e = p * crossP a c e := by
  have e1 := h.e1
  have e2 := h.e2
  simp only [crossP, crossI]
  grind
theorem mul_zero_of {m x : Int} (hm : 0 < m) (h : m * x = 0) : x = 0 := by
  rcases Int.mul_eq_zero.1 h with h1 | h1
  · omega
  · exact h1
/-- What is on the whole is on one of the parts. -/
theorem on_part {a c b e : Int × Int} (hb : onP a c b = true) (he : onP a c e = true) : onP a b e = true ∨ onP b c e = true := by
  by_cases hac : a = c
  · subst hac
    left
    obtain ⟨_, h2, h3⟩ := (onP_iff _ _ _).1 he
    have : e = a := by unfold bt at h2 h3; exact Prod.ext (by omega) (by omega)
    rw [this]; exact on_left _ _
  obtain ⟨p, q, hw⟩ := on_wt hb hac
  obtain ⟨b1, b2, b3⟩ := (onP_iff _ _ _).1 hb
  obtain ⟨e1, e2, e3⟩ := (onP_iff _ _ _).1 he
  have c1 : crossP a b e = 0 := mul_zero_of hw.pq (by rw [hw.cross_ab, e1, Int.mul_zero])
  have c2 : crossP b c e = 0 := mul_zero_of hw.pq (by rw [hw.cross_bc, e1, Int.mul_zero])
  rcases on_line c1 with h | h | h
  · right
    obtain ⟨_, h2, h3⟩ := (onP_iff _ _ _).1 h
    exact (onP_iff _ _ _).2 ⟨c2, by unfold bt at *; omega, by unfold bt at *; omega⟩
  · obtain ⟨_, h2, h3⟩ := (onP_iff _ _ _).1 h
    have k1 : a.1 = b.1 ∨ a.1 = e.1 := by unfold bt at *; omega
    have k2 : a.2 = b.2 ∨ a.2 = e.2 := by unfold bt at *; omega
    have hba : b = a → onP b c e = true := fun h => by rw [h]; exact he
    have hea : e = a → onP a b e = true := fun h => by rw [h]; exact on_left _ _
    unfold crossP crossI at b1 e1
    rcases k1 with k1 | k1 <;> rcases k2 with k2 | k2
    · exact .inr (hba (Prod.ext k1.symm k2.symm))
    · have : (c.1 - a.1) * (b.2 - a.2) = 0 := by grind
      rcases Int.mul_eq_zero.1 this with h4 | h4
      · exact .inl (hea (Prod.ext (by unfold bt at *; omega) k2.symm))
      · exact .inr (hba (Prod.ext k1.symm (by omega)))
    · have : (c.2 - a.2) * (b.1 - a.1) = 0 := by grind
      rcases Int.mul_eq_zero.1 this with h4 | h4
      · exact .inl (hea (Prod.ext k1.symm (by unfold bt at *; omega)))
      · exact .inr (hba (Prod.ext (by omega) k2.symm))
    · exact .inl (hea (Prod.ext k1.symm k2.symm))
  · exact .inl h
/-- What is on a part is on the whole. -/
theorem on_whole {a c b e : Int × Int} (hac : a ≠ c) (hb : onP a c b = true) (he : onP a b e = true) : onP a c e = true := by
  by_cases hba : b = a
  · subst hba
    obtain ⟨_, h2, h3⟩ := (onP_iff _ _ _).1 he
    have : e = b := by unfold bt at h2 h3; exact Prod.ext (by omega) (by omega)
    rw [this]; exact on_left _ _
  obtain ⟨p, q, hw⟩ := on_wt hb hac
  have hq := hw.ne_a hba
  obtain ⟨b1, b2, b3⟩ := (onP_iff _ _ _).1 hb
  obtain ⟨e1, e2, e3⟩ := (onP_iff _ _ _).1 he
  have c1 : crossP a c e = 0 := mul_zero_of hq (by rw [← hw.cross_ab, e1, Int.mul_zero])
  exact (onP_iff _ _ _).2 ⟨c1, by unfold bt at *; omega, by unfold bt at *; omega⟩
theorem on_flip (a b p : Int × Int) : onP b a p = onP a b p := by
  rw [Bool.eq_iff_iff, onP_iff, onP_iff, crossP_flip]
  unfold bt
  constructor <;> (rintro ⟨h1, h2, h3⟩; exact ⟨by omega, by omega, by omega⟩)
theorem meet_zero {a b c d : Int × Int} : meetI a b c d = 0 ↔ (opp a b c d && opp c d a b) = false ∧ onP c d a = false ∧ onP c d b = false ∧ onP a b c = false ∧ onP a b d = false := by
  unfold meetI
  have hs : (sharedS a b c d).isEmpty = (!(onP c d a) && !(onP c d b) && !(onP a b c) && !(onP a b d)) := by
    simp only [sharedS, List.filter_cons, List.filter_nil]
    cases onP c d a <;> cases onP c d b <;> cases onP a b c <;> cases onP a b d <;> rfl
  cases opp a b c d && opp c d a b
  · rw [hs]
    cases onP c d a <;> cases onP c d b <;> cases onP a b c <;> cases onP a b d <;> simp
    all_goals (cases sameAll (sharedS a b c d) <;> simp)
  · simp
theorem sgn_tri (n : Int) : (0 < n ∧ sgn n = 1) ∨ (n = 0 ∧ sgn n = 0) ∨ (n < 0 ∧ sgn n = -1) := by
  unfold sgn
  rcases Int.lt_trichotomy n 0 with h | h | h
  · right; right; exact ⟨h, by rw [if_neg (by omega), if_pos h]⟩
  · right; left; exact ⟨h, by rw [if_neg (by omega), if_neg (by omega)]⟩
  · left; exact ⟨h, by rw [if_pos h]⟩
theorem opp_iff (a b c d : Int × Int) : opp a b c d = true ↔ (0 < crossP a b c ∧ crossP a b d < 0) ∨ (crossP a b c < 0 ∧ 0 < crossP a b d) := by
  unfold opp
  rw [decide_eq_true_eq]
  rcases sgn_tri (crossP a b c) with ⟨h1, h2⟩ | ⟨h1, h2⟩ | ⟨h1, h2⟩ <;> rcases sgn_tri (crossP a b d) with ⟨h3, h4⟩ | ⟨h3, h4⟩ | ⟨h3, h4⟩ <;> rw [h2, h4] <;> omega
/-- Lines that cross: their common point is on a segment whose ends are on both sides. -/
theorem on_crossing {a c e f b : Int × Int} (h1 : crossP a c b = 0) (h2 : crossP e f b = 0) (ho : opp a c e f = true) : onP e f b = true := by
  rw [onP_iff]
  refine ⟨h2, ?_, ?_⟩
  · rcases (opp_iff _ _ _ _).1 ho with ⟨k1, k2⟩ | ⟨k1, k2⟩
    · exact frac_bt (m := crossP a c e - crossP a c f) (q := crossP a c e) (by omega) (by omega) (by omega) (by unfold crossP crossI at *; grind)
    · exact frac_bt (m := crossP a c f - crossP a c e) (q := -crossP a c e) (by omega) (by omega) (by omega) (by unfold crossP crossI at *; grind)
  · rcases (opp_iff _ _ _ _).1 ho with ⟨k1, k2⟩ | ⟨k1, k2⟩
    · exact frac_bt (m := crossP a c e - crossP a c f) (q := crossP a c e) (by omega) (by omega) (by omega) (by unfold crossP crossI at *; grind)
    · exact frac_bt (m := crossP a c f - crossP a c e) (q := -crossP a c e) (by omega) (by omega) (by omega) (by unfold crossP crossI at *; grind)
theorem pos_of_mul {m x y q : Int} (hm : 0 < m) (hq : 0 < q) (h : m * x = q * y) : (0 < y → 0 < x) ∧ (y < 0 → x < 0) := by
  constructor
  · intro hy
    have : 0 < m * x := by rw [h]; exact Int.mul_pos hq hy
    rcases Int.lt_trichotomy x 0 with h1 | h1 | h1
    · have := Int.mul_neg_of_pos_of_neg hm h1; omega
    · rw [h1, Int.mul_zero] at this; omega
    · exact h1
  · intro hy
    have : m * x < 0 := by rw [h]; exact Int.mul_neg_of_pos_of_neg hq hy
    rcases Int.lt_trichotomy x 0 with h1 | h1 | h1
    · exact h1
    · rw [h1, Int.mul_zero] at this; omega
    · have := Int.mul_pos hm h1; omega
/-- **Two parts that a segment does not meet: the whole does not, either.** -/
theorem meet_merge {a c b e f : Int × Int} (hb : onP a c b = true) (hba : b ≠ a) (hbc : b ≠ c) (h1 : meetI a b e f = 0) (h2 : meetI b c e f = 0) : meetI a c e f = 0 := by
  have hac : a ≠ c := by
    intro h
    subst h
    obtain ⟨_, k2, k3⟩ := (onP_iff _ _ _).1 hb
    exact hba (by unfold bt at k2 k3; exact Prod.ext (by omega) (by omega))
  obtain ⟨p, q, hw⟩ := on_wt hb hac
  have hp := hw.ne_c hbc
  have hq := hw.ne_a hba
  obtain ⟨o1, x1, x2, x3, x4⟩ := meet_zero.1 h1
  obtain ⟨o2, y1, y2, y3, y4⟩ := meet_zero.1 h2
  rw [meet_zero]
  refine ⟨?_, x1, y2, ?_, ?_⟩
  · cases ho : (opp a c e f && opp e f a c)
    · rfl
    · exfalso
      rw [Bool.and_eq_true] at ho
      obtain ⟨k1, k2⟩ := ho
      have hB := hw.cross3 e f
      rw [Bool.and_eq_false_iff] at o1 o2
      have n1 : opp a b e f = true := by
        have g1 := pos_of_mul hw.pq hq (hw.cross_ab e)
        have g2 := pos_of_mul hw.pq hq (hw.cross_ab f)
        rw [opp_iff] at k1 ⊢
        rcases k1 with k1 | k1
        · exact .inl ⟨g1.1 k1.1, g2.2 k1.2⟩
        · exact .inr ⟨g1.2 k1.1, g2.1 k1.2⟩
      have n2 : opp b c e f = true := by
        have g1 := pos_of_mul hw.pq hp (hw.cross_bc e)
        have g2 := pos_of_mul hw.pq hp (hw.cross_bc f)
        rw [opp_iff] at k1 ⊢
        rcases k1 with k1 | k1
        · exact .inl ⟨g1.1 k1.1, g2.2 k1.2⟩
        · exact .inr ⟨g1.2 k1.1, g2.1 k1.2⟩
      have m1 : ¬ opp e f a b = true := fun h => by rcases o1 with o | o <;> simp_all
      have m2 : ¬ opp e f b c = true := fun h => by rcases o2 with o | o <;> simp_all
      rw [opp_iff] at m1 m2 k2
      have hz : crossP e f b = 0 := by omega
      have hcb : crossP a c b = 0 := ((onP_iff _ _ _).1 hb).1
      have := on_crossing hcb hz k1
      rw [this] at x2
      cases x2
  · cases h : onP a c e
    · rfl
    · rcases on_part hb h with h3 | h3
      · rw [x3] at h3; cases h3
      · rw [y3] at h3; cases h3
  · cases h : onP a c f
    · rfl
    · rcases on_part hb h with h3 | h3
      · rw [x4] at h3; cases h3
      · rw [y4] at h3; cases h3
end Go.Proofs.YtnkehfhedjdhaaaDoor

/-! Ring -/
namespace Go.Proofs.YtnkehfhedjdhaaaDoor
open Go.RowKit

abbrev Pt := Int × Int
def consec (l : List Pt) : List (Pt × Pt) := l.zip l.tail
def sidesL : List Pt → List (Pt × Pt)
  | [] => []
  | x :: xs => consec (x :: xs ++ [x])
def Good (L : List Pt) : Prop := (3 ≤ L.length ∧ L.length ≤ 10) ∧ allOk L = true ∧ L.Nodup ∧ ∀ s ∈ sidesL L, ∀ t ∈ sidesL L, s ≠ t →
  (s.2 = t.1 → onP t.1 t.2 s.1 = false ∧ onP s.1 s.2 t.2 = false) ∧ (s.2 ≠ t.1 → t.2 ≠ s.1 → meetI s.1 s.2 t.1 t.2 = 0)
theorem sides_eq (L : List Pt) : sidesL L = (List.range L.length).map fun i => (gt L i, gt L (nx L i)) := by
  cases L with
  | nil => rfl
  | cons x xs =>
    apply List.ext_getElem
    · simp [sidesL, consec]
    · intro i h1 h2
      have hi : i < xs.length + 1 := by simpa using h2
      have hn : nx (x :: xs) i = if i + 1 = xs.length + 1 then 0 else i + 1 := nx_eq (L := x :: xs) (by simpa using hi)
      simp only [sidesL, consec, List.getElem_zip, List.getElem_map, List.getElem_range, hn, List.cons_append, List.tail_cons]
      have e1 : (x :: (xs ++ [x]))[i]'(by simp; omega) = gt (x :: xs) i := by
        rw [gt_at (by simpa using hi)]
        cases i with
        | zero => rfl
        | succ i =>
          simp only [List.getElem_cons_succ]
          rw [List.getElem_append_left (by omega)]
      rw [e1]
      congr 1
      by_cases h : i + 1 = xs.length + 1
      · rw [if_pos h, List.getElem_append_right (by omega)]
        simp [gt]
      · rw [if_neg h, List.getElem_append_left (by omega), gt_at (by simp; omega)]
        rfl
theorem mem_sides {L : List Pt} {s : Pt × Pt} : s ∈ sidesL L ↔ ∃ i, i < L.length ∧ s = (gt L i, gt L (nx L i)) := by
  rw [sides_eq]
  simp only [List.mem_map, List.mem_range]
  constructor
  · rintro ⟨i, hi, rfl⟩; exact ⟨i, hi, rfl⟩
  · rintro ⟨i, hi, rfl⟩; exact ⟨i, hi, rfl⟩
theorem nodup_iff {L : List Pt} : L.Nodup ↔ ∀ i k, i < k → k < L.length → gt L i ≠ gt L k := by
  rw [List.nodup_iff_pairwise_ne, List.pairwise_iff_getElem]
  constructor
  · intro h i k hi hk
    rw [gt_at (by omega), gt_at hk]
    exact h i k (by omega) hk hi
  · intro h i k hi hk hik
    have := h i k hik hk
    rw [gt_at hi, gt_at hk] at this
    exact this
theorem gt_inj {L : List Pt} (h : L.Nodup) {i k : Nat} (hi : i < L.length) (hk : k < L.length) (e : gt L i = gt L k) : i = k := by
  rcases Nat.lt_trichotomy i k with h1 | h1 | h1
  · exact absurd e (nodup_iff.1 h i k h1 hk)
  · exact h1
  · exact absurd e.symm (nodup_iff.1 h k i h1 hi)
theorem touch_one {a b c : Pt} (h1 : onP b c a = false) (h2 : onP a b c = false) : meetI a b b c = 1 := by
  have ho : opp a b b c = false := by
    have : crossP a b b = 0 := by unfold crossP crossI; grind
    cases h : opp a b b c
    · rfl
    · rw [opp_iff] at h; omega
  have hs : sharedS a b b c = [b, b] := by
    simp only [sharedS, List.filter_cons, List.filter_nil, h1, h2, on_left, on_right]
    rfl
  unfold meetI
  rw [ho, hs, Bool.false_and]
  simp [sameAll]
theorem one_touch {a b c : Pt} (hab : a ≠ b) (hbc : b ≠ c) (h : meetI a b b c = 1) : onP b c a = false ∧ onP a b c = false := by
  have hb : b ∈ sharedS a b b c := mem_shared.2 (.inl ⟨.inr rfl, on_left b c⟩)
  constructor
  · cases h1 : onP b c a
    · rfl
    · exact absurd (meet_one h a b (mem_shared.2 (.inl ⟨.inl rfl, h1⟩)) hb) hab
  · cases h1 : onP a b c
    · rfl
    · exact absurd (meet_one h b c hb (mem_shared.2 (.inr ⟨.inr rfl, h1⟩))) hbc
theorem poly_good {L : List Pt} (h : polyB L = true) : Good L := by
  obtain ⟨hn, hok, hne, hp⟩ := polyB_spec h
  have hnd : L.Nodup := by
    rw [nodup_iff]
    intro i k hik hk e
    have h1 := hp i k hik hk
    have hs : meetI (gt L i) (gt L (nx L i)) (gt L k) (gt L (nx L k)) ≠ 0 := by
      intro h0
      obtain ⟨_, h2, _⟩ := meet_zero.1 h0
      rw [e, on_left] at h2
      cases h2
    have ha : adjB L.length i k = true := by
      cases ha : adjB L.length i k
      · rw [ha] at h1; exact absurd h1 hs
      · rfl
    simp only [adjB, Bool.or_eq_true, Bool.and_eq_true, beq_iff_eq] at ha
    rcases ha with ha | ha
    · have := hne i (by omega)
      rw [nx_eq (by omega), if_neg (by omega), ← ha] at this
      exact this e
    · have := hne k hk
      rw [nx_eq hk, if_pos (by omega), ← ha.1] at this
      exact this e.symm
  have key : ∀ i k, i < k → k < L.length → (meetI (gt L i) (gt L (nx L i)) (gt L k) (gt L (nx L k)) = if nx L i = k ∨ nx L k = i then 1 else 0) := by
    intro i k hik hk
    have h1 := hp i k hik hk
    unfold pairM at h1
    have e : adjB L.length i k = true ↔ (nx L i = k ∨ nx L k = i) := by
      rw [nx_eq (by omega), nx_eq hk]
      simp only [adjB, Bool.or_eq_true, Bool.and_eq_true, beq_iff_eq]
      rw [if_neg (by omega)]
      by_cases hl : k + 1 = L.length
      · rw [if_pos hl]; omega
      · rw [if_neg hl]; omega
    cases ha : adjB L.length i k
    · rw [ha] at h1
      rw [if_neg (fun h => by rw [e.2 h] at ha; cases ha)]
      exact h1
    · rw [ha] at h1
      rw [if_pos (e.1 ha)]
      exact h1
  have key2 : ∀ i k, i ≠ k → i < L.length → k < L.length → (meetI (gt L i) (gt L (nx L i)) (gt L k) (gt L (nx L k)) = if nx L i = k ∨ nx L k = i then 1 else 0) := by
    intro i k hik hi hk
    rcases Nat.lt_or_gt_of_ne hik with h1 | h1
    · exact key i k h1 hk
    · have := key k i h1 hi
      rw [meetI_swap, this]
      by_cases hc : nx L i = k ∨ nx L k = i
      · rw [if_pos hc, if_pos hc.symm]
      · rw [if_neg hc, if_neg (fun h => hc h.symm)]
  refine ⟨hn, hok, hnd, ?_⟩
  intro s hs t ht hst
  obtain ⟨i, hi, rfl⟩ := mem_sides.1 hs
  obtain ⟨k, hk, rfl⟩ := mem_sides.1 ht
  have hik : i ≠ k := fun e => hst (by rw [e])
  have hm := key2 i k hik hi hk
  constructor
  · intro e
    have e' : nx L i = k := gt_inj hnd (nx_lt (by omega) i) hk e
    rw [if_pos (.inl e'), e'] at hm
    show onP (gt L k) (gt L (nx L k)) (gt L i) = false ∧ onP (gt L i) (gt L (nx L i)) (gt L (nx L k)) = false
    rw [e']
    have h1 := hne i hi
    rw [e'] at h1
    exact one_touch h1 (hne k hk) hm
  · intro e1 e2
    rw [if_neg (fun h => by
      rcases h with h | h
      · exact e1 (congrArg (gt L) h)
      · exact e2 (congrArg (gt L) h))] at hm
    exact hm
theorem good_poly {L : List Pt} (h : Good L) : polyB L = true := by
  obtain ⟨hn, hok, hnd, hg⟩ := h
  have hin : inB (L.length : Int) 3 10 = true := inB_spec.2 (by omega)
  have hne : ∀ i, i < L.length → gt L i ≠ gt L (nx L i) := fun i hi e => by
    have := gt_inj hnd hi (nx_lt (by omega) i) e
    rw [nx_eq hi] at this
    by_cases hl : i + 1 = L.length
    · rw [if_pos hl] at this; omega
    · rw [if_neg hl] at this; omega
  have h1 : nbB L = true := nb_true (fun i hi => by
    cases he : eqQ (gt L i) (gt L ((i + 1) % L.length))
    · rfl
    · exact absurd ((eqQ_iff _ _).1 he) (hne i hi))
  have h2 : pairsB L = true := pairs_true (fun i hi k hik hk => by
    have hs : (gt L i, gt L (nx L i)) ∈ sidesL L := mem_sides.2 ⟨i, hi, rfl⟩
    have ht : (gt L k, gt L (nx L k)) ∈ sidesL L := mem_sides.2 ⟨k, hk, rfl⟩
    have hst : (gt L i, gt L (nx L i)) ≠ (gt L k, gt L (nx L k)) := fun e => by
      have := gt_inj hnd hi hk (Prod.ext_iff.1 e).1; omega
    have hg1 := hg _ hs _ ht hst
    have hg2 := hg _ ht _ hs (Ne.symm hst)
    have hm : meetI (gt L i) (gt L (nx L i)) (gt L k) (gt L (nx L k)) = if nx L i = k ∨ nx L k = i then 1 else 0 := by
      by_cases h1 : nx L i = k
      · rw [if_pos (.inl h1)]
        have := hg1.1 (congrArg (gt L) h1)
        simp only [h1] at this ⊢
        exact touch_one this.1 this.2
      · by_cases h2 : nx L k = i
        · rw [if_pos (.inr h2)]
          have := hg2.1 (congrArg (gt L) h2)
          rw [meetI_swap]
          simp only [h2] at this ⊢
          exact touch_one this.1 this.2
        · rw [if_neg (by rintro (h | h) <;> contradiction)]
          exact hg1.2 (fun e => h1 (gt_inj hnd (nx_lt (by omega) i) hk e)) (fun e => h2 (gt_inj hnd (nx_lt (by omega) k) hi e))
    have e : adjB L.length i k = true ↔ (nx L i = k ∨ nx L k = i) := by
      rw [nx_eq (by omega), nx_eq hk]
      simp only [adjB, Bool.or_eq_true, Bool.and_eq_true, beq_iff_eq]
      rw [if_neg (by omega)]
      by_cases hl : k + 1 = L.length
      · rw [if_pos hl]; omega
      · rw [if_neg hl]; omega
    unfold pairOk pairM
    rw [show (i + 1) % L.length = nx L i from rfl, show (k + 1) % L.length = nx L k from rfl, hm]
    cases ha : adjB L.length i k
    · rw [if_neg (fun h => by rw [e.2 h] at ha; cases ha)]; rfl
    · rw [if_pos (e.1 ha)]; rfl)
  rw [polyB, hin, hok, h1, h2]; rfl
theorem poly_iff (L : List Pt) : polyB L = true ↔ Good L := ⟨poly_good, good_poly⟩
end Go.Proofs.YtnkehfhedjdhaaaDoor

/-! Start -/
namespace Go.Proofs.YtnkehfhedjdhaaaDoor
open Go.RowKit

def rotL (L : List (Int × Int)) (k : Nat) : List (Int × Int) := L.drop k ++ L.take k
theorem rotL_len (L : List (Int × Int)) (k : Nat) : (rotL L k).length = L.length := by simp [rotL]; omega

theorem step_append_any {P : Program} {ops : Array Oper} {o : Oper} {a : Act} {w : World} {K : Act → World → Prop} {Q : Exit → Act → World → Prop} {E : Prop} (hgd : o.guard = none) (s x : Operand) (t : TypeId)
    (ho : o.op = .call { callee := .builtin .append, args := #[s, x], argTypes := #[t, t] })
    (base : Nat) (e : TypeId) (i : TypeInfo) (z : Value) (size bytes : Nat) (ht : P.underlying t = some (.slice e)) (hi : P.info? e = some i) (hz : i.zero = some z)
    (hsize : i.size = size) (hby : i.bytes = bytes) (hzs : z.cells.size = size) (hsz : 0 < size)
    (v : Value) (n : Nat) (xs : List Value) (hs : a.eval s = v) (hown : w.ownsRow base e size v n xs)
    (ad : Addr) (m c : Nat) (news : List Value) (hx : a.eval x = .slice (some ad) m c) (hl : news.length = m * size) (hnews : ∀ j u, news[j]? = some u → w.cell? (ad.add j) = some u) (h1 : ∀ u ∈ news, u.oneCell' = true)
    (h63 : n + m ≤ maxLen) (hbytes : (n + m) * bytes ≤ 140737488355328) (hbase : base ≤ w.heap.size)
    (h : ∀ v' w', w'.ownsRow base e size v' (n + m) (xs ++ news) → w.grownBy w' v.ownBlock → K (a.put o.dst v') w') :
    if Region.wanted o (yielded ops a.tmps) = true then Oper.wp P o a w K Q else E := by
  have hw : Region.wanted o (yielded ops a.tmps) = true := by simp [Region.wanted, hgd]
  rw [if_pos hw]
  obtain ⟨v', w', hrun, r1, r2, _⟩ := run_append_own (P := P) w base t o.type e i z size bytes ht hi hz hsize hby hzs hsz v n xs hown ad m c news hl hnews h1 h63 hbytes hbase
  unfold Oper.wp
  simp [execOp, ho, resolve, invoke, builtin, hs, hx, hrun, Result.andThen]
  exact h v' w' r1 r2

theorem ptsA_take {w : World} {g : Nat} {L : List (Int × Int)} (h : PtsA w (some ⟨g, 0, none⟩) L) (k : Nat) : ∀ j u, (flat (L.take k))[j]? = some u → w.cell? (Addr.add ⟨g, 0, none⟩ j) = some u := by
  intro j u hu
  have h0 := ptsA_news h 0 j u
  rw [List.drop_zero, Nat.zero_mul] at h0
  refine h0 ?_
  have e : flat L = flat (L.take k) ++ flat (L.drop k) := by rw [← flat_append, List.take_append_drop]
  have hj : j < (flat (L.take k)).length := by
    rcases Nat.lt_or_ge j (flat (L.take k)).length with h1 | h1
    · exact h1
    · rw [List.getElem?_eq_none h1] at hu; cases hu
  rw [e, List.getElem?_append_left hj]
  exact hu


def catN (L : List (Int × Int)) (k : Nat) : Nat → Nat
  | 0 => 0
  | 1 => L.length - k
  | _ => L.length
def catL (L : List (Int × Int)) (k : Nat) : Nat → List (Int × Int)
  | 0 => []
  | 1 => L.drop k
  | _ => rotL L k
def startV (L : List (Int × Int)) (k : Int) : List (Int × Int) := bif polyB L && inB k 0 ((L.length : Int) - 1) then rotL L k.toNat else []
theorem startV_len (L : List (Int × Int)) (k : Int) : (startV L k).length ≤ 1048576 := by
  unfold startV
  cases h : polyB L
  · simp
  · have := polyB_all h
    cases inB k 0 ((L.length : Int) - 1)
    · simp
    · simp only [Bool.and_self, cond_true, rotL_len]; omega

end Go.Proofs.YtnkehfhedjdhaaaDoor

/-! Same -/
namespace Go.Proofs.YtnkehfhedjdhaaaDoor
open Go.RowKit

theorem consec_snoc (l : List Pt) (a b : Pt) : consec (l ++ [a] ++ [b]) = consec (l ++ [a]) ++ [(a, b)] := by
  induction l with
  | nil => rfl
  | cons x l ih =>
    cases l with
    | nil => rfl
    | cons y l =>
      have e1 : consec (x :: y :: l ++ [a] ++ [b]) = (x, y) :: consec (y :: l ++ [a] ++ [b]) := rfl
      have e2 : consec (x :: y :: l ++ [a]) = (x, y) :: consec (y :: l ++ [a]) := rfl
      rw [e1, e2, ih]; rfl
theorem good_of {L M : List Pt} (hl : M.length = L.length) (hm : ∀ p, p ∈ M ↔ p ∈ L) (hd : M.Nodup) (hs : ∀ s, s ∈ sidesL M → s ∈ sidesL L) (h : Good L) : Good M := by
  obtain ⟨h1, h2, h3, h4⟩ := h
  refine ⟨by rw [hl]; exact h1, ?_, hd, fun s hs1 t ht1 hst => h4 s (hs s hs1) t (hs t ht1) hst⟩
  simp only [allOk, List.all_eq_true] at h2 ⊢
  exact fun p hp => h2 p ((hm p).1 hp)
theorem sides_step (x y : Pt) (ys : List Pt) (s : Pt × Pt) : s ∈ sidesL (y :: ys ++ [x]) ↔ s ∈ sidesL (x :: y :: ys) := by
  have e1 : sidesL (x :: y :: ys) = (x, y) :: consec (y :: ys ++ [x]) := rfl
  have e2 : sidesL (y :: ys ++ [x]) = consec (y :: ys ++ [x] ++ [y]) := rfl
  rw [e1, e2, consec_snoc]
  rw [List.mem_append, List.mem_singleton, List.mem_cons]
  exact Or.comm
theorem good_step (x : Pt) (xs : List Pt) : Good (xs ++ [x]) ↔ Good (x :: xs) := by
  cases xs with
  | nil => exact Iff.rfl
  | cons y ys =>
    constructor
    · intro h
      refine good_of (L := y :: ys ++ [x]) (by simp) (fun p => by simp only [List.mem_cons, List.mem_append, List.not_mem_nil, or_false]; constructor <;> (intro h; rcases h with h | h | h <;> simp [h]) ) ?_ (fun s hs => (sides_step x y ys s).2 hs) h
      exact (List.perm_append_comm (l₁ := y :: ys) (l₂ := [x])).nodup_iff.1 h.2.2.1
    · intro h
      refine good_of (L := x :: y :: ys) (by simp) (fun p => by simp only [List.mem_cons, List.mem_append, List.not_mem_nil, or_false]; constructor <;> (intro h; rcases h with h | h | h <;> simp [h]) ) ?_ (fun s hs => (sides_step x y ys s).1 hs) h
      exact (List.perm_append_comm (l₁ := y :: ys) (l₂ := [x])).nodup_iff.2 h.2.2.1
theorem rotL_zero (L : List Pt) : rotL L 0 = L := by simp [rotL]
theorem rotL_succ {L : List Pt} {k : Nat} (hk : k < L.length) : ∃ x xs, rotL L k = x :: xs ∧ rotL L (k + 1) = xs ++ [x] := by
  refine ⟨L[k], L.drop (k + 1) ++ L.take k, ?_, ?_⟩
  · rw [rotL, List.drop_eq_getElem_cons hk]; rfl
  · rw [rotL, List.take_succ_eq_append_getElem hk, List.append_assoc]
theorem good_rot {L : List Pt} (h : Good L) : ∀ k, k ≤ L.length → Good (rotL L k) := by
  intro k
  induction k with
  | zero => intro _; rw [rotL_zero]; exact h
  | succ k ih =>
    intro hk
    obtain ⟨x, xs, e1, e2⟩ := rotL_succ (L := L) (k := k) (by omega)
    have := ih (by omega)
    rw [e1] at this
    rw [e2]
    exact (good_step x xs).2 this

/-! ### Without a straight corner -/
theorem cross_z (a b : Pt) : crossP a b b = 0 := by unfold crossP crossI; grind
theorem good_drop {b : Pt} {Y : List Pt} (h : Good (b :: Y)) (h4 : 3 ≤ Y.length) (hs : onP (gt Y (Y.length - 1)) (gt Y 0) b = true) : Good Y := by
  obtain ⟨h1, h2, h3, hg⟩ := h
  have hb : b ∉ Y := (List.nodup_cons.1 h3).1
  have hY : Y.Nodup := (List.nodup_cons.1 h3).2
  obtain ⟨c, Y', rfl⟩ : ∃ c Y', Y = c :: Y' := by
    cases Y with
    | nil => simp at h4
    | cons c Y' => exact ⟨c, Y', rfl⟩
  obtain ⟨a, ha⟩ : ∃ a, a = gt (c :: Y') ((c :: Y').length - 1) := ⟨_, rfl⟩
  have hc : gt (c :: Y') 0 = c := rfl
  rw [← ha, hc] at hs
  have hlast : c :: Y' = (c :: Y').dropLast ++ [a] := by
    have hl : (c :: Y').getLast (by simp) = a := by
      rw [ha, gt_at (by simp), List.getLast_eq_getElem]
    rw [← hl]
    exact (List.dropLast_concat_getLast _).symm
  have eL : sidesL (b :: c :: Y') = (b, c) :: consec (c :: Y') ++ [(a, b)] := by
    have e1 : sidesL (b :: c :: Y') = (b, c) :: consec (c :: Y' ++ [b]) := rfl
    rw [e1, hlast, consec_snoc]
    rfl
  have eY : sidesL (c :: Y') = consec (c :: Y') ++ [(a, c)] := by
    have e1 : sidesL (c :: Y') = consec (c :: Y' ++ [c]) := rfl
    rw [e1]
    conv => lhs; rw [hlast]
    rw [consec_snoc, ← hlast]
  have hbc : (b, c) ∈ sidesL (b :: c :: Y') := by rw [eL]; simp
  have hab : (a, b) ∈ sidesL (b :: c :: Y') := by rw [eL]; simp
  have hin : ∀ t, t ∈ consec (c :: Y') → t ∈ sidesL (b :: c :: Y') := fun t ht => by rw [eL]; simp [ht]
  have hmem : ∀ t, t ∈ consec (c :: Y') → t.1 ∈ c :: Y' ∧ t.2 ∈ c :: Y' := fun t ht => by
    have := List.of_mem_zip (a := t.1) (b := t.2) (l₁ := c :: Y') (l₂ := (c :: Y').tail) ht
    exact ⟨this.1, List.mem_of_mem_tail this.2⟩
  have haY : a ∈ c :: Y' := by rw [hlast]; simp
  have hba : b ≠ a := fun e => hb (e ▸ haY)
  have hbcn : b ≠ c := fun e => hb (e ▸ List.mem_cons_self)
  have hne1 : ∀ t, t ∈ consec (c :: Y') → t.1 ≠ b ∧ t.2 ≠ b := fun t ht => ⟨fun e => hb (e ▸ (hmem t ht).1), fun e => hb (e ▸ (hmem t ht).2)⟩
  -- a side from c does not lead to a
  have hca : ∀ t, t ∈ consec (c :: Y') → t.1 = c → t.2 ≠ a := fun t ht e1 e2 => by
    obtain ⟨i, hi, hti⟩ := mem_sides.1 (hin t ht)
    rw [hti] at e1 e2
    have k1 : gt (b :: c :: Y') i = gt (b :: c :: Y') 1 := e1
    have k2 := gt_inj h3 hi (by simp) k1
    have k3 : gt (b :: c :: Y') (nx (b :: c :: Y') i) = gt (b :: c :: Y') ((b :: c :: Y').length - 1) := by
      rw [show gt (b :: c :: Y') (nx (b :: c :: Y') i) = a from e2, ha]
      simp only [gt, List.length_cons, Nat.add_sub_cancel]
      cases hY' : Y'.length with
      | zero => simp at h4; omega
      | succ n => simp
    have k4 := gt_inj h3 (nx_lt (by simp) i) (by simp) k3
    rw [nx_eq hi] at k4
    simp only [List.length_cons] at k4 h4
    by_cases hl : i + 1 = Y'.length + 1 + 1
    · rw [if_pos hl] at k4; omega
    · rw [if_neg hl] at k4; omega
  have hac : a ≠ c := fun e => by
    have : gt (c :: Y') ((c :: Y').length - 1) = gt (c :: Y') 0 := by rw [← ha, e]; rfl
    have := gt_inj hY (by simp) (by simp) this
    simp only [List.length_cons] at this h4; omega
  -- the new side meets no other one
  have new0 : ∀ t, t ∈ consec (c :: Y') → t.1 ≠ c → t.2 ≠ a → meetI a c t.1 t.2 = 0 := fun t ht k1 k2 => by
    obtain ⟨n1, n2⟩ := hne1 t ht
    have m1 := (hg _ hab _ (hin t ht) (fun e => n2 (Prod.ext_iff.1 e).2.symm)).2 (Ne.symm n1) k2
    have m2 := (hg _ hbc _ (hin t ht) (fun e => n1 (Prod.ext_iff.1 e).1.symm)).2 (Ne.symm k1) n2
    exact meet_merge hs hba hbcn m1 m2
  have new1 : ∀ t, t ∈ consec (c :: Y') → t.1 = c → onP t.1 t.2 a = false ∧ onP a c t.2 = false := fun t ht k1 => by
    obtain ⟨n1, n2⟩ := hne1 t ht
    have k2 := hca t ht k1
    have m1 := (hg _ hab _ (hin t ht) (fun e => n2 (Prod.ext_iff.1 e).2.symm)).2 (Ne.symm n1) k2
    have m2 := (hg _ hbc _ (hin t ht) (fun e => n1 (Prod.ext_iff.1 e).1.symm)).1 k1.symm
    obtain ⟨-, z1, -, -, z4⟩ := meet_zero.1 m1
    refine ⟨z1, ?_⟩
    cases hq : onP a c t.2
    · rfl
    · rcases on_part hs hq with h5 | h5
      · rw [show onP a b t.2 = false from z4] at h5; cases h5
      · rw [show onP b c t.2 = false from m2.2] at h5; cases h5
  have new2 : ∀ t, t ∈ consec (c :: Y') → t.2 = a → onP a c t.1 = false ∧ onP t.1 t.2 c = false := fun t ht k1 => by
    obtain ⟨n1, n2⟩ := hne1 t ht
    have k2 : t.1 ≠ c := fun e => hca t ht e k1
    have m1 := (hg _ (hin t ht) _ hab (fun e => n2 (Prod.ext_iff.1 e).2)).1 k1
    have m2 := (hg _ hbc _ (hin t ht) (fun e => n1 (Prod.ext_iff.1 e).1.symm)).2 (Ne.symm k2) n2
    obtain ⟨-, -, z2, z3, -⟩ := meet_zero.1 m2
    refine ⟨?_, z2⟩
    cases hq : onP a c t.1
    · rfl
    · rcases on_part hs hq with h5 | h5
      · rw [show onP a b t.1 = false from m1.1] at h5; cases h5
      · rw [show onP b c t.1 = false from z3] at h5; cases h5
  refine ⟨⟨h4, by have := h1.2; simp at this ⊢; omega⟩, ?_, hY, ?_⟩
  · simp only [allOk, List.all_eq_true] at h2 ⊢
    exact fun p hp => h2 p (List.mem_cons_of_mem _ hp)
  · intro s hs1 t ht1 hst
    rw [eY] at hs1 ht1
    simp only [List.mem_append, List.mem_cons, List.not_mem_nil, or_false] at hs1 ht1
    rcases hs1 with hs1 | rfl <;> rcases ht1 with ht1 | rfl
    · exact hg s (hin s hs1) t (hin t ht1) hst
    · refine ⟨fun e => ?_, fun e1 e2 => ?_⟩
      · have := new2 s hs1 e
        exact ⟨this.1, this.2⟩
      · rw [meetI_swap]
        exact new0 s hs1 (Ne.symm e2) e1
    · exact ⟨fun e => new1 t ht1 e.symm, fun e1 e2 => new0 t ht1 (Ne.symm e1) e2⟩
    · exact absurd rfl hst
end Go.Proofs.YtnkehfhedjdhaaaDoor

/-! Shape -/
namespace Go.Proofs.YtnkehfhedjdhaaaDoor
open Go.RowKit

theorem straight_filter (L : List Pt) : ∀ k, straightTill L k = ((List.range k).filter (bentB L)).map (gt L) := by
  intro k
  induction k with
  | zero => rfl
  | succ k ih =>
    rw [straightTill, ih, List.range_succ, List.filter_append, List.map_append, List.filter_cons, List.filter_nil]
    cases bentB L k <;> simp
theorem straightL_eq (L : List Pt) : straightL L = ((List.range L.length).filter (bentB L)).map (gt L) := straight_filter L _
theorem gt_step (x : Pt) (xs : List Pt) {i : Nat} (hi : i < (x :: xs).length) : gt (xs ++ [x]) i = gt (x :: xs) (nx (x :: xs) i) := by
  rw [nx_eq hi]
  simp only [List.length_cons] at hi ⊢
  by_cases h : i + 1 = xs.length + 1
  · rw [if_pos h, gt_at (by simp; omega), List.getElem_append_right (by omega)]
    simp [gt]
  · rw [if_neg h, gt_at (by simp; omega), List.getElem_append_left (by omega), gt_at (by simp; omega)]
    rfl
theorem bent_step (x : Pt) (xs : List Pt) {i : Nat} (hi : i < (x :: xs).length) : bentB (xs ++ [x]) i = bentB (x :: xs) (nx (x :: xs) i) := by
  have hl : (xs ++ [x]).length = (x :: xs).length := by simp
  have h0 : 0 < (x :: xs).length := by simp
  have e1 : pv (xs ++ [x]) i = pv (x :: xs) i := by unfold pv; rw [hl]
  have e2 : nx (xs ++ [x]) i = nx (x :: xs) i := by unfold nx; rw [hl]
  have e3 : pv (x :: xs) (nx (x :: xs) i) = i := by
    rw [pv_eq (nx_lt h0 i), nx_eq hi]
    by_cases h : i + 1 = (x :: xs).length
    · rw [if_pos h, if_pos rfl]; omega
    · rw [if_neg h, if_neg (by omega)]; omega
  unfold bentB
  rw [e1, e2, gt_step x xs hi, gt_step x xs (pv_lt h0 i), gt_step x xs (nx_lt h0 i), nx_pv hi, e3]
theorem range_nx (x : Pt) (xs : List Pt) : (List.range (x :: xs).length).map (nx (x :: xs)) = (List.range xs.length).map Nat.succ ++ [0] := by
  rw [List.length_cons, List.range_succ, List.map_append]
  congr 1
  · apply List.map_congr_left
    intro i hi
    have : i < xs.length := List.mem_range.1 hi
    rw [nx_eq (by simp; omega), if_neg (by simp; omega)]
  · simp only [List.map_cons, List.map_nil]
    rw [nx_eq (by simp), if_pos (by simp)]
def restS (x : Pt) (xs : List Pt) : List Pt := (((List.range xs.length).map Nat.succ).filter (bentB (x :: xs))).map (gt (x :: xs))
theorem straight_cons (x : Pt) (xs : List Pt) : straightL (x :: xs) = (bif bentB (x :: xs) 0 then [x] else []) ++ restS x xs := by
  rw [straightL_eq, List.length_cons, List.range_succ_eq_map, List.filter_cons]
  cases h : bentB (x :: xs) 0
  · rfl
  · rfl
theorem straight_step (x : Pt) (xs : List Pt) : straightL (xs ++ [x]) = restS x xs ++ (bif bentB (x :: xs) 0 then [x] else []) := by
  have hl : (xs ++ [x]).length = (x :: xs).length := by simp
  have h1 : straightL (xs ++ [x]) = (((List.range (x :: xs).length).map (nx (x :: xs))).filter (bentB (x :: xs))).map (gt (x :: xs)) := by
    rw [straightL_eq, hl, List.filter_map, List.map_map]
    rw [List.filter_congr (q := bentB (x :: xs) ∘ nx (x :: xs)) (fun i hi => bent_step x xs (List.mem_range.1 hi))]
    apply List.map_congr_left
    intro i hi
    exact gt_step x xs (List.mem_range.1 (List.mem_filter.1 hi).1)
  rw [h1, range_nx, List.filter_append, List.map_append]
  congr 1
  cases h : bentB (x :: xs) 0 <;> simp [h, gt]
theorem good_straight_step {x : Pt} {xs : List Pt} (h : Good (straightL (xs ++ [x]))) : Good (straightL (x :: xs)) := by
  rw [straight_step] at h
  rw [straight_cons]
  cases hb : bentB (x :: xs) 0
  · rw [hb] at h; simpa using h
  · rw [hb] at h
    exact (good_step x _).1 h
theorem good_straight_rot {L : List Pt} : ∀ k, k ≤ L.length → Good (straightL (rotL L k)) → Good (straightL L) := by
  intro k
  induction k with
  | zero => intro _ h; rw [rotL_zero] at h; exact h
  | succ k ih =>
    intro hk h
    obtain ⟨x, xs, e1, e2⟩ := rotL_succ (L := L) (k := k) (by omega)
    rw [e2] at h
    refine ih (by omega) ?_
    rw [e1]
    exact good_straight_step h
theorem bent_rot {L : List Pt} : ∀ k, k ≤ L.length → ∀ j, j < L.length → bentB (rotL L k) j = bentB L ((j + k) % L.length) := by
  intro k
  induction k with
  | zero => intro _ j hj; rw [rotL_zero, Nat.add_zero, Nat.mod_eq_of_lt hj]
  | succ k ih =>
    intro hk j hj
    obtain ⟨x, xs, e1, e2⟩ := rotL_succ (L := L) (k := k) (by omega)
    have hl : (x :: xs).length = L.length := by rw [← e1, rotL_len]
    have h1 := ih (by omega) (nx (x :: xs) j) (by rw [← hl]; exact nx_lt (by simp) j)
    rw [e1] at h1
    rw [e2, bent_step x xs (by omega), h1]
    unfold nx
    rw [hl, Nat.mod_add_mod, show j + 1 + k = j + (k + 1) by omega]
theorem mul_zero_iff {m x q y : Int} (hm : 0 < m) (hq : 0 < q) (h : m * x = q * y) : x = 0 ↔ y = 0 := by
  constructor
  · intro hx; rw [hx, Int.mul_zero] at h; exact mul_zero_of hq h.symm
  · intro hy; rw [hy, Int.mul_zero] at h; exact mul_zero_of hm h
theorem bent_drop {b : Pt} {Y : List Pt} (hY : 3 ≤ Y.length) (hs : onP (gt Y (Y.length - 1)) (gt Y 0) b = true) (hb : b ∉ Y) {i : Nat} (hi : i < Y.length) : bentB (b :: Y) (i + 1) = bentB Y i := by
  have ha : gt Y (Y.length - 1) ∈ Y := by rw [gt_at (by omega)]; exact List.getElem_mem _
  have hc : gt Y 0 ∈ Y := by rw [gt_at (by omega)]; exact List.getElem_mem _
  obtain ⟨a, ea⟩ : ∃ a, a = gt Y (Y.length - 1) := ⟨_, rfl⟩
  obtain ⟨c, ec⟩ : ∃ c, c = gt Y 0 := ⟨_, rfl⟩
  rw [← ea, ← ec] at hs
  rw [← ea] at ha
  rw [← ec] at hc
  have hba : b ≠ a := fun e => hb (e ▸ ha)
  have hbc : b ≠ c := fun e => hb (e ▸ hc)
  have hac : a ≠ c := by
    intro h
    subst h
    obtain ⟨_, k2, k3⟩ := (onP_iff _ _ _).1 hs
    exact hba (by unfold bt at k2 k3; exact Prod.ext (by omega) (by omega))
  obtain ⟨p, q, hw⟩ := on_wt hs hac
  have hp := hw.ne_c hbc
  have hq := hw.ne_a hba
  have g1 : ∀ j, gt (b :: Y) (j + 1) = gt Y j := fun j => by simp [gt]
  have e1 : pv (b :: Y) (i + 1) = i := by rw [pv_eq (by simp; omega), if_neg (by omega)]; omega
  have e2 : nx (b :: Y) (i + 1) = if i + 1 = Y.length then 0 else i + 1 + 1 := by
    rw [nx_eq (by simp; omega)]
    by_cases h : i + 1 = Y.length
    · rw [if_pos h, if_pos (by simp; omega)]
    · rw [if_neg h, if_neg (by simp; omega)]
  unfold bentB
  rw [e1, e2, g1, pv_eq hi, nx_eq hi]
  have key : ∀ x y : Int, (x = 0 ↔ y = 0) → (!(x == 0)) = (!(y == 0)) := fun x y h => by
    rw [Bool.eq_iff_iff]; simp only [Bool.not_eq_true', beq_eq_false_iff_ne, ne_eq, h]
  apply key
  by_cases h0 : i = 0
  · subst h0
    rw [if_pos rfl, if_neg (by omega), if_neg (by omega), g1, ← ea, ← ec]
    exact mul_zero_iff hw.pq hp (hw.cross_bc _)
  · rw [if_neg h0]
    have e3 : gt (b :: Y) i = gt Y (i - 1) := by rw [show i = (i - 1) + 1 by omega, g1]; congr 1
    rw [e3]
    by_cases hl : i + 1 = Y.length
    · rw [if_pos hl, if_pos hl]
      have e4 : gt Y i = a := by rw [ea]; congr 1; omega
      rw [e4, ← ec]
      show crossP (gt Y (i - 1)) a b = 0 ↔ _
      have := hw.cross3 (gt Y (i - 1)) a
      rw [cross_z, Int.mul_zero, Int.zero_add] at this
      exact mul_zero_iff hw.pq hq this
    · rw [if_neg hl, if_neg hl, g1]
theorem straight_drop {b : Pt} {Y : List Pt} (hY : 3 ≤ Y.length) (hs : onP (gt Y (Y.length - 1)) (gt Y 0) b = true) (hb : b ∉ Y) (h0 : bentB (b :: Y) 0 = false) : straightL (b :: Y) = straightL Y := by
  rw [straight_cons, h0, straightL_eq]
  show [] ++ restS b Y = _
  rw [List.nil_append, restS, List.filter_map, List.map_map]
  rw [List.filter_congr (p := bentB (b :: Y) ∘ Nat.succ) (q := bentB Y) (fun i hi => bent_drop hY hs hb (List.mem_range.1 hi))]
  apply List.map_congr_left
  intro i _
  simp [gt]
/-- **The straightened polygon is one.** -/
theorem good_straight : ∀ n (L : List Pt), L.length = n → Good L → Good (straightL L) := by
  intro n
  induction n using Nat.strongRecOn with
  | _ n ih =>
    intro L hL hG
    by_cases hall : ∀ i, i < L.length → bentB L i = true
    · have : straightL L = L := by
        rw [straightL_eq, List.filter_eq_self.2 (fun i hi => hall i (List.mem_range.1 hi))]
        apply List.ext_getElem (by simp)
        intro i h1 h2
        simp [gt_at h2]
      rw [this]; exact hG
    · obtain ⟨i, hi, hb⟩ : ∃ i, i < L.length ∧ bentB L i = false := by
        false_or_by_contra
        rename_i hne
        exact hall fun i hi => by
          cases hb : bentB L i
          · exact absurd ⟨i, hi, hb⟩ hne
          · rfl
      refine good_straight_rot i (by omega) ?_
      have hG' := good_rot hG i (by omega)
      have hb' : bentB (rotL L i) 0 = false := by rw [bent_rot i (by omega) 0 (by omega), Nat.zero_add, Nat.mod_eq_of_lt hi, hb]
      obtain ⟨b, Y, e1, -⟩ := rotL_succ hi
      have hl : (b :: Y).length = n := by rw [← e1, rotL_len, hL]
      rw [e1] at hG' hb' ⊢
      have hY2 : 2 ≤ Y.length := by have := hG'.1.1; simp at this; omega
      have hbY : b ∉ Y := (List.nodup_cons.1 hG'.2.2.1).1
      have hon : onP (gt Y (Y.length - 1)) (gt Y 0) b = true := by
        have h1 := on_bent (good_poly hG') (i := 0) (by simp)
        rw [hb', Bool.not_false, onQ_ok (gt_ok hG'.2.1 _) (gt_ok hG'.2.1 _) (gt_ok hG'.2.1 _)] at h1
        rw [pv_eq (by simp), if_pos rfl, nx_eq (by simp), if_neg (by rw [List.length_cons]; omega)] at h1
        have e2 : gt (b :: Y) ((b :: Y).length - 1) = gt Y (Y.length - 1) := by
          rw [List.length_cons, Nat.add_sub_cancel, show Y.length = (Y.length - 1) + 1 by omega]; simp [gt]
        have e3 : gt (b :: Y) (0 + 1) = gt Y 0 := by simp [gt]
        rw [e2, e3] at h1
        exact h1
      have hY3 : 3 ≤ Y.length := by
        false_or_by_contra
        rename_i hlt
        have hm : Y.length = 2 := by omega
        obtain ⟨c, a, rfl⟩ : ∃ c a, Y = [c, a] := by
          match Y, hm with
          | [c, a], _ => exact ⟨c, a, rfl⟩
        have hs1 : (c, a) ∈ sidesL [b, c, a] := by simp [sidesL, consec]
        have hs2 : (a, b) ∈ sidesL [b, c, a] := by simp [sidesL, consec]
        have hne : (c, a) ≠ (a, b) := fun e => by
          have h1 := (Prod.ext_iff.1 e).2
          exact hbY (by rw [show b = a from h1.symm]; simp)
        have h1 := (hG'.2.2.2 _ hs1 _ hs2 hne).1 rfl
        have h2 : onP a c b = true := hon
        rw [← on_flip] at h2
        rw [show onP c a b = false from h1.2] at h2
        cases h2
      rw [straight_drop hY3 hon hbY hb']
      exact ih Y.length (by simp at hl; omega) Y rfl (good_drop hG' hY3 hon)
theorem poly_straight {L : List Pt} (h : polyB L = true) : polyB (straightL L) = true := good_poly (good_straight _ L rfl (poly_good h))
theorem poly_rot {L : List Pt} (h : polyB L = true) {k : Nat} (hk : k ≤ L.length) : polyB (rotL L k) = true := good_poly (good_rot (poly_good h) k hk)
end Go.Proofs.YtnkehfhedjdhaaaDoor

/-! MotP -/
namespace Go.Proofs.YtnkehfhedjdhaaaDoor
open Go.RowKit

def dn (b p : Pt) : Pt := (p.1 - b.1, p.2 - b.2)
def lowL (L : List Pt) : Pt := (boxTill L L.length).1
def cornL (L : List Pt) : List Pt := L.map (dn (lowL L))
def moveL (L : List Pt) (m : Nat) : List Pt := cornL (L.map (mot m))
def moveV (L : List Pt) (m : Int) : List Pt := bif polyB L && inB m 0 7 then moveL L m.toNat else []
theorem cornL_len (L : List Pt) : (cornL L).length = L.length := by simp [cornL]
theorem moveL_len (L : List Pt) (m : Nat) : (moveL L m).length = L.length := by simp [moveL, cornL]
theorem gt_map {f : Pt → Pt} {L : List Pt} {i : Nat} (h : i < L.length) : gt (L.map f) i = f (gt L i) := by
  rw [gt_at (by simpa using h), gt_at h]; simp
theorem minI_eq (x y : Int) : minI x y = min x y := by unfold minI; split <;> omega
theorem maxI_eq (x y : Int) : maxI x y = max x y := by unfold maxI; split <;> omega

/-- The box holds all corners. -/
theorem box_le {L : List Pt} : ∀ k, k ≤ L.length → ∀ i, i < k ∨ i = 0 → (boxTill L k).1.1 ≤ (gt L i).1 ∧ (boxTill L k).1.2 ≤ (gt L i).2 ∧ (gt L i).1 ≤ (boxTill L k).2.1 ∧ (gt L i).2 ≤ (boxTill L k).2.2
  | 0, _, i, hi => by
    obtain rfl : i = 0 := by omega
    simp [boxTill]
  | k + 1, hk, i, hi => by
    simp only [boxTill, boxStep, minI_eq, maxI_eq]
    rcases Nat.lt_or_ge i k with h | h
    · have := box_le (L := L) k (by omega) i (.inl h); omega
    · by_cases h0 : i = 0
      · have := box_le (L := L) k (by omega) i (.inr h0); omega
      · obtain rfl : i = k := by omega
        omega
/-- Each side of the box is reached. -/
theorem box_at {L : List Pt} : ∀ k, k ≤ L.length → 0 < L.length → (∃ i, i < L.length ∧ (boxTill L k).1.1 = (gt L i).1) ∧ (∃ i, i < L.length ∧ (boxTill L k).1.2 = (gt L i).2)
  | 0, _, h0 => ⟨⟨0, h0, rfl⟩, ⟨0, h0, rfl⟩⟩
  | k + 1, hk, h0 => by
    obtain ⟨⟨i, hi, e1⟩, ⟨j, hj, e2⟩⟩ := box_at k (by omega) h0
    simp only [boxTill, boxStep, minI]
    constructor
    · split
      · exact ⟨k, by omega, rfl⟩
      · exact ⟨i, hi, e1⟩
    · split
      · exact ⟨k, by omega, rfl⟩
      · exact ⟨j, hj, e2⟩
theorem box_hi {L : List Pt} (hok : allOk L = true) : ∀ k, k ≤ L.length → 0 < L.length → (boxTill L k).2.1 ≤ 40 ∧ (boxTill L k).2.2 ≤ 40
  | 0, _, h0 => by
    have := okP_bounds (all_at hok h0)
    simp only [boxTill]; omega
  | k + 1, hk, h0 => by
    have := box_hi hok k (by omega) h0
    have := okP_bounds (all_at hok (show k < L.length by omega))
    simp only [boxTill, boxStep, maxI_eq]
    omega
theorem low_le {L : List Pt} {i : Nat} (hi : i < L.length) : (lowL L).1 ≤ (gt L i).1 ∧ (lowL L).2 ≤ (gt L i).2 := by
  have := box_le (L := L) L.length (Nat.le_refl _) i (.inl hi)
  exact ⟨this.1, this.2.1⟩

/-- The least corner of a moved box: the lesser numbers of its two moved ends. -/
theorem box_mot {m : Nat} (hm : m < 8) {L : List Pt} : ∀ k, k ≤ L.length → 0 < L.length →
    ((boxTill L k).1.1 ≤ (boxTill L k).2.1 ∧ (boxTill L k).1.2 ≤ (boxTill L k).2.2) ∧
    (boxTill (L.map (mot m)) k).1 = (minI (mot m (boxTill L k).1).1 (mot m (boxTill L k).2).1, minI (mot m (boxTill L k).1).2 (mot m (boxTill L k).2).2)
  | 0, _, h0 => by
    simp only [boxTill, gt_map h0]
    exact ⟨⟨Int.le_refl _, Int.le_refl _⟩, by simp [minI]⟩
  | k + 1, hk, h0 => by
    obtain ⟨⟨h1, h2⟩, h3⟩ := box_mot hm k (by omega) h0
    simp only [boxTill, boxStep, gt_map (show k < L.length by omega), h3]
    clear h3
    generalize boxTill L k = B at *
    generalize gt L k = q at *
    refine ⟨⟨by simp only [minI_eq, maxI_eq]; omega, by simp only [minI_eq, maxI_eq]; omega⟩, ?_⟩
    match m, hm with
    | 0, _ => simp only [mot, minI_eq, maxI_eq]; exact Prod.ext (by simp only; omega) (by simp only; omega)
    | 1, _ => simp only [mot, minI_eq, maxI_eq]; exact Prod.ext (by simp only; omega) (by simp only; omega)
    | 2, _ => simp only [mot, minI_eq, maxI_eq]; exact Prod.ext (by simp only; omega) (by simp only; omega)
    | 3, _ => simp only [mot, minI_eq, maxI_eq]; exact Prod.ext (by simp only; omega) (by simp only; omega)
    | 4, _ => simp only [mot, minI_eq, maxI_eq]; exact Prod.ext (by simp only; omega) (by simp only; omega)
    | 5, _ => simp only [mot, minI_eq, maxI_eq]; exact Prod.ext (by simp only; omega) (by simp only; omega)
    | 6, _ => simp only [mot, minI_eq, maxI_eq]; exact Prod.ext (by simp only; omega) (by simp only; omega)
    | 7, _ => simp only [mot, minI_eq, maxI_eq]; exact Prod.ext (by simp only; omega) (by simp only; omega)
    | j + 8, h => omega
theorem low_mot {m : Nat} (hm : m < 8) {L : List Pt} (h0 : 0 < L.length) :
    lowL (L.map (mot m)) = (minI (mot m (boxTill L L.length).1).1 (mot m (boxTill L L.length).2).1, minI (mot m (boxTill L L.length).1).2 (mot m (boxTill L L.length).2).2) := by
  have := (box_mot hm L.length (Nat.le_refl _) h0).2
  unfold lowL
  rw [List.length_map]
  exact this

/-! ### isometries -/
structure Iso (f : Pt → Pt) : Prop where
  inj : ∀ a b, f a = f b → a = b
  cr : (∀ a b c, crossP (f a) (f b) (f c) = crossP a b c) ∨ (∀ a b c, crossP (f a) (f b) (f c) = -crossP a b c)
  on : ∀ a b c, onP (f a) (f b) (f c) = onP a b c
theorem iso_of {f : Pt → Pt} (inj : ∀ a b, f a = f b → a = b)
    (cr : (∀ a b c, crossP (f a) (f b) (f c) = crossP a b c) ∨ (∀ a b c, crossP (f a) (f b) (f c) = -crossP a b c))
    (bx : ∀ a b c : Pt, (bt a.1 b.1 c.1 ∧ bt a.2 b.2 c.2) ↔ (bt (f a).1 (f b).1 (f c).1 ∧ bt (f a).2 (f b).2 (f c).2)) : Iso f where
  inj := inj
  cr := cr
  on a b c := by
    rw [Bool.eq_iff_iff, onP_iff, onP_iff, ← bx]
    have : crossP (f a) (f b) (f c) = 0 ↔ crossP a b c = 0 := by
      rcases cr with h | h
      · rw [h]
      · rw [h]; omega
    rw [this]
theorem iso_dn (b : Pt) : Iso (dn b) :=
  iso_of (fun p q h => by simp only [dn, Prod.mk.injEq] at h; exact Prod.ext (by omega) (by omega))
    (.inl fun p q r => by unfold crossP crossI dn; grind)
    (fun p q r => by unfold bt dn; simp only; omega)
theorem iso_mot {m : Nat} (hm : m < 8) : Iso (mot m) := by
  have ax : ∀ p q : Pt, p.1 = q.1 → p.2 = q.2 → p = q := fun p q h1 h2 => Prod.ext h1 h2
  match m, hm with
  | 0, _ => exact iso_of (fun p q h => h) (.inl fun _ _ _ => rfl) (fun _ _ _ => Iff.rfl)
  | 1, _ => exact iso_of (fun p q h => by simp only [mot, Prod.mk.injEq] at h; exact ax _ _ (by omega) (by omega)) (.inl fun p q r => by unfold crossP crossI mot; grind) (fun p q r => by unfold bt mot; simp only; omega)
  | 2, _ => exact iso_of (fun p q h => by simp only [mot, Prod.mk.injEq] at h; exact ax _ _ (by omega) (by omega)) (.inl fun p q r => by unfold crossP crossI mot; grind) (fun p q r => by unfold bt mot; simp only; omega)
  | 3, _ => exact iso_of (fun p q h => by simp only [mot, Prod.mk.injEq] at h; exact ax _ _ (by omega) (by omega)) (.inl fun p q r => by unfold crossP crossI mot; grind) (fun p q r => by unfold bt mot; simp only; omega)
  | 4, _ => exact iso_of (fun p q h => by simp only [mot, Prod.mk.injEq] at h; exact ax _ _ (by omega) (by omega)) (.inr fun p q r => by unfold crossP crossI mot; grind) (fun p q r => by unfold bt mot; simp only; omega)
  | 5, _ => exact iso_of (fun p q h => by simp only [mot, Prod.mk.injEq] at h; exact ax _ _ (by omega) (by omega)) (.inr fun p q r => by unfold crossP crossI mot; grind) (fun p q r => by unfold bt mot; simp only; omega)
  | 6, _ => exact iso_of (fun p q h => by simp only [mot, Prod.mk.injEq] at h; exact ax _ _ (by omega) (by omega)) (.inr fun p q r => by unfold crossP crossI mot; grind) (fun p q r => by unfold bt mot; simp only; omega)
  | 7, _ => exact iso_of (fun p q h => by simp only [mot, Prod.mk.injEq] at h; exact ax _ _ (by omega) (by omega)) (.inr fun p q r => by unfold crossP crossI mot; grind) (fun p q r => by unfold bt mot; simp only; omega)
  | k + 8, h => omega
theorem Iso.opp {f : Pt → Pt} (h : Iso f) (a b c d : Pt) : opp (f a) (f b) (f c) (f d) = opp a b c d := by
  rw [Bool.eq_iff_iff, opp_iff, opp_iff]
  rcases h.cr with e | e
  · rw [e, e]
  · rw [e, e]; omega
theorem Iso.meet {f : Pt → Pt} (h : Iso f) (a b c d : Pt) : meetI (f a) (f b) (f c) (f d) = 0 ↔ meetI a b c d = 0 := by
  rw [meet_zero, meet_zero, h.opp, h.opp, h.on, h.on, h.on, h.on]
theorem sides_map {f : Pt → Pt} (L : List Pt) : sidesL (L.map f) = (sidesL L).map fun s => (f s.1, f s.2) := by
  rw [sides_eq, sides_eq, List.length_map, List.map_map]
  refine List.map_congr_left fun i hi => ?_
  rw [List.mem_range] at hi
  have hn : nx (L.map f) i = nx L i := by simp [nx]
  have hl : nx L i < L.length := Nat.mod_lt _ (by omega)
  rw [hn, gt_map hi, gt_map hl]
  rfl
theorem good_map {f : Pt → Pt} (h : Iso f) {L : List Pt} (g : Good L) (hok : allOk (L.map f) = true) : Good (L.map f) := by
  obtain ⟨hl, _, hnd, hs⟩ := g
  refine ⟨by rw [List.length_map]; exact hl, hok, ?_, ?_⟩
  · rw [nodup_iff] at hnd ⊢
    intro i k hik hk
    rw [List.length_map] at hk
    rw [gt_map (by omega), gt_map hk]
    exact fun e => hnd i k hik hk (h.inj _ _ e)
  · rw [sides_map]
    intro s hsm t htm hne
    obtain ⟨s', hs', rfl⟩ := List.mem_map.1 hsm
    obtain ⟨t', ht', rfl⟩ := List.mem_map.1 htm
    have hne' : s' ≠ t' := fun e => hne (by rw [e])
    obtain ⟨h1, h2⟩ := hs s' hs' t' ht' hne'
    refine ⟨fun e => ?_, fun e1 e2 => ?_⟩
    · have := h1 (h.inj _ _ e)
      simp only [h.on]
      exact this
    · exact (h.meet _ _ _ _).2 (h2 (fun e => e1 (by rw [e])) (fun e => e2 (by rw [e])))
theorem map_ok {L : List Pt} (hok : allOk L = true) {m : Nat} (hm : m < 8) : allOk (moveL L m) = true := by
  simp only [allOk, List.all_eq_true]
  intro p hp
  obtain ⟨q, hq, rfl⟩ := List.mem_map.1 hp
  obtain ⟨k, hk, rfl⟩ := List.getElem_of_mem hq
  have hk' : k < L.length := by simpa using hk
  rw [← gt_at hk]
  have b1 := low_le hk
  have h0 : 0 < (L.map (mot m)).length := by omega
  obtain ⟨⟨i, hi, e1⟩, ⟨j, hj, e2⟩⟩ := box_at (L := L.map (mot m)) _ (Nat.le_refl _) h0
  have hi' : i < L.length := by simpa using hi
  have hj' : j < L.length := by simpa using hj
  change (lowL _).1 = _ at e1
  change (lowL _).2 = _ at e2
  have ok1 := okP_bounds (all_at hok hk')
  have ok2 := okP_bounds (all_at hok hi')
  have ok3 := okP_bounds (all_at hok hj')
  rw [gt_map hk'] at b1 ⊢
  rw [gt_map hi'] at e1
  rw [gt_map hj'] at e2
  generalize lowL (L.map (mot m)) = b at *
  generalize gt L k = p1 at *
  generalize gt L i = p2 at *
  generalize gt L j = p3 at *
  simp only [okP, Bool.and_eq_true, inB_spec, dn]
  clear hp hq hk hi hj h0
  match m, hm with
  | 0, _ => simp only [mot] at *; omega
  | 1, _ => simp only [mot] at *; omega
  | 2, _ => simp only [mot] at *; omega
  | 3, _ => simp only [mot] at *; omega
  | 4, _ => simp only [mot] at *; omega
  | 5, _ => simp only [mot] at *; omega
  | 6, _ => simp only [mot] at *; omega
  | 7, _ => simp only [mot] at *; omega
  | k + 8, h => omega
theorem iso_move {L : List Pt} {m : Nat} (hm : m < 8) : ∃ f, Iso f ∧ moveL L m = L.map f := by
  refine ⟨dn (lowL (L.map (mot m))) ∘ mot m, ?_, by simp [moveL, cornL]⟩
  have h1 := iso_dn (lowL (L.map (mot m)))
  have h2 := iso_mot hm
  refine ⟨fun a b h => h2.inj _ _ (h1.inj _ _ h), ?_, fun a b c => (h1.on _ _ _).trans (h2.on _ _ _)⟩
  rcases h1.cr with e1 | e1
  · rcases h2.cr with e2 | e2
    · exact .inl fun a b c => (e1 _ _ _).trans (e2 _ _ _)
    · exact .inr fun a b c => (e1 _ _ _).trans (e2 _ _ _)
  · rcases h2.cr with e2 | e2
    · exact .inr fun a b c => (e1 _ _ _).trans (by rw [e2])
    · exact .inl fun a b c => (e1 _ _ _).trans (by rw [e2, Int.neg_neg])
theorem good_move {L : List Pt} (g : Good L) {m : Nat} (hm : m < 8) : Good (moveL L m) := by
  obtain ⟨f, hf, e⟩ := iso_move (L := L) hm
  have ok := map_ok g.2.1 hm
  rw [e] at ok ⊢
  exact good_map hf g ok
theorem poly_move {L : List Pt} (h : polyB L = true) {m : Nat} (hm : m < 8) : polyB (moveL L m) = true := good_poly (good_move (poly_good h) hm)
end Go.Proofs.YtnkehfhedjdhaaaDoor

/-! MoveS -/
namespace Go.Proofs.YtnkehfhedjdhaaaDoor
open Go.RowKit

theorem map_step {f : Pt → Pt} {L : List Pt} {k : Nat} (h : k < L.length) : (L.take (k + 1)).map f = (L.take k).map f ++ [f (gt L k)] := by
  rw [List.take_succ_eq_append_getElem h, List.map_append, gt_at h]; rfl
theorem map_len {f : Pt → Pt} {L : List Pt} {k : Nat} (h : k ≤ L.length) : ((L.take k).map f).length = k := by simp; omega
def Bd (B : Int) (L : List Pt) : Prop := ∀ i, i < L.length → -B ≤ (gt L i).1 ∧ (gt L i).1 ≤ B ∧ -B ≤ (gt L i).2 ∧ (gt L i).2 ≤ B
theorem bd_low {B : Int} {L : List Pt} (h : Bd B L) (h0 : 0 < L.length) : ∀ k, k ≤ L.length → -B ≤ (boxTill L k).1.1 ∧ (boxTill L k).1.1 ≤ B ∧ -B ≤ (boxTill L k).1.2 ∧ (boxTill L k).1.2 ≤ B := fun k hk => by
  obtain ⟨⟨i, hi, e1⟩, ⟨j, hj, e2⟩⟩ := box_at (L := L) k hk h0
  have := h i hi
  have := h j hj
  omega
theorem bd_mot {L : List Pt} (hok : allOk L = true) {m : Nat} (hm : m < 8) : Bd 40 (L.map (mot m)) := fun i hi => by
  have hi' : i < L.length := by simpa using hi
  rw [gt_map hi']
  have := okP_bounds (all_at hok hi')
  exact mot_bd hm (by omega)

end Go.Proofs.YtnkehfhedjdhaaaDoor

/-! Float -/
namespace Go.Proofs.YtnkehfhedjdhaaaDoor
open Go.Sort Go.RowKit

/-- Nothing that was there has changed. -/
def Now (w w' : World) : Prop := Below w.heap.size w w'
theorem Calls.now {P : Program} {f : FuncId} {args : Array Value} {w : World} {v : Value} (h : Calls P f args w fun e w' => e = .returned v ∧ Below w.heap.size w w') : Calls P f args w fun e w' => e = .returned v ∧ Now w w' := h
def uponB (P : Program) (w : World) (v : Value) : Result Next → Prop
  | .ok (.value u) w' => w' = w ∧ u = v
  | .ok .skip w' => w' = w ∧ v = undef
  | .ok (.enter f args) w' => w' = w ∧ Calls P f args w fun e w'' => e = .returned v ∧ Now w w''
  | _ => False
def quietB (P : Program) (C : World → Prop) (o : Oper) (a : Act) (K : Act → Prop) : Prop := ∃ v, (∀ w, C w → uponB P w v ((execOp a.eval o).run P w)) ∧ K (a.put o.dst v)
def wpQuietB (P : Program) (ops : Array Oper) (C : World → Prop) (Q : Act → Prop) : List Oper → Act → Prop
  | [], a => Q a
  | o :: rest, a => if Region.wanted o (yielded ops a.tmps) = true then quietB P C o a (wpQuietB P ops C Q rest) else wpQuietB P ops C Q rest (a.put o.dst undef)

section
variable {P : Program} {ops : Array Oper} {md : Region.Mode} {C : World → Prop}

theorem quietB_mono {o : Oper} {a : Act} {K K' : Act → Prop} (h : ∀ a, K a → K' a) (hh : quietB P C o a K) : quietB P C o a K' :=
  let ⟨v, h1, h2⟩ := hh
  ⟨v, h1, h _ h2⟩
theorem wpQuietB_step {Q : Act → Prop} {a : Act} {o : Oper} {rest : List Oper}
    (h : ∀ K : Act → Prop, (∀ a, wpQuietB P ops C Q rest a → K a) → if Region.wanted o (yielded ops a.tmps) = true then quietB P C o a K else K (a.put o.dst undef)) : wpQuietB P ops C Q (o :: rest) a := by
  have := h (wpQuietB P ops C Q rest) (fun _ h => h)
  exact this
theorem wpQuietB_nil {Q : Act → Prop} {a : Act} (h : Q a) : wpQuietB P ops C Q [] a := h

/-- What an operation yields, in every world of the class. -/
def YieldsB (P : Program) (ops : Array Oper) (C : World → Prop) (o : Oper) (v : Value) (a : Act) : Prop :=
  (Region.wanted o (yielded ops a.tmps) = true ∧ ∀ w, C w → uponB P w v ((execOp a.eval o).run P w)) ∨ (Region.wanted o (yielded ops a.tmps) = false ∧ v = undef)
theorem YieldsB.of_same {o : Oper} {v : Value} {a a' : Act} (hy : YieldsB P ops C o v a) (he : execOp a'.eval o = execOp a.eval o)
    (hw : Region.wanted o (yielded ops a'.tmps) = Region.wanted o (yielded ops a.tmps)) : YieldsB P ops C o v a' := by
  unfold YieldsB at *
  rw [he, hw]; exact hy
theorem YieldsB.put {o : Oper} {v : Value} {a : Act} (hy : YieldsB P ops C o v a) (hs : ∀ cs b, o.op ≠ .select cs b) {d : Option Tmp} {u : Value} (h : ∀ e, d = some e → e ∉ o.looksAt ops) : YieldsB P ops C o v (a.put d u) :=
  hy.of_same (execOp_put o hs a d u h) (wanted_put o a d u h)
/-- One operation, by what it yields. -/
def opB (P : Program) (ops : Array Oper) (C : World → Prop) (i : Nat) (K : Act → Prop) (a : Act) : Prop := ∃ o v, ops[i]? = some o ∧ YieldsB P ops C o v a ∧ K (a.put o.dst v)

theorem wpOp_of_opB {i : Nat} {a : Act} {K : Act → Prop} {K' : Act → World → Prop} {Q' : Exit → Act → World → Prop} {w : World} (hC : C w)
    (h : ∀ a w', Below w.heap.size w w' → K a → K' a w') (hh : opB P ops C i K a) : wpOp P ops Q' i K' a w := by
  obtain ⟨o, v, ho, hy, hK⟩ := hh
  unfold wpOp
  simp only [ho]
  rcases hy with ⟨hw, h1⟩ | ⟨hw, rfl⟩
  · rw [if_pos hw]
    left
    have h3 := h1 w hC
    unfold Oper.wp
    generalize (execOp a.eval o).run P w = r at *
    cases r with
    | ok nx w' =>
      cases nx <;> simp only [uponB] at h3 <;> simp only [Oper.upon]
      case value u =>
        obtain ⟨e1, e2⟩ := h3
        rw [e1, e2]
        exact h _ _ (Below.refl _ _) hK
      case skip =>
        obtain ⟨e1, e2⟩ := h3
        rw [e1, ← e2]
        exact h _ _ (Below.refl _ _) hK
      case enter f args =>
        obtain ⟨e1, hc⟩ := h3
        rw [e1]
        exact hc.mono fun e w'' ⟨he, hw''⟩ => by subst he; exact h _ _ hw'' hK
    | halt x w' => simp only [uponB] at h3
  · rw [if_neg (by rw [hw]; exact Bool.false_ne_true)]
    exact h _ _ (Below.refl _ _) hK

def upd (G : Nat → Nat) (i g : Nat) : Nat → Nat := fun k => if k = i then g else G k
theorem upd_comm (G : Nat → Nat) {i j : Nat} (g h : Nat) (hne : i ≠ j) : upd (upd G i g) j h = upd (upd G j h) i g := by
  funext k
  unfold upd
  by_cases h1 : k = i
  · subst h1
    rw [if_neg hne, if_pos rfl, if_pos rfl]
  · by_cases h2 : k = j
    · subst h2
      rw [if_pos rfl, if_neg h1, if_pos rfl]
    · rw [if_neg h2, if_neg h1, if_neg h1, if_neg h2]
abbrev ptrV (g : Nat) : Value := .pointer (some ⟨g, 0, none⟩)
def dstOf (ops : Array Oper) (i : Nat) : Option Tmp := (ops[i]?).bind (·.dst)

/-- Every order of the head and of the floats; L behind them. -/
def wpX (P : Program) (md : Region.Mode) (ops : Array Oper) (C : World → Prop) (m q : Nat) (L : Array Bool → Act → (Nat → Nat) → Prop) : Nat → Array Bool → Act → (Nat → Nat) → Prop
  | 0, listed, a, G => L listed a G
  | f + 1, listed, a, G => Region.ready md ops listed ≠ [] ∧ ∀ i ∈ Region.ready md ops listed, i < q ∧
      (i < m → opB P ops C i (fun a' => wpX P md ops C m q L f (listed.setIfInBounds i true) a' G) a) ∧
      (m ≤ i → ∀ g, wpX P md ops C m q L f (listed.setIfInBounds i true) (a.put (dstOf ops i) (ptrV g)) (upd G i g))

structure Floats (P : Program) (md : Region.Mode) (ops : Array Oper) (m q : Nat) (obj : Nat → Obj) : Prop where
  op : ∀ i, m ≤ i → i < q → ∃ o, ops[i]? = some o ∧ o.guard = none ∧ (∀ e ∈ o.after, Region.binds md e = false) ∧ (∀ a w, (execOp (Act.eval a) o).run P w = .ok (.value (ptrV w.heap.size)) (w.alloc (obj i)))
  ne : ∀ i j, m ≤ i → i < q → m ≤ j → j < q → i ≠ j → ∀ d, dstOf ops i = some d → dstOf ops j ≠ some d

def Fresh (base m q : Nat) (obj : Nat → Obj) (listed : Array Bool) (G : Nat → Nat) (w : World) : Prop :=
  ∀ i, m ≤ i → i < q → listed.getD i false = true → base ≤ G i ∧ w.heap[G i]? = some (obj i) ∧ ∀ j, m ≤ j → j < q → listed.getD j false = true → j ≠ i → G j ≠ G i
theorem Fresh.lt {base m q : Nat} {obj : Nat → Obj} {listed : Array Bool} {G : Nat → Nat} {w : World} (h : Fresh base m q obj listed G w) {i : Nat} (h1 : m ≤ i) (h2 : i < q) (h3 : listed.getD i false = true) : G i < w.heap.size :=
  (Array.getElem?_eq_some_iff.1 (h i h1 h2 h3).2.1).1
theorem Fresh.step {base m q : Nat} {obj : Nat → Obj} {listed : Array Bool} {G : Nat → Nat} {w w' : World} (h : Fresh base m q obj listed G w) (hb : Below w.heap.size w w') : Fresh base m q obj listed G w' :=
  fun i h1 h2 h3 => ⟨(h i h1 h2 h3).1, (hb.block _ (h.lt h1 h2 h3)).trans (h i h1 h2 h3).2.1, (h i h1 h2 h3).2.2⟩
theorem Fresh.head {base m q : Nat} {obj : Nat → Obj} {listed : Array Bool} {G : Nat → Nat} {w : World} (h : Fresh base m q obj listed G w) {k : Nat} (hk : k < m) : Fresh base m q obj (listed.setIfInBounds k true) G w :=
  fun i h1 h2 h3 => by
    rw [getD_set_ne false (by omega)] at h3
    refine ⟨(h i h1 h2 h3).1, (h i h1 h2 h3).2.1, fun j h4 h5 h6 => ?_⟩
    rw [getD_set_ne false (by omega)] at h6
    exact (h i h1 h2 h3).2.2 j h4 h5 h6
theorem Fresh.float {base m q : Nat} {obj : Nat → Obj} {listed : Array Bool} {G : Nat → Nat} {w : World} (h : Fresh base m q obj listed G w) (hb : base ≤ w.heap.size) (k : Nat) : Fresh base m q obj (listed.setIfInBounds k true) (upd G k w.heap.size) (w.alloc (obj k)) := by
  intro i h1 h2 h3
  by_cases hik : i = k
  · subst hik
    have e : upd G i w.heap.size i = w.heap.size := by simp [upd]
    refine ⟨by rw [e]; exact hb, by rw [e]; exact heap_alloc_new w _, fun j h4 h5 h6 h7 => ?_⟩
    rw [getD_set_ne false (Ne.symm h7)] at h6
    have := h.lt h4 h5 h6
    rw [e]
    simp only [upd, if_neg h7]
    omega
  · rw [getD_set_ne false (Ne.symm hik)] at h3
    have e : upd G k w.heap.size i = G i := by simp [upd, hik]
    have hl := h.lt h1 h2 h3
    refine ⟨by rw [e]; exact (h i h1 h2 h3).1, by rw [e]; exact (Below.heap_alloc w _ _ hl).trans (h i h1 h2 h3).2.1, fun j h4 h5 h6 h7 => ?_⟩
    rw [e]
    by_cases hjk : j = k
    · subst hjk
      simp only [upd, if_true]; omega
    · rw [getD_set_ne false (Ne.symm hjk)] at h6
      simp only [upd, if_neg hjk]
      exact (h i h1 h2 h3).2.2 j h4 h5 h6 h7

theorem wpAny_of_X {m q g base : Nat} {obj : Nat → Obj} {L : Array Bool → Act → (Nat → Nat) → Prop} {Q' : Exit → Act → World → Prop} (hF : Floats P md ops m q obj) (hCB : ∀ w w', C w → Below w.heap.size w w' → C w') (hbase : ∀ w, C w → base ≤ w.heap.size)
    (hL : ∀ listed a G w, C w → Fresh base m q obj listed G w → L listed a G → wpAny P md ops Q' g listed a w) :
    ∀ (f : Nat) (listed : Array Bool) (a : Act) (G : Nat → Nat) (w : World), C w → Fresh base m q obj listed G w → wpX P md ops C m q L f listed a G → wpAny P md ops Q' (f + g) listed a w
  | 0, listed, a, G, w, hw, hf, h => by rw [Nat.zero_add]; exact hL _ _ _ _ hw hf h
  | f + 1, listed, a, G, w, hw, hf, h => by
    rw [show f + 1 + g = (f + g) + 1 by omega]
    refine ⟨fun h0 => absurd h0 h.1, fun i hi => ?_⟩
    obtain ⟨hq, h1, h2⟩ := h.2 i hi
    rcases Nat.lt_or_ge i m with him | him
    · exact wpOp_of_opB hw (fun a' w' hb h' => wpAny_of_X hF hCB hbase hL f _ a' G w' (hCB _ _ hw hb) ((hf.head him).step hb) h') (h1 him)
    · obtain ⟨o, ho, hg, _, hr⟩ := hF.op i him hq
      unfold wpOp
      simp only [ho]
      have hwant : Region.wanted o (yielded ops a.tmps) = true := by simp [Region.wanted, hg]
      rw [if_pos hwant]
      left
      unfold Oper.wp
      rw [hr]
      simp only [Oper.upon]
      have hd : dstOf ops i = o.dst := by simp [dstOf, ho]
      have := h2 him w.heap.size
      rw [hd] at this
      exact wpAny_of_X hF hCB hbase hL f _ _ _ _ (hCB _ _ hw (Below.alloc (Below.refl _ _) (Nat.le_refl _) _)) (hf.float (hbase w hw) i) this

/-- While an operation ahead of q is not yet carried out, none behind it is ready ('pre': carried out from the start). -/
def TW (md : Region.Mode) (ops : Array Oper) (q : Nat) (pre : Nat → Bool) : Prop :=
  ∀ listed, HeadInv md ops q listed → (∀ i, pre i = true → listed.getD i false = true) → ∀ i, i < q → listed.getD i true = false → ∀ t, q ≤ t → t ∉ Region.ready md ops listed
theorem tw_none {q : Nat} (hs : Region.sinkB md ops q = true) (hc : Region.chainB md ops q = true) (hn : q < ops.size) : TW md ops q (fun _ => false) :=
  fun _ inv _ i hi hun t ht => tail_waits hs hc hn inv _ i rfl hi hun t ht
theorem wpX_first {m q i : Nat} {oi : Oper} {v : Value} {L : Array Bool → Act → (Nat → Nat) → Prop} (hi : ops[i]? = some oi) (hsel : ∀ (j : Nat) (o : Oper) cs b, ops[j]? = some o → o.op ≠ .select cs b)
    {pre : Nat → Bool} (htw : TW md ops q pre) (hmq : m ≤ q) (hin : i < m)
    (hdone : ∀ listed a G, L listed a G → ∀ j ∈ Region.ready md ops listed, q ≤ j) :
    ∀ (f : Nat) (listed : Array Bool) (a : Act) (G : Nat → Nat), HeadInv md ops q listed → (∀ k, pre k = true → listed.getD k false = true) →
      (∀ j oj, ops[j]? = some oj → j ≠ i → listed.getD j true = false → (∀ e ∈ oj.after, Region.binds md e = true → e.on ≠ i) → oi.apart ops oj = true) →
      i ∈ Region.ready md ops listed → YieldsB P ops C oi v a →
      wpX P md ops C m q L f (listed.setIfInBounds i true) (a.put oi.dst v) G → wpX P md ops C m q L (f + 1) listed a G := by
  intro f
  induction f with
  | zero =>
    intro listed a G inv hpre _ hr hy H
    have hun := (mem_ready.1 hr).1
    refine ⟨fun h => (by rw [h] at hr; cases hr), fun j hj => ?_⟩
    have hjn : j < q := by
      rcases Nat.lt_or_ge j q with h | h
      · exact h
      · exact absurd hj (htw listed inv hpre i (by omega) hun j h)
    by_cases hji : j = i
    · subst hji
      exact ⟨hjn, fun _ => ⟨oi, v, hi, hy, H⟩, fun h => by omega⟩
    · have := hdone _ _ _ H j (ready_mono hj hji)
      omega
  | succ f ih =>
    intro listed a G inv hpre hfree hr hy H
    have hun := (mem_ready.1 hr).1
    refine ⟨fun h => (by rw [h] at hr; cases hr), fun j hj => ?_⟩
    have hjn : j < q := by
      rcases Nat.lt_or_ge j q with h | h
      · exact h
      · exact absurd hj (htw listed inv hpre i (by omega) hun j h)
    refine ⟨hjn, ?_⟩
    by_cases hji : j = i
    · subst hji
      exact ⟨fun _ => ⟨oi, v, hi, hy, H⟩, fun h => by omega⟩
    · obtain ⟨_, h1, h2⟩ := H.2 j (ready_mono hj hji)
      obtain ⟨hjun, oj, hoj, hall⟩ := mem_ready.1 hj
      have hnot : ∀ e ∈ oj.after, Region.binds md e = true → e.on ≠ i := fun e he hb heq => by
        have h1 := hall e he hb
        rw [heq, getD_both hun] at h1
        cases h1
      obtain ⟨p1, p2, p3⟩ := Oper.apart_spec (hfree j oj hoj hji hjun hnot)
      have hfree' : ∀ k ok, ops[k]? = some ok → k ≠ i → (listed.setIfInBounds j true).getD k true = false →
          (∀ e ∈ ok.after, Region.binds md e = true → e.on ≠ i) → oi.apart ops ok = true := fun k ok hk hki hun hno => by
        refine hfree k ok hk hki ?_ hno
        by_cases hjk : j = k
        · subst hjk; exact hjun
        · rw [getD_set_ne true hjk] at hun; exact hun
      have hsi := fun cs b => hsel i oi cs b hi
      have hsj := fun cs b => hsel j oj cs b hoj
      refine ⟨fun hjm => ?_, fun hjm g => ?_⟩
      · obtain ⟨o', u, ho', hy', hK⟩ := h1 hjm
        obtain rfl : o' = oj := Option.some.inj (ho'.symm.trans hoj)
        refine ⟨o', u, hoj, ?_, ?_⟩
        · exact hy'.of_same (execOp_put o' hsj a oi.dst v p1).symm (wanted_put o' a oi.dst v p1).symm
        · refine ih (listed.setIfInBounds j true) _ G (inv.set hj hjn) (fun k hk => getD_set_true (hpre k hk)) hfree' (ready_mono hr (Ne.symm hji)) (hy.put hsi p3) ?_
          rw [Array.setIfInBounds_comm _ _ hji, ← Act.put_comm a v u p2]
          exact hK
      · have hd : dstOf ops j = oj.dst := by simp [dstOf, hoj]
        have h3 := h2 hjm g
        rw [hd] at h3 ⊢
        refine ih (listed.setIfInBounds j true) _ _ (inv.set hj hjn) (fun k hk => getD_set_true (hpre k hk)) hfree' (ready_mono hr (Ne.symm hji)) (hy.put hsi p3) ?_
        rw [Array.setIfInBounds_comm _ _ hji, ← Act.put_comm a v (ptrV g) p2]
        exact h3

theorem wpX_float {m q i : Nat} {obj : Nat → Obj} {L : Array Bool → Act → (Nat → Nat) → Prop} (hF : Floats P md ops m q obj)
    {pre : Nat → Bool} (htw : TW md ops q pre) (him : m ≤ i) (hin : i < q)
    (hdone : ∀ listed a G, L listed a G → ∀ j ∈ Region.ready md ops listed, q ≤ j) :
    ∀ (f : Nat) (listed : Array Bool) (a : Act) (G : Nat → Nat), HeadInv md ops q listed → (∀ k, pre k = true → listed.getD k false = true) → (∀ j, j < m → listed.getD j false = true) → listed.getD i true = false →
      (∀ g, wpX P md ops C m q L f (listed.setIfInBounds i true) (a.put (dstOf ops i) (ptrV g)) (upd G i g)) → wpX P md ops C m q L (f + 1) listed a G := by
  obtain ⟨oi, hoi, _, hdep, _⟩ := hF.op i him hin
  have rdy : ∀ listed : Array Bool, listed.getD i true = false → i ∈ Region.ready md ops listed := fun listed h => mem_ready.2 ⟨h, oi, hoi, fun e he hb => by rw [hdep e he] at hb; cases hb⟩
  intro f
  induction f with
  | zero =>
    intro listed a G inv hpre hh hun H
    have hr := rdy listed hun
    refine ⟨fun h => (by rw [h] at hr; cases hr), fun j hj => ?_⟩
    have hjn : j < q := by
      rcases Nat.lt_or_ge j q with h | h
      · exact h
      · exact absurd hj (htw listed inv hpre i hin hun j h)
    by_cases hji : j = i
    · subst hji
      exact ⟨hjn, fun h => by omega, fun _ g => H g⟩
    · have := hdone _ _ _ (H 0) j (ready_mono hj hji)
      omega
  | succ f ih =>
    intro listed a G inv hpre hh hun H
    have hr := rdy listed hun
    refine ⟨fun h => (by rw [h] at hr; cases hr), fun j hj => ?_⟩
    have hjn : j < q := by
      rcases Nat.lt_or_ge j q with h | h
      · exact h
      · exact absurd hj (htw listed inv hpre i hin hun j h)
    refine ⟨hjn, ?_⟩
    by_cases hji : j = i
    · subst hji
      exact ⟨fun h => by omega, fun _ g => H g⟩
    · have hjm : m ≤ j := by
        rcases Nat.lt_or_ge j m with h | h
        · have h1 := (mem_ready.1 hj).1
          have := hh j h
          rw [getD_both h1] at this
          cases this
        · exact h
      refine ⟨fun h => by omega, fun _ gj => ?_⟩
      refine ih _ _ _ (inv.set hj hjn) (fun k hk => getD_set_true (hpre k hk)) (fun k hk => getD_set_true (hh k hk)) (by rw [getD_set_ne true hji]; exact hun) fun gi => ?_
      have h2 := ((H gi).2 j (ready_mono hj hji)).2.2 hjm gj
      rw [Array.setIfInBounds_comm _ _ hji, upd_comm G gj gi hji, Act.put_comm a (ptrV gj) (ptrV gi) (hF.ne j i hjm hjn him hin hji)]
      exact h2

def lexHeadX (md : Region.Mode) (ops : Array Oper) (fin : Array Bool → Bool) : Nat → Nat → Array Bool → Bool
  | 0, _, listed => fin listed
  | f + 1, k, listed => (Region.ready md ops listed).contains k && Region.free md ops listed k && lexHeadX md ops fin f (k + 1) (listed.setIfInBounds k true)

theorem opB_of_quietB {Q : Act → Prop} {i : Nat} {a : Act} {o : Oper} {rest : List Oper} (hi : ops[i]? = some o) (h : wpQuietB P ops C Q (o :: rest) a) : opB P ops C i (wpQuietB P ops C Q rest) a := by
  unfold wpQuietB at h
  cases hw : Region.wanted o (yielded ops a.tmps)
  · rw [hw] at h
    exact ⟨o, undef, hi, .inr ⟨hw, rfl⟩, by simpa using h⟩
  · rw [hw] at h
    simp only [if_true] at h
    obtain ⟨v, hv, hK⟩ := h
    exact ⟨o, v, hi, .inl ⟨hw, hv⟩, hK⟩
theorem wpX_lex {m q r : Nat} {fin : Array Bool → Bool} {L : Array Bool → Act → (Nat → Nat) → Prop} {Lq : Act → Prop} (hsel : Region.noSelect ops = true) {pre : Nat → Bool} (htw : TW md ops q pre) (hn : q < ops.size) (hmq : m ≤ q)
    (hdone : ∀ listed a G, L listed a G → ∀ j ∈ Region.ready md ops listed, q ≤ j)
    (hfin : ∀ listed a G, HeadInv md ops q listed → (∀ k, pre k = true → listed.getD k false = true) → (∀ j, j < m → listed.getD j false = true) → (∀ j, m ≤ j → j < q → listed.getD j true = false) → fin listed = true → Lq a → wpX P md ops C m q L r listed a G) :
    ∀ (l : List Oper) (k : Nat) (listed : Array Bool) (a : Act) (G : Nat → Nat), (∀ j, j < l.length → l[j]? = ops[k + j]?) → k + l.length = m → HeadInv md ops q listed → (∀ k, pre k = true → listed.getD k false = true) →
    (∀ j, j < k → listed.getD j false = true) → (∀ j, m ≤ j → j < q → listed.getD j true = false) →
    lexHeadX md ops fin l.length k listed = true → wpQuietB P ops C Lq l a → wpX P md ops C m q L (l.length + r) listed a G
  | [], k, listed, a, G, _, hk, inv, hpre, hh, hf, hB, h => by
    have : k = m := by simpa using hk
    subst this
    rw [List.length_nil, Nat.zero_add]
    exact hfin _ _ _ inv hpre hh hf (by simpa [lexHeadX] using hB) h
  | o :: l, k, listed, a, G, hl, hk, inv, hpre, hh, hf, hB, h => by
    have h0 : ops[k]? = some o := by simpa using (hl 0 (by simp)).symm
    simp only [List.length_cons, lexHeadX, Bool.and_eq_true] at hB
    obtain ⟨⟨hr, hfr⟩, hB'⟩ := hB
    have hkn : k < m := by simp only [List.length_cons] at hk; omega
    have hr' : k ∈ Region.ready md ops listed := by simpa using hr
    obtain ⟨o', v, ho', hy, hK⟩ := opB_of_quietB h0 h
    obtain rfl : o' = o := Option.some.inj (ho'.symm.trans h0)
    rw [List.length_cons, show l.length + 1 + r = (l.length + r) + 1 by omega]
    refine wpX_first h0 (Region.noSelect_spec hsel) htw hmq hkn hdone _ listed a G inv hpre (Region.free_spec h0 hfr) hr' hy ?_
    refine wpX_lex hsel htw hn hmq hdone hfin l (k + 1) _ _ _ (fun j hj => by have := hl (j + 1) (by simp; omega); simpa [Nat.add_assoc, Nat.add_comm 1 j] using this) (by simp only [List.length_cons] at hk; omega) (inv.set hr' (by omega)) (fun k hk => getD_set_true (hpre k hk)) ?_ ?_ hB' hK
    · intro j hj
      by_cases hjk : j = k
      · subst hjk
        have hlt : j < listed.size := by rw [inv.size]; exact (Array.getElem?_eq_some_iff.1 h0).1
        simp [hlt]
      · exact getD_set_true (hh j (by omega))
    · intro j h1 h2
      rw [getD_set_ne true (by omega)]; exact hf j h1 h2

/-- No operation waits for a float but behind q, and floats wait for nothing. -/
def floatOp (md : Region.Mode) (o : Oper) : Bool := o.guard.isNone && o.after.all (fun e => !Region.binds md e) && o.dst.isSome
def float1B (md : Region.Mode) (ops : Array Oper) (m : Nat) : Bool :=
  Region.noSelect ops && decide (m + 1 < ops.size) && Region.sinkB md ops (m + 1) && Region.chainB md ops (m + 1) && (ops[m]?).any (floatOp md)
    && lexHeadX md ops (fun listed => Region.seqB md ops (ops.size - (m + 1)) (m + 1) (listed.setIfInBounds m true)) m 0 (Array.replicate ops.size false)
def float2B (md : Region.Mode) (ops : Array Oper) (m : Nat) : Bool :=
  Region.noSelect ops && decide (m + 2 < ops.size) && Region.sinkB md ops (m + 2) && Region.chainB md ops (m + 2) && (ops[m]?).any (floatOp md) && (ops[m + 1]?).any (floatOp md) && dstOf ops m != dstOf ops (m + 1)
    && lexHeadX md ops (fun listed => Region.seqB md ops (ops.size - (m + 2)) (m + 2) ((listed.setIfInBounds m true).setIfInBounds (m + 1) true)) m 0 (Array.replicate ops.size false)
theorem floatOp_spec {o : Oper} (h : floatOp md o = true) : o.guard = none ∧ (∀ e ∈ o.after, Region.binds md e = false) ∧ o.dst.isSome = true := by
  simp only [floatOp, Bool.and_eq_true, Option.isNone_iff_eq_none] at h
  refine ⟨h.1.1, fun e he => ?_, h.2⟩
  have := Array.all_eq_true'.1 h.1.2 e he
  simpa using this
theorem below_class {w w1 w2 : World} (h : ∃ p : Regrown, w1 = grow (redrawn w p.d) p.os) (hb : Below w1.heap.size w1 w2) : ∃ p : Regrown, w2 = grow (redrawn w p.d) p.os := by
  obtain ⟨p, rfl⟩ := h
  exact regrown_of_below ((below_regrown w p.d p.os).trans (hb.mono (below_regrown w p.d p.os).size))
theorem any_some {o : Option Oper} {p : Oper → Bool} (h : o.any p = true) : ∃ x, o = some x ∧ p x = true := by
  cases o with
  | none => cases h
  | some x => exact ⟨x, rfl, h⟩

def allocAtB (ops : Array Oper) (i : Nat) (T : TypeId) : Bool := (ops[i]?).any fun o => match o.op with
  | .alloc t => t == T
  | _ => false
theorem alloc_run {i : Nat} {T : TypeId} {ob : Obj} (h : allocAtB ops i T = true) (hz : ∀ w, (Instr.alloc T true (.tuple #[])).run P w = .ok (ptrV w.heap.size) (w.alloc ob)) :
    ∀ o, ops[i]? = some o → ∀ a w, (execOp (Act.eval a) o).run P w = .ok (.value (ptrV w.heap.size)) (w.alloc ob) := by
  intro o ho a w
  obtain ⟨o', ho', hb⟩ := any_some h
  obtain rfl : o' = o := Option.some.inj (ho'.symm.trans ho)
  have hop : o'.op = .alloc T := by
    revert hb
    cases o'.op <;> simp
  unfold execOp
  simp only [hop, Sem.run_bind, hz, Result.andThen, Sem.run_pure]
/-- **A head of m operations, an alloc at any time, a tail.** -/
theorem region_float1 {id : Nat} {Q : Exit → Act → World → Prop} {a : Act} {w : World} {l : List Oper} (m : Nat) (ob : Obj) (s : Tmp) (hsl : dstOf l.toArray m = some s) (hm : P.follows .mixedOrders = true) (hB : float1B .any l.toArray m = true)
    (hal : ∀ o, l.toArray[m]? = some o → ∀ a w, (execOp (Act.eval a) o).run P w = .ok (.value (ptrV w.heap.size)) (w.alloc ob))
    (h : wpQuietB P l.toArray (fun w' => ∃ p : Regrown, w' = grow (redrawn w p.d) p.os) (fun a' => ∀ g w', Below w.heap.size w w' → w.heap.size ≤ g → w'.heap[g]? = some ob → wpList P l.toArray Q (l.drop (m + 1)) (a'.put (some s) (ptrV g)) w') (l.take m) a) :
    (Code.region id l.toArray true).wp P Q a w := by
  simp only [float1B, Bool.and_eq_true, decide_eq_true_eq] at hB
  obtain ⟨⟨⟨⟨⟨hsel, hn⟩, hs⟩, hc⟩, hfl⟩, hlex⟩ := hB
  obtain ⟨o1, ho1, hf1⟩ := any_some hfl
  obtain ⟨g1, g2, g3⟩ := floatOp_spec hf1
  have hF : Floats P .any l.toArray m (m + 1) (fun _ => ob) := ⟨fun i h1 h2 => by
      obtain rfl : i = m := by omega
      exact ⟨o1, ho1, g1, g2, fun a w => hal o1 ho1 a w⟩, fun i j h1 h2 h3 h4 h5 => by omega⟩
  have hn' : m + 1 < l.length := by simpa using hn
  have htl : (l.take m).length = m := by simp; omega
  have hdl : (l.drop (m + 1)).length = l.toArray.size - (m + 1) := by simp
  have inv0 : HeadInv .any l.toArray (m + 1) (Array.replicate l.toArray.size false) :=
    ⟨by simp, fun j oj _ hl => (by rw [getD_replicate_false] at hl; cases hl), fun t _ ht => getD_in (by simpa using ht) (getD_replicate_false _ _)⟩
  have hdone : ∀ (listed : Array Bool) (a : Act) (G : Nat → Nat), (Region.seqB .any l.toArray (l.toArray.size - (m + 1)) (m + 1) listed = true ∧ listed.getD m false = true ∧ ∀ w', Below w.heap.size w w' → w.heap.size ≤ G m → w'.heap[G m]? = some ob → wpList P l.toArray Q (l.drop (m + 1)) a w') → ∀ j ∈ Region.ready .any l.toArray listed, m + 1 ≤ j := fun listed a G h => seqB_ready h.1
  have H := wpX_lex (P := P) (C := fun w' => ∃ p : Regrown, w' = grow (redrawn w p.d) p.os) (md := .any) (m := m) (q := m + 1) (r := 1)
    (fin := fun listed => Region.seqB .any l.toArray (l.toArray.size - (m + 1)) (m + 1) (listed.setIfInBounds m true)) hsel (tw_none hs hc hn) hn (by omega) hdone
    (fun listed a G inv hpre hh hf hfin hLq => wpX_float hF (tw_none hs hc hn) (Nat.le_refl m) (by omega) hdone 0 listed a G inv hpre hh (hf m (Nat.le_refl _) (by omega)) fun g =>
      ⟨hfin, (by have hlt : m < listed.size := by rw [inv.size]; omega
                 simp [hlt]), fun w' hb h1 h2 => by
        have e : upd G m g m = g := by simp [upd]
        rw [e] at h1 h2
        rw [hsl]
        exact hLq g w' hb h1 h2⟩)
    (l.take m) 0 _ a (fun _ => 0) (fun j hj => by
      have hj' : j < m := by rw [htl] at hj; exact hj
      simp [hj']) (by simpa using htl) inv0 (fun _ h => by cases h) (fun j hj => by omega) (fun j h1 h2 => getD_in (by simp; omega) (getD_replicate_false _ _)) (by rw [htl]; exact hlex) h
  have hC : ∃ p : Regrown, ({ w with drawn := w.drawn + 1 } : World) = grow (redrawn w p.d) p.os := ⟨⟨w.drawn + 1, #[]⟩, by rw [grow_empty]; rfl⟩
  refine wp_region_any hm ?_
  have := wpAny_of_X (Q' := Q) (g := l.toArray.size - (m + 1)) (base := w.heap.size) hF (fun _ _ => below_class) (fun w' ⟨p, hp⟩ => by rw [hp]; exact (below_regrown w p.d p.os).size)
    (fun listed a' G w' hw' hfr hL => by
      have hb : Below w.heap.size w w' := by obtain ⟨p, hp⟩ := hw'; rw [hp]; exact below_regrown w p.d p.os
      have hf := hfr m (Nat.le_refl _) (by omega) hL.2.1
      have := wpAny_of_seq (md := .any) (Q' := Q) (l.drop (m + 1)) (m + 1) listed a' w' (fun j => by simp [List.getElem?_drop]) (by rw [hdl]; exact hL.1) (hL.2.2 w' hb hf.1 hf.2.1)
      rwa [hdl] at this) _ _ _ _ _ hC (fun i h1 h2 h3 => by rw [getD_replicate_false] at h3; cases h3) H
  rw [htl, show m + 1 + (l.toArray.size - (m + 1)) = l.toArray.size by omega] at this
  exact this

/-- **A head of m operations, two allocs at any time, a tail.** -/
theorem region_float2 {id : Nat} {Q : Exit → Act → World → Prop} {a : Act} {w : World} {l : List Oper} (m : Nat) (ob : Obj) (s1 s2 : Tmp) (hs1 : dstOf l.toArray m = some s1) (hs2 : dstOf l.toArray (m + 1) = some s2) (hm : P.follows .mixedOrders = true) (hB : float2B .any l.toArray m = true)
    (hal : ∀ i o, m ≤ i → i < m + 2 → l.toArray[i]? = some o → ∀ a w, (execOp (Act.eval a) o).run P w = .ok (.value (ptrV w.heap.size)) (w.alloc ob))
    (h : wpQuietB P l.toArray (fun w' => ∃ p : Regrown, w' = grow (redrawn w p.d) p.os) (fun a' => ∀ g1 g2 w', Below w.heap.size w w' → w.heap.size ≤ g1 → w.heap.size ≤ g2 → g1 ≠ g2 → w'.heap[g1]? = some ob → w'.heap[g2]? = some ob →
      wpList P l.toArray Q (l.drop (m + 2)) ((a'.put (some s1) (ptrV g1)).put (some s2) (ptrV g2)) w') (l.take m) a) :
    (Code.region id l.toArray true).wp P Q a w := by
  simp only [float2B, Bool.and_eq_true, decide_eq_true_eq] at hB
  obtain ⟨⟨⟨⟨⟨⟨⟨hsel, hn⟩, hs⟩, hc⟩, hfl1⟩, hfl2⟩, hne⟩, hlex⟩ := hB
  obtain ⟨o1, ho1, hf1⟩ := any_some hfl1
  obtain ⟨g1, g2, g3⟩ := floatOp_spec hf1
  obtain ⟨o2, ho2, hf2⟩ := any_some hfl2
  obtain ⟨k1, k2, k3⟩ := floatOp_spec hf2
  have hne' : dstOf l.toArray m ≠ dstOf l.toArray (m + 1) := by simpa using hne
  have hF : Floats P .any l.toArray m (m + 2) (fun _ => ob) := ⟨fun i h1 h2 => by
      by_cases him : i = m
      · subst him; exact ⟨o1, ho1, g1, g2, fun a w => hal i o1 h1 h2 ho1 a w⟩
      · obtain rfl : i = m + 1 := by omega
        exact ⟨o2, ho2, k1, k2, fun a w => hal (m + 1) o2 h1 h2 ho2 a w⟩, fun i j h1 h2 h3 h4 h5 d hd hd' => by
      by_cases him : i = m
      · subst him
        obtain rfl : j = i + 1 := by omega
        exact hne' (hd.trans hd'.symm)
      · obtain rfl : i = m + 1 := by omega
        obtain rfl : j = m := by omega
        exact hne' (hd'.trans hd.symm)⟩
  have hn' : m + 2 < l.length := by simpa using hn
  have htl : (l.take m).length = m := by simp; omega
  have hdl : (l.drop (m + 2)).length = l.toArray.size - (m + 2) := by simp
  have inv0 : HeadInv .any l.toArray (m + 2) (Array.replicate l.toArray.size false) :=
    ⟨by simp, fun j oj _ hl => (by rw [getD_replicate_false] at hl; cases hl), fun t _ ht => getD_in (by simpa using ht) (getD_replicate_false _ _)⟩
  have hdone : ∀ (listed : Array Bool) (a : Act) (G : Nat → Nat), (Region.seqB .any l.toArray (l.toArray.size - (m + 2)) (m + 2) listed = true ∧ listed.getD m false = true ∧ listed.getD (m + 1) false = true ∧ ∀ w', Below w.heap.size w w' → w.heap.size ≤ G m → w.heap.size ≤ G (m + 1) → G m ≠ G (m + 1) → w'.heap[G m]? = some ob → w'.heap[G (m + 1)]? = some ob → wpList P l.toArray Q (l.drop (m + 2)) a w') → ∀ j ∈ Region.ready .any l.toArray listed, m + 2 ≤ j := fun listed a G h => seqB_ready h.1
  have H := wpX_lex (P := P) (C := fun w' => ∃ p : Regrown, w' = grow (redrawn w p.d) p.os) (md := .any) (m := m) (q := m + 2) (r := 2)
    (fin := fun listed => Region.seqB .any l.toArray (l.toArray.size - (m + 2)) (m + 2) ((listed.setIfInBounds m true).setIfInBounds (m + 1) true)) hsel (tw_none hs hc hn) hn (by omega) hdone
    (fun listed a G inv hpre hh hf hfin hLq => by
      have hlt1 : m < listed.size := by rw [inv.size]; omega
      have hlt2 : m + 1 < listed.size := by rw [inv.size]; omega
      have hr : m ∈ Region.ready .any l.toArray listed := mem_ready.2 ⟨hf m (Nat.le_refl _) (by omega), o1, ho1, fun e he hb => by rw [g2 e he] at hb; cases hb⟩
      refine wpX_float hF (tw_none hs hc hn) (Nat.le_refl m) (by omega) hdone 1 listed a G inv hpre hh (hf m (Nat.le_refl _) (by omega)) fun ga => ?_
      refine wpX_float hF (tw_none hs hc hn) (i := m + 1) (by omega) (by omega) hdone 0 _ _ _ (inv.set hr (by omega)) (fun k hk => getD_set_true (hpre k hk)) (fun j hj => getD_set_true (hh j hj)) (by rw [getD_set_ne true (by omega)]; exact hf (m + 1) (by omega) (by omega)) fun gb => ?_
      refine ⟨hfin, getD_set_true (by simp [hlt1]), by simp [hlt2], fun w' hb h1 h2 h3 h4 h5 => ?_⟩
      have e1 : upd (upd G m ga) (m + 1) gb m = ga := by simp [upd]
      have e2 : upd (upd G m ga) (m + 1) gb (m + 1) = gb := by simp [upd]
      rw [e1] at h1 h3 h4
      rw [e2] at h2 h3 h5
      rw [hs1, hs2]
      exact hLq ga gb w' hb h1 h2 h3 h4 h5)
    (l.take m) 0 _ a (fun _ => 0) (fun j hj => by
      have hj' : j < m := by rw [htl] at hj; exact hj
      simp [hj']) (by simpa using htl) inv0 (fun _ h => by cases h) (fun j hj => by omega) (fun j h1 h2 => getD_in (by simp; omega) (getD_replicate_false _ _)) (by rw [htl]; exact hlex) h
  have hC : ∃ p : Regrown, ({ w with drawn := w.drawn + 1 } : World) = grow (redrawn w p.d) p.os := ⟨⟨w.drawn + 1, #[]⟩, by rw [grow_empty]; rfl⟩
  refine wp_region_any hm ?_
  have := wpAny_of_X (Q' := Q) (g := l.toArray.size - (m + 2)) (base := w.heap.size) hF (fun _ _ => below_class) (fun w' ⟨p, hp⟩ => by rw [hp]; exact (below_regrown w p.d p.os).size)
    (fun listed a' G w' hw' hfr hL => by
      have hb : Below w.heap.size w w' := by obtain ⟨p, hp⟩ := hw'; rw [hp]; exact below_regrown w p.d p.os
      have hf := hfr m (Nat.le_refl _) (by omega) hL.2.1
      have hf2 := hfr (m + 1) (by omega) (by omega) hL.2.2.1
      have := wpAny_of_seq (md := .any) (Q' := Q) (l.drop (m + 2)) (m + 2) listed a' w' (fun j => by simp [List.getElem?_drop]) (by rw [hdl]; exact hL.1) (hL.2.2.2 w' hb hf.1 hf2.1 (hf2.2.2 m (Nat.le_refl _) (by omega) hL.2.1 (by omega)) hf.2.1 hf2.2.1)
      rwa [hdl] at this) _ _ _ _ _ hC (fun i h1 h2 h3 => by rw [getD_replicate_false] at h3; cases h3) H
  rw [htl, show m + 2 + (l.toArray.size - (m + 2)) = l.toArray.size by omega] at this
  exact this

/-! ### A move that may come at any time, a head, a tail -/
def sink1B (md : Region.Mode) (ops : Array Oper) (n : Nat) : Bool :=
  (List.range n).all fun i => i == 0 || (List.range (n + 1)).any fun j => decide (i < j) && Region.waitsFor md ops j i
theorem tw_one {q : Nat} (hs : sink1B md ops q = true) (hc : Region.chainB md ops q = true) (hn : q < ops.size) : TW md ops q (fun i => i == 0) := by
  intro listed inv hpre
  have h0 : listed.getD 0 false = true := hpre 0 rfl
  suffices H : ∀ (d i : Nat), q - i = d → i < q → listed.getD i true = false → ∀ t, q ≤ t → t ∉ Region.ready md ops listed from fun i hi hun t ht => H _ i rfl hi hun t ht
  intro d
  induction d using Nat.strongRecOn with
  | _ d ih =>
    intro i hd hi hun t ht hr
    obtain ⟨_, ot, hot, hall⟩ := mem_ready.1 hr
    have htlt : t < ops.size := (Array.getElem?_eq_some_iff.1 hot).1
    by_cases htn : t = q
    · subst htn
      have h1 := List.all_eq_true.1 hs i (List.mem_range.2 hi)
      simp only [Bool.or_eq_true, beq_iff_eq] at h1
      rcases h1 with rfl | h1
      · rw [getD_both hun] at h0; cases h0
      obtain ⟨j, hj, hj2⟩ := List.any_eq_true.1 h1
      simp only [Bool.and_eq_true, decide_eq_true_eq] at hj2
      obtain ⟨oj, hoj, e, he, hb, hon⟩ := Region.waitsFor_spec hj2.2
      have hjle : j ≤ t := by have := List.mem_range.1 hj; omega
      by_cases hjt : j = t
      · subst hjt
        have : oj = ot := Option.some.inj (hoj.symm.trans hot)
        subst this
        have h2 := hall e he hb
        rw [hon, getD_both hun] at h2
        cases h2
      · cases hl : listed.getD j false with
        | true =>
          have h2 := inv.closed j oj hoj hl e he hb
          rw [hon, getD_both hun] at h2
          cases h2
        | false =>
          have hjs : j < listed.size := by rw [inv.size]; omega
          exact ih (t - j) (by omega) j rfl (by omega) (getD_in hjs hl) t (Nat.le_refl _) hr
    · have h1 := List.all_eq_true.1 hc t (List.mem_range.2 htlt)
      simp only [Bool.or_eq_true, decide_eq_true_eq] at h1
      rcases h1 with h1 | h1
      · omega
      · obtain ⟨o', ho', e, he, hb, hon⟩ := Region.waitsFor_spec h1
        have : o' = ot := Option.some.inj (ho'.symm.trans hot)
        subst this
        have h2 := hall e he hb
        rw [hon, getD_both (inv.tail (t - 1) (by omega) (by omega))] at h2
        cases h2

def move1B (md : Region.Mode) (ops : Array Oper) (m : Nat) : Bool :=
  Region.noSelect ops && decide (m < ops.size) && decide (1 ≤ m) && sink1B md ops m && Region.chainB md ops m && (Region.ready md ops (Array.replicate ops.size false)).contains 0 && Region.free md ops (Array.replicate ops.size false) 0
    && lexHeadX md ops (fun listed => Region.seqB md ops (ops.size - m) m listed) (m - 1) 1 ((Array.replicate ops.size false).setIfInBounds 0 true)
/-- **A move that may come at any time, then operations 1 to m - 1 that read or call, then a tail.** -/
theorem region_move1 {id : Nat} {Q : Exit → Act → World → Prop} {a : Act} {w : World} {l : List Oper} (m : Nat) (o : Oper) (x : Operand) (h0 : l.toArray[0]? = some o) (hop : o.op = .move x) (hg : o.guard = none)
    (hQ : ∀ c a d v w, Q (.panic c) (a.put d v) w → Q (.panic c) a w) (hm : P.follows .mixedOrders = true) (hB : move1B .any l.toArray m = true)
    (h : wpQuietB P l.toArray (fun w' => ∃ p : Regrown, w' = grow (redrawn w p.d) p.os) (fun a' => ∀ w', Below w.heap.size w w' → wpList P l.toArray Q (l.drop m) a' w') ((l.take m).drop 1) (a.put o.dst (a.eval x))) :
    (Code.region id l.toArray true).wp P Q a w := by
  simp only [move1B, Bool.and_eq_true, decide_eq_true_eq] at hB
  obtain ⟨⟨⟨⟨⟨⟨⟨hsel, hn⟩, h1m⟩, hs⟩, hc⟩, hr0⟩, hf0⟩, hlex⟩ := hB
  have hn' : m < l.length := by simpa using hn
  have htl : ((l.take m).drop 1).length = m - 1 := by simp; omega
  have hdl : (l.drop m).length = l.toArray.size - m := by simp
  have inv0 : HeadInv .any l.toArray m (Array.replicate l.toArray.size false) :=
    ⟨by simp, fun j oj _ hl => (by rw [getD_replicate_false] at hl; cases hl), fun t _ ht => getD_in (by simpa using ht) (getD_replicate_false _ _)⟩
  have hr0' : 0 ∈ Region.ready .any l.toArray (Array.replicate l.toArray.size false) := by simpa using hr0
  have hF : Floats P .any l.toArray m m (fun _ => Obj.cells #[] 0) := ⟨fun i h1 h2 => by omega, fun i j h1 h2 h3 h4 h5 => by omega⟩
  have hdone : ∀ (listed : Array Bool) (a : Act) (G : Nat → Nat), (Region.seqB .any l.toArray (l.toArray.size - m) m listed = true ∧ ∀ w', Below w.heap.size w w' → wpList P l.toArray Q (l.drop m) a w') → ∀ j ∈ Region.ready .any l.toArray listed, m ≤ j := fun listed a G h => seqB_ready h.1
  have hset0 : ((Array.replicate l.toArray.size false).setIfInBounds 0 true).getD 0 false = true := by
    have : 0 < l.toArray.size := by omega
    simp
    omega
  have H := wpX_lex (P := P) (C := fun w' => ∃ p : Regrown, w' = grow (redrawn w p.d) p.os) (md := .any) (m := m) (q := m) (r := 0)
    (fin := fun listed => Region.seqB .any l.toArray (l.toArray.size - m) m listed) hsel (tw_one hs hc hn) hn (Nat.le_refl m) hdone
    (fun listed a G inv hpre hh hf hfin hLq => ⟨hfin, hLq⟩)
    ((l.take m).drop 1) 1 _ _ (fun _ => 0) (fun j hj => by
      have hj' : j < m - 1 := by rw [htl] at hj; exact hj
      have e1 : ((l.take m).drop 1)[j]? = l[1 + j]? := by
        rw [List.getElem?_drop, List.getElem?_take, if_pos (by omega)]
      rw [e1]; simp) (by rw [htl]; omega) (inv0.set hr0' (by omega))
    (fun i hi => by
      obtain rfl : i = 0 := by simpa using hi
      exact hset0) (fun j hj => by
      obtain rfl : j = 0 := by omega
      exact hset0) (fun j h1 h2 => by omega) (by rw [htl]; exact hlex) h
  have hC : ∃ p : Regrown, ({ w with drawn := w.drawn + 1 } : World) = grow (redrawn w p.d) p.os := ⟨⟨w.drawn + 1, #[]⟩, by rw [grow_empty]; rfl⟩
  refine wp_region_any hm ?_
  have hx := wpAny_of_X (Q' := Q) (g := l.toArray.size - m) (base := w.heap.size) hF (fun _ _ => below_class) (fun w' ⟨p, hp⟩ => by rw [hp]; exact (below_regrown w p.d p.os).size)
    (fun listed a' G w' hw' hfr hL => by
      have hb : Below w.heap.size w w' := by obtain ⟨p, hp⟩ := hw'; rw [hp]; exact below_regrown w p.d p.os
      have := wpAny_of_seq (md := .any) (Q' := Q) (l.drop m) m listed a' w' (fun j => by simp [List.getElem?_drop]) (by rw [hdl]; exact hL.1) (hL.2 w' hb)
      rwa [hdl] at this) _ _ _ _ _ hC (fun i h1 h2 h3 => by omega) H
  rw [htl, show m - 1 + 0 + (l.toArray.size - m) = l.toArray.size - 1 by omega] at hx
  have hy : Yields P l.toArray o (a.eval x) a := .inl ⟨by simp [Region.wanted, hg], fun w => by unfold execOp; rw [hop]; rfl⟩
  have := wpAny_first (md := .any) h0 (Region.noSelect_spec hsel) (fun c a w => hQ c a _ _ w) (l.toArray.size - 1) _ a _ (Region.free_spec h0 hf0) hr0' hy hx
  rwa [show l.toArray.size - 1 + 1 = l.toArray.size by omega] at this
end
end Go.Proofs.YtnkehfhedjdhaaaDoor

/-! Cells -/
namespace Go.Proofs.YtnkehfhedjdhaaaDoor
open Go.RowKit
attribute [local go_sem] quietB uponB

def ptI (a i : Nat) : Int × Int := (((i % a : Nat) : Int), ((i / a : Nat) : Int))
def cellsL (a : Nat) (F : Nat → Bool) (n : Nat) : List (Int × Int) := ((List.range n).filter F).map (ptI a)
theorem cellsL_zero (a : Nat) (F : Nat → Bool) : cellsL a F 0 = [] := rfl
theorem cellsL_yes {a k : Nat} {F : Nat → Bool} (h : F k = true) : cellsL a F (k + 1) = cellsL a F k ++ [(((k % a : Nat) : Int), ((k / a : Nat) : Int))] := by
  unfold cellsL
  rw [List.range_succ, List.filter_append, List.map_append]
  simp [h, ptI]
theorem cellsL_no {a k : Nat} {F : Nat → Bool} (h : F k = false) : cellsL a F (k + 1) = cellsL a F k := by
  unfold cellsL
  rw [List.range_succ, List.filter_append, List.map_append]
  simp [h]
theorem cellsL_len (a : Nat) (F : Nat → Bool) (n : Nat) : (cellsL a F n).length ≤ n := by
  unfold cellsL
  rw [List.length_map]
  exact Nat.le_trans (List.length_filter_le _ _) (by simp)
theorem cellsL_more {a : Nat} {F : Nat → Bool} {k : Nat} (h : ∀ j, k ≤ j → F j = false) : ∀ d, cellsL a F (k + d) = cellsL a F k
  | 0 => rfl
  | d + 1 => by rw [← Nat.add_assoc, cellsL_no (h (k + d) (by omega)), cellsL_more h d]
theorem testBit_off {M k : Nat} (h : M < 2 ^ k) : ∀ j, k ≤ j → M.testBit j = false := fun j hj => Nat.testBit_lt_two_pow (Nat.lt_of_lt_of_le h (Nat.pow_le_pow_right (by omega) hj))
/-- All cells of a mask below 2 to the 36. -/
def cellsC (a M : Nat) : List (Int × Int) := cellsL a M.testBit 36
theorem cellsC_of {a M k : Nat} (h : M < 2 ^ k) (hk : k ≤ 36) : cellsL a M.testBit k = cellsC a M := by
  unfold cellsC
  have := cellsL_more (a := a) (testBit_off h) (36 - k)
  rw [show k + (36 - k) = 36 by omega] at this
  exact this.symm
theorem cellsC_len (a M : Nat) : (cellsC a M).length ≤ 36 := cellsL_len _ _ _
theorem shr_pos {M k : Nat} : 0 < M >>> k ↔ ¬ M < 2 ^ k := by
  rw [Nat.shiftRight_eq_div_pow, Nat.div_pos_iff]
  have := Nat.two_pow_pos k
  omega
theorem bit_at2 (M k : Nat) (hM : M < 2 ^ 36) : ∃ z : Nat, (M : Int) / 2 ^ k = (z : Int) ∧ (bits BinOp.and IntKind.i64 (z : Int) 1 = if M.testBit k then 1 else 0) ∧ (0 < z ↔ ¬ M < 2 ^ k) :=
  ⟨M >>> k, shr_cast M k, bit_eq M k hM, shr_pos⟩
set_option maxRecDepth 100000 in
set_option maxHeartbeats 2000000 in
theorem cellsS_any (a M : Nat) (W : World) (ha : 1 ≤ a) (hM : M < 2 ^ 36) :
    Calls Tryd.prog 55 #[.int .i64 a, .int .i64 M] W (Lists W (cellsC a M)) := by
  obtain ⟨i0, hi0, hz0, hz1, hz2⟩ := info_parts infoPt
  have own0 := World.ownsRow_lit (base := W.heap.size) (e := 73) (size := 2) W #[] 0 (Nat.le_refl _) (by unfold maxLen; omega) (by rfl)
  have b0 := below1 W (.cells #[] 73)
  have HB := Lib.hid (fun k => bit_at2 M k hM)
  have HE := Lib.hid (fun k (h : M < 2 ^ k) hk => cellsC_of (a := a) h hk)
  have HLT : Hid (M < 2 ^ 36) := hM
  go_enter Tryd.func55, Tryd.ntmps55
  go_wp2_with fail
  go_loopw [5, 6] (fun o i wr => ∃ (k : Nat) (L : List (Int × Int)), k ≤ 36 ∧ i = .int .i64 k ∧ L.length ≤ k ∧ Hid (L = cellsL a M.testBit k) ∧ wr.ownsRow W.heap.size 73 2 o L.length (flat L) ∧ Below W.heap.size W wr) (fun _ i _ => 36 - (intOf i).toNat)
  case atStart => exact ⟨0, [], by omega, rfl, Nat.le_refl _, rfl, own0, b0⟩
  case round =>
    clear own0 b0
    obtain ⟨wo, rfl⟩ : ∃ wo : World, wo = wr := ⟨_, rfl⟩
    obtain ⟨k, L, hk, rfl, hLk, HL, own, hb⟩ := hrel
    obtain ⟨z, hz, hbit, hzp⟩ := HB.out k
    by_cases h0 : 0 < z
    · have hk36 : k < 36 := by
        rcases Nat.lt_or_ge k 36 with h | h
        · exact h
        · obtain rfl : k = 36 := by omega
          exact absurd HLT.out (hzp.1 h0)
      clear hzp
      cases ht : M.testBit k
      · rw [ht] at hbit
        simp only [Bool.false_eq_true, if_false] at hbit
        have HL2 : Hid (L = cellsL a M.testBit (k + 1)) := by
          show _ = _
          rw [cellsL_no ht]; exact HL.out
        have R := Lib.hid (And.intro own hb)
        clear ht HL own hb
        go_wp2_with fail
        go_roundw
        case rel => exact ⟨k + 1, L, by omega, by go_num, by omega, HL2, R.out.1, R.out.2⟩
        case measure => simp [intOf]; omega
      · rw [ht] at hbit
        simp only [if_true] at hbit
        have HL2 : Hid (L ++ [(((k % a : Nat) : Int), ((k / a : Nat) : Int))] = cellsL a M.testBit (k + 1)) := by
          show _ = _
          rw [cellsL_yes ht, HL.out]
        obtain ⟨e1, e2, e3⟩ := mod_eqs k a (by omega)
        have ha0 : ((a : Int) == 0) = false := by simp; omega
        have ha2 : ¬ a = 0 := by omega
        have hs6 := hb.size
        clear ht HL
        generalize k % a = x at *
        generalize k / a = y at *
        go_wp2_with fail
        refine region_move1 8 _ _ (by rfl) (by rfl) (by rfl) (fun _ _ d _ _ h => by cases d <;> exact h) (by kernel_rfl) (by kernel_rfl) ?_
        simp only [List.take_succ_cons, List.take_zero, List.drop_succ_cons, List.drop_zero]
        repeat (
          refine wpQuietB_step (fun K hK => ?_)
          go_simp
          first
            | (refine hK _ ?_; clear hK K)
            | (apply Exists.intro
               refine ⟨fun _ => ?_, hK _ ?_⟩
               ((fail))
               clear hK K))
        refine wpQuietB_nil ?_
        intro w6 hr
        replace hb := below_on hb hr
        replace own := own_below own hr
        replace hs6 := hb.size
        clear hr e1 ha0 ha2 hbit
        go_wp2_with (at_builtin; refine wpList_append_own _ rfl _ _ 70 rfl W.heap.size 73 i0 (.agg #[.int .i64 0, .int .i64 0]) 2 16 Tryd.underlying70 hi0 hz0 hz1 hz2 rfl (by decide) _ _ _ rfl (own.alloc _) ⟨w6.heap.size, 0, none⟩ 1 1 [.int .i64 (x : Int), .int .i64 (y : Int)] rfl rfl ?d1 ?d2 ?d3 ?d4 ?d5 ?_)
        case d1 => (simp only [e2]; exact World.news_of_block (cs := #[.int .i64 (x : Int), .int .i64 (y : Int)]) (t := 73) (fr := (0, 0)) (heap_alloc_new w6 _))
        case d2 => simp [Value.oneCell']
        case d3 => unfold maxLen; omega
        case d4 => omega
        case d5 => simp; omega
        intro v' w7 own7 hgrow _
        have hrw := fun k hk => (own.lt k hk).1
        have R : Hid (w7.ownsRow W.heap.size 73 2 v' (L ++ [((x : Int), (y : Int))]).length (flat (L ++ [((x : Int), (y : Int))])) ∧ Below W.heap.size W w7) :=
          ⟨by rw [flat_append, List.length_append]; exact own7, (hb.alloc hs6 _).grown hgrow (by simp; omega) hrw⟩
        clear own own7 hgrow hb hrw
        go_wp2_with fail
        go_roundw
        case rel => exact ⟨k + 1, L ++ [((x : Int), (y : Int))], by omega, by go_num, by simp; omega, HL2, R.out.1, R.out.2⟩
        case measure => simp [intOf]; omega
    · have hM2 : M < 2 ^ k := by
        rcases Nat.lt_or_ge M (2 ^ k) with h | h
        · exact h
        · exact absurd (hzp.2 (by omega)) h0
      have HQ : Hid (L = cellsC a M) := by
        show _ = _
        rw [HL.out]; exact HE.out k hM2 hk
      obtain rfl : z = 0 := by omega
      have R := Lib.hid (And.intro own hb)
      clear hzp HL hM2 own hb hbit
      go_wp2_with fail
      go_ret
      rw [← HQ.out]
      exact ⟨_, rfl, R.out.1, R.out.2⟩
set_option maxRecDepth 100000 in
set_option maxHeartbeats 2000000 in
theorem cellsB_any (a b M : Nat) (W : World) (ha : 1 ≤ a) (hab : a * b ≤ 36) (hM : M < 2 ^ (a * b)) :
    Calls Tryd.prog 49 #[.agg (bdV a b M.testBit)] W (Lists W (cellsC a M)) := by
  obtain ⟨i0, hi0, hz0, hz1, hz2⟩ := info_parts infoPt
  obtain ⟨n, hn⟩ : ∃ n, n = a * b := ⟨_, rfl⟩
  have hN : ((a : Int) * (b : Int) = (n : Int)) := by rw [hn, Int.natCast_mul]
  rw [← hn] at hab hM
  have HE := Lib.hid (cellsC_of (a := a) hM hab)
  have t1 := brd_new W a b M.testBit
  have c0 := t1.c0; have c1 := t1.c1
  have b1 := below1 W (.cells (bdV a b M.testBit) 68)
  have hsz : (W.alloc (.cells (bdV a b M.testBit) 68)).heap.size = W.heap.size + 1 := by simp
  clear hM hn
  go_enter Tryd.func49, Tryd.ntmps49
  go_wp2_with fail
  generalize W.alloc (.cells (bdV a b M.testBit) 68) = w1 at *
  have hsz1 : W.heap.size + 1 ≤ w1.heap.size := by omega
  clear hsz c0 c1
  go_loopw [3, 4, 10] (fun o _ i wr => ∃ (k : Nat) (L : List (Int × Int)), k ≤ n ∧ i = .int .i64 k ∧ L.length ≤ k ∧ Hid (L = cellsL a M.testBit k) ∧ wr.ownsRow (W.heap.size + 1) 73 2 o L.length (flat L) ∧ Brd wr W.heap.size a b M.testBit ∧ W.heap.size + 1 ≤ wr.heap.size ∧ Below W.heap.size W wr) (fun _ _ i _ => n - (intOf i).toNat)
  case atStart => exact ⟨0, [], by omega, rfl, Nat.le_refl _, rfl, World.ownsRow_nil _ _ _ _, t1, hsz1, b1⟩
  case round =>
    clear t1 b1 hsz1
    obtain ⟨wo, rfl⟩ : ∃ wo : World, wo = wr := ⟨_, rfl⟩
    obtain ⟨k, L, hk, rfl, hLk, HL, own, hg, hsz, hb⟩ := hrel
    by_cases hlt : k < n
    · have hk36 : k < 36 := by omega
      have c1 := hg.at hk36
      cases ht : M.testBit k
      · rw [ht] at c1
        have HL2 : Hid (L = cellsL a M.testBit (k + 1)) := by
          show _ = _
          rw [cellsL_no ht]; exact HL.out
        have R := Lib.hid (And.intro own (And.intro hg hb))
        clear ht HL own hb hg
        go_wp2_with fail
        go_roundw
        case rel => exact ⟨k + 1, L, by omega, by go_num, by omega, HL2, R.out.1, R.out.2.1, hsz, R.out.2.2⟩
        case measure => simp [intOf]; omega
      · rw [ht] at c1
        have HL2 : Hid (L ++ [(((k % a : Nat) : Int), ((k / a : Nat) : Int))] = cellsL a M.testBit (k + 1)) := by
          show _ = _
          rw [cellsL_yes ht, HL.out]
        have HC := Lib.hid (fun w => cellAt_any a b M.testBit k w ha (by omega))
        clear ht HL
        generalize k % a = x at *
        generalize k / a = y at *
        go_wp2_with (refine wpList_loadB rfl _ rfl _ _ _ _ rfl hg ?_)
        refine (HC.out _).mono ?_
        rintro e w6 ⟨rfl, hb6⟩
        replace hb := below_on hb hb6
        replace own := own_below own hb6
        replace hg := hg.step hb6
        replace hsz : W.heap.size + 1 ≤ w6.heap.size := Nat.le_trans hsz hb6.size
        have hs6 := hb.size
        clear hb6 HC c1
        go_wp2_with (at_builtin; refine wpList_append_own _ rfl _ _ 70 rfl (W.heap.size + 1) 73 i0 (.agg #[.int .i64 0, .int .i64 0]) 2 16 Tryd.underlying70 hi0 hz0 hz1 hz2 rfl (by decide) _ _ _ rfl (own.alloc _) ⟨w6.heap.size, 0, none⟩ 1 1 [.int .i64 (x : Int), .int .i64 (y : Int)] rfl rfl ?d1 ?d2 ?d3 ?d4 ?d5 ?_)
        case d1 => exact World.news_of_block (cs := #[.int .i64 (x : Int), .int .i64 (y : Int)]) (t := 73) (fr := (0, 0)) (heap_alloc_new w6 _)
        case d2 => simp [Value.oneCell']
        case d3 => unfold maxLen; omega
        case d4 => omega
        case d5 => simp; omega
        intro v' w7 own7 hgrow _
        have hrw := fun k hk => (own.lt k hk).1
        have R : Hid (w7.ownsRow (W.heap.size + 1) 73 2 v' (L ++ [((x : Int), (y : Int))]).length (flat (L ++ [((x : Int), (y : Int))])) ∧ Brd w7 W.heap.size a b M.testBit ∧ W.heap.size + 1 ≤ w7.heap.size ∧ Below W.heap.size W w7) :=
          ⟨by rw [flat_append, List.length_append]; exact own7, (hgrow.block _ (hg.alloc _).lt (fun e => by have := hrw _ e.symm; omega)).trans (hg.alloc _), Nat.le_trans hsz (by have := hgrow.size; simp at this; omega), (hb.alloc hs6 _).grown hgrow (by simp; omega) (fun k hk => by have := hrw k hk; omega)⟩
        clear own own7 hgrow hb hrw hg
        go_wp2_with fail
        go_roundw
        case rel => exact ⟨k + 1, L ++ [((x : Int), (y : Int))], by omega, by go_num, by simp; omega, HL2, R.out.1, R.out.2.1, R.out.2.2.1, R.out.2.2.2⟩
        case measure => simp [intOf]; omega
    · obtain rfl : k = n := by omega
      have HQ : Hid (L = cellsC a M) := by
        show _ = _
        rw [HL.out]; exact HE.out
      have R := Lib.hid (And.intro (own_base own (show W.heap.size ≤ W.heap.size + 1 by omega)) hb)
      clear HL own hb hg
      go_wp2_with fail
      go_ret
      rw [← HQ.out]
      exact ⟨_, rfl, R.out.1, R.out.2⟩
end Go.Proofs.YtnkehfhedjdhaaaDoor

/-! Rim8 -/
namespace Go.Proofs.YtnkehfhedjdhaaaDoor
open Go.RowKit

def outN (a b M : Nat) (x y : Int) : Nat := if hasB a b M.testBit x y = true then 0 else 1
/-- The sides of a cell that no other has, in the program's order, and in the model's. -/
def rimP8 (a b M : Nat) (x y : Int) : Nat → Nat
  | 0 => 0
  | t + 1 => rimP8 a b M x y t + outN a b M (nbP x y t).1 (nbP x y t).2
def dirS (t : Nat) : Int × Int :=
  match t with
  | 0 => (1, 0)
  | 1 => (-1, 0)
  | 2 => (0, 1)
  | _ => (0, -1)
def rimS8 (a b M : Nat) (x y : Int) : Nat → Nat
  | 0 => 0
  | t + 1 => rimS8 a b M x y t + outN a b M (x + (dirS t).1) (y + (dirS t).2)
theorem rim8_eq (a b M : Nat) (x y : Int) : rimS8 a b M x y 4 = rimP8 a b M x y 4 := by
  simp only [rimS8, rimP8, nbP, dirS, Int.add_zero, ← Int.sub_eq_add_neg]
  omega
theorem outN_le (a b M : Nat) (x y : Int) : outN a b M x y ≤ 1 := by unfold outN; split <;> omega
theorem rimP8_le (a b M : Nat) (x y : Int) : ∀ t, rimP8 a b M x y t ≤ t
  | 0 => Nat.le_refl _
  | t + 1 => by have := rimP8_le a b M x y t; have := outN_le a b M (nbP x y t).1 (nbP x y t).2; simp only [rimP8]; omega
theorem rimS8_le (a b M : Nat) (x y : Int) : ∀ t, rimS8 a b M x y t ≤ t
  | 0 => Nat.le_refl _
  | t + 1 => by have := rimS8_le a b M x y t; have := outN_le a b M (x + (dirS t).1) (y + (dirS t).2); simp only [rimS8]; omega
def rimT8 (a b M : Nat) (L : List (Int × Int)) : Nat → Nat
  | 0 => 0
  | k + 1 => rimT8 a b M L k + rimP8 a b M (gt L k).1 (gt L k).2 4
theorem rimT8_le (a b M : Nat) (L : List (Int × Int)) : ∀ k, rimT8 a b M L k ≤ 4 * k
  | 0 => Nat.le_refl _
  | k + 1 => by have := rimT8_le a b M L k; have := rimP8_le a b M (gt L k).1 (gt L k).2 4; simp only [rimT8]; omega
def rimV8 (w h M : Int) : Int := bif shapeB w h M then (rimT8 w.toNat h.toNat M.toNat (cellsC w.toNat M.toNat) (cellsC w.toNat M.toNat).length : Int) else -1
theorem rimV8_no {w h M : Int} (hB : shapeB w h M = false) : rimV8 w h M = -1 := by unfold rimV8; rw [hB]; rfl
theorem rimV8_yes {a b m : Nat} (hB : shapeB a b m = true) : rimV8 a b m = (rimT8 a b m (cellsC a m) (cellsC a m).length : Nat) := by unfold rimV8; rw [hB]; rfl
/-- The cells lie in the table. -/
theorem cellsL_bd {a b n : Nat} {F : Nat → Bool} (ha : 0 < a) (hn : n ≤ a * b) : ∀ p ∈ cellsL a F n, 0 ≤ p.1 ∧ p.1 < a ∧ 0 ≤ p.2 ∧ p.2 < b := by
  intro p hp
  unfold cellsL at hp
  obtain ⟨i, hi, rfl⟩ := List.mem_map.1 hp
  have hi2 : i < n := by simpa using (List.mem_filter.1 hi).1
  have h1 := Nat.mod_lt i ha
  have h2 : i / a < b := by rw [Nat.div_lt_iff_lt_mul ha, Nat.mul_comm]; omega
  simp only [ptI]
  generalize i % a = x at *
  generalize i / a = y at *
  omega
theorem cellsC_bd {a b m : Nat} (ha : 0 < a) (hab : a * b ≤ 36) (hm : m < 2 ^ (a * b)) {k : Nat} (hk : k < (cellsC a m).length) :
    0 ≤ (gt (cellsC a m) k).1 ∧ (gt (cellsC a m) k).1 < a ∧ 0 ≤ (gt (cellsC a m) k).2 ∧ (gt (cellsC a m) k).2 < b := by
  refine cellsL_bd (F := m.testBit) (n := a * b) ha (Nat.le_refl _) _ ?_
  rw [cellsC_of hm hab, gt_at hk]
  exact List.getElem_mem hk
set_option maxRecDepth 100000 in
set_option maxHeartbeats 2000000 in
theorem impl_rim (w h M : Int) (W : World) : Calls Tryd.prog 17 #[.int .i64 w, .int .i64 h, .int .i64 M] W fun e w' => e = .returned (.int .i64 (rimV8 w h M)) ∧ Below W.heap.size W w' := by
  have HS := Lib.hid (fun W => impl_shape w h M W)
  cases hB : shapeB w h M
  · rw [hB] at HS
    have HV := Lib.hid (rimV8_no hB)
    rw [HV.out]
    clear hB
    go_enter Tryd.func17, Tryd.ntmps17
    go_wp2_with fail
    refine (HS.out _).mono ?_
    rintro e w1 ⟨rfl, rfl⟩
    go_wp2_with fail
    go_ret
    exact ⟨rfl, Below.refl _ _⟩
  · rw [hB] at HS
    obtain ⟨a, b, m, rfl, rfl, rfl, ha1, ha2, hb1, hb2, hm, hab⟩ := mask_nat hB
    have HV := Lib.hid (rimV8_yes hB)
    rw [HV.out]
    have HBO := Lib.hid (fun W => boardOf_any a b m W hm hab)
    have HCE := Lib.hid (fun W => cellsB_any a b m W ha1 hab hm)
    unfold Lists at HCE
    have HHA := Lib.hid (fun x y W => hasCell_any a b m.testBit x y W ⟨ha1, ha2⟩ ⟨hb1, hb2⟩ hab)
    have HBD := Lib.hid (fun k hk => cellsC_bd (a := a) (b := b) (m := m) ha1 hab hm (k := k) hk)
    have hlen := cellsC_len a m
    have HTL := Lib.hid (rimT8_le a b m (cellsC a m))
    have HPL := Lib.hid (rimP8_le a b m)
    have HOU : Hid (∀ x y, outN a b m x y = if hasB a b m.testBit x y = true then 0 else 1) := fun _ _ => rfl
    generalize cellsC a m = L at *
    clear hB hm hab
    go_enter Tryd.func17, Tryd.ntmps17
    go_wp2_with fail
    refine (HS.out _).mono ?_
    rintro e w1 ⟨rfl, rfl⟩
    go_wp2_with fail
    refine (HBO.out _).mono ?_
    rintro e w2 ⟨rfl, hb2'⟩
    have hw2 := hb2'.size
    have t2 := brd_new w2 0 0 fun _ => false
    go_wp2_with (first
      | refine wpList_allocB rfl rfl ?_
      | refine wpList_storeB rfl _ _ rfl w2.heap.size a b _ _ m.testBit _ rfl rfl t2 ?_
      | refine wpList_loadB rfl _ rfl w2.heap.size a b m.testBit rfl (brd_setRow t2 a b m.testBit) ?_)
    have t1 := brd_setRow t2 a b m.testBit
    have bb := below_rowB (hb2'.alloc hw2 (.cells (bdV 0 0 fun _ => false) 68)) hw2 (bdV a b m.testBit)
    generalize (w2.alloc (.cells (bdV 0 0 fun _ => false) 68)).setRow w2.heap.size (bdV a b m.testBit) = w3 at *
    clear t2 hb2' HBO HS
    refine (HCE.out _).mono ?_
    rintro e w4 ⟨v4, rfl, own4, hb4⟩
    replace bb := below_on bb hb4
    replace t1 := t1.step hb4
    obtain ⟨_, A4, c4, rfl, p4⟩ := own_pts own4
    have HA := Lib.hid p4
    clear hb4 own4 p4 HCE hw2
    go_wp2_with fail
    go_loopw [8, 25] (fun s i wr => ∃ k c : Nat, k ≤ L.length ∧ i = .int .i64 k ∧ s = .int .i64 c ∧ Hid (c = rimT8 a b m L k) ∧ Brd wr w2.heap.size a b m.testBit ∧ Below w4.heap.size w4 wr) (fun _ i _ => L.length - (intOf i).toNat)
    case atStart => exact ⟨0, 0, Nat.zero_le _, rfl, rfl, rfl, t1, Below.refl _ _⟩
    case round =>
      clear t1
      obtain ⟨wo, rfl⟩ : ∃ wo : World, wo = wr := ⟨_, rfl⟩
      obtain ⟨k, c, hk, rfl, rfl, HC, hg, hb⟩ := hrel
      by_cases hlt : k < L.length
      · obtain ⟨g4, rfl, -⟩ := HA.out k hlt
        obtain ⟨d1, d2⟩ := gt_cells (ptsA_on HA.out hb) hlt
        have hbd := HBD.out k hlt
        have hc : c ≤ 4 * 36 := by
          rw [HC.out]
          have := HTL.out k
          omega
        have HC2 : Hid (c + rimP8 a b m (gt L k).1 (gt L k).2 4 = rimT8 a b m L (k + 1)) := by
          show _ = _
          rw [HC.out]; rfl
        clear HC
        generalize (gt L k).1 = x at *
        generalize (gt L k).2 = y at *
        have a1 := at_new wo x y 73
        have v1 := a1.c0; have v2 := a1.c1
        have hg1 := hg.alloc (.cells #[.int .i64 x, .int .i64 y] 73)
        have hb1 := hb.alloc hb.size (.cells #[.int .i64 x, .int .i64 y] 73)
        have HNB := Lib.hid (fun w => nbs_any x y w (by omega) (by omega))
        have HXX : Hid (∀ w (t : Nat), t < 4 → (Instr.index 74 (.agg (nbA x y)) (.int .i64 (t : Int))).run Tryd.prog w = .ok (.agg #[.int .i64 (nbP x y t).1, .int .i64 (nbP x y t).2]) w) := fun w t ht => idx_nb x y t ht w
        clear hg hb a1 hbd
        go_wp2_with fail
        refine (HNB.out _).mono ?_
        rintro e w5 ⟨rfl, hb5⟩
        replace hg1 := hg1.step hb5
        replace hb1 := below_on hb1 hb5
        have H0 : Hid (c = c + rimP8 a b m x y 0) := rfl
        clear hb5 v1 v2 HNB d1 d2
        go_wp2_with fail
        go_loopw [8, 31] (fun s i wr => ∃ t d : Nat, t ≤ 4 ∧ i = .int .i64 t ∧ s = .int .i64 d ∧ Hid (d = c + rimP8 a b m x y t) ∧ Brd wr w2.heap.size a b m.testBit ∧ Below w4.heap.size w4 wr) (fun _ i _ => 4 - (intOf i).toNat)
        case atStart => exact ⟨0, c, by omega, rfl, rfl, H0, hg1, hb1⟩
        case round =>
          clear hg1 hb1 H0
          obtain ⟨wi, rfl⟩ : ∃ wi : World, wi = wr := ⟨_, rfl⟩
          obtain ⟨t, d, ht, rfl, rfl, HD, hg, hb⟩ := hrel
          by_cases hlt4 : t < 4
          · have hx1 := HXX.out wi t hlt4
            have hd : d ≤ 4 * 36 + 4 := by
              rw [HD.out]
              have := HPL.out x y t
              omega
            have HD2 : Hid (d + outN a b m (nbP x y t).1 (nbP x y t).2 = c + rimP8 a b m x y (t + 1)) := by
              show _ = _
              rw [HD.out]
              simp only [rimP8]; omega
            clear HD
            generalize (nbP x y t).1 = u at *
            generalize (nbP x y t).2 = v at *
            have a1 := at_new wi u v 73
            have v1 := a1.c0; have v2 := a1.c1
            have hg1 := hg.alloc (.cells #[.int .i64 u, .int .i64 v] 73)
            have hb1 := hb.alloc hb.size (.cells #[.int .i64 u, .int .i64 v] 73)
            have HH := Lib.hid (fun W => HHA.out u v W)
            have hou := HOU.out u v
            clear hg hb a1
            cases hh : hasB a b m.testBit u v
            all_goals
              rw [hh] at hou HH
              simp only [Bool.false_eq_true, if_true, if_false] at hou
              rw [hou] at HD2
              clear hh hou
              go_wp2_with (refine wpList_loadB rfl _ rfl _ _ _ _ rfl hg1 ?_)
              refine (HH.out _).mono ?_
              rintro e w6 ⟨rfl, hb6⟩
              have R := Lib.hid (And.intro (hg1.step hb6) (below_on hb1 hb6))
              clear hg1 hb1 hb6 v1 v2 hx1 HH
              go_wp2_with fail
              go_roundw
            case rel => exact ⟨t + 1, _, by omega, by go_num, by go_num, HD2, R.out.1, R.out.2⟩
            case measure => simp [intOf]; omega
            case rel => exact ⟨t + 1, _, by omega, by go_num, by go_num, HD2, R.out.1, R.out.2⟩
            case measure => simp [intOf]; omega
          · obtain rfl : t = 4 := by omega
            rw [← HD.out] at HC2
            have R := Lib.hid (And.intro hg hb)
            clear hg hb HD
            go_wp2_with fail
            go_roundw
            case rel => exact ⟨k + 1, d, by omega, by go_num, rfl, HC2, R.out.1, R.out.2⟩
            case measure => simp [intOf]; omega
      · obtain rfl : k = L.length := by omega
        have hE := HC.out
        have R := Lib.hid (below_on bb hb)
        clear HC hg hb bb
        have HE := Lib.hid hE
        clear hE
        go_wp2_with fail
        go_ret
        rw [← HE.out]
        exact ⟨rfl, R.out⟩
end Go.Proofs.YtnkehfhedjdhaaaDoor

/-! Spec9 -/
namespace Go.Proofs.YtnkehfhedjdhaaaDoor
open Go.RowKit

set_option maxRecDepth 100000 in
theorem specOk_any (w h M : Int) (W : World) : Calls Tryd.prog 53 #[.int .i64 w, .int .i64 h, .int .i64 M] W fun e w' => e = .returned (.bool (okC w h M)) ∧ w' = W := by
  have HS := Lib.hid (fun W => spec_shape w h M W)
  cases hS : shapeB w h M
  · have HV : Hid (okC w h M = false) := by
      show _ = _
      unfold okC; rw [hS]; rfl
    rw [hS] at HS
    rw [HV.out]
    clear hS
    go_enter Tryd.func53, Tryd.ntmps53
    go_wp2_with fail
    refine (HS.out _).mono ?_
    rintro e w1 ⟨rfl, rfl⟩
    go_wp2_with fail
    go_ret
    exact ⟨rfl, rfl⟩
  · rw [hS] at HS
    have HV : Hid (okC w h M = inB (pc 64 M.toNat : Nat) 1 9) := by
      show _ = _
      unfold okC inB
      rw [hS, Bool.true_and, Bool.eq_iff_iff, decide_eq_true_eq, Bool.and_eq_true, decide_eq_true_eq, decide_eq_true_eq]
      omega
    rw [HV.out]
    obtain ⟨a, b, m, rfl, rfl, rfl, ha1, ha2, hb1, hb2, hm, hab⟩ := mask_nat hS
    rw [Int.toNat_natCast]
    have HO := Lib.hid (fun W => ones_any m W (lt62 hm hab))
    have HI := Lib.hid (fun W => in_any (pc 64 m : Nat) 1 9 W)
    clear hS HV hm hab
    generalize pc 64 m = k at *
    generalize inB (k : Int) 1 9 = r at *
    go_enter Tryd.func53, Tryd.ntmps53
    go_wp2_with fail
    refine (HS.out _).mono ?_
    rintro e w1 ⟨rfl, rfl⟩
    go_wp2_with fail
    refine (HO.out _).mono ?_
    rintro e w1 ⟨rfl, rfl⟩
    go_wp2_with fail
    refine (HI.out _).mono ?_
    rintro e w1 ⟨rfl, rfl⟩
    go_wp2_with fail
    go_ret
    exact ⟨rfl, rfl⟩

def AllE (a b : Nat) (P : List Nat) (W : World) (e : Ending) (w' : World) : Prop := ∃ v : Bool, e = .returned (.bool v) ∧ (v = true ↔ AllP a b (castL P)) ∧ w' = W
set_option maxRecDepth 100000 in
set_option maxHeartbeats 2000000 in
theorem specWhole_any (a b n : Nat) (A : Option Addr) (c : Nat) (P : List Nat) (W : World) (hS : ∀ p, p < 2 ^ n → shapeB a b (p : Nat) = true) (hn : n = a * b) (ha : 1 ≤ a ∧ a ≤ 6) (hb : 1 ≤ b ∧ b ≤ 6) (h36 : n ≤ 36) (hP : IntsA W A (castL P)) (hL : P.length ≤ 1048576) (hlt : ∀ p ∈ P, p < 2 ^ n) :
    Calls Tryd.prog 63 #[.int .i64 a, .int .i64 b, .slice A P.length c] W (AllE a b P W) := by
  have HP := Lib.hid hP
  have HLT := Lib.hid hlt
  have HSB := Lib.hid hS
  have HR := Lib.hid (fun p k W (h1 : p < 2 ^ n) h2 h3 => reach_any a b p k W ha hb (by omega) (by rw [← hn]; exact h1) h2 h3)
  clear hP hlt hS hn
  go_enter Tryd.func63, Tryd.ntmps63
  go_wp2_with fail
  go_loop [8, 11] (fun _ i => ∃ j : Nat, j ≤ P.length ∧ i = .int .i64 j ∧ Hid (AllP a b (castL (P.take j)))) (fun _ i => P.length - (intOf i).toNat)
  case atStart => exact ⟨0, Nat.zero_le _, rfl, fun p hp => by simp [castL] at hp⟩
  case round =>
    obtain ⟨k, hk, rfl, HA⟩ := hrel
    by_cases hlt : k < P.length
    · obtain ⟨g, rfl, hc⟩ := HP.out k (by rw [castL_len]; exact hlt)
      rw [castL_get] at hc
      obtain ⟨x, hx⟩ : ∃ x, x = P[k] := ⟨_, rfl⟩
      rw [← hx] at hc
      have hxm : x ∈ P := by rw [hx]; exact List.getElem_mem hlt
      have hxl := HLT.out x hxm
      have hin : (x : Int) ∈ castL P := List.mem_map.2 ⟨x, hxm, rfl⟩
      have HNX : Hid (OneP a b (x : Nat) → AllP a b (castL (P.take (k + 1)))) := fun h1 => by
        rw [take_snoc hlt, castL_snoc, ← hx]
        intro p hp
        rcases List.mem_append.1 hp with h2 | h2
        · exact HA.out p h2
        · simp only [List.mem_singleton] at h2
          rw [h2]; exact h1
      have HNO : Hid (¬ OneP a b (x : Nat) → ¬ AllP a b (castL P)) := fun h1 h2 => h1 (h2 _ hin)
      by_cases h0 : 0 < x
      · obtain ⟨t, ht, htl⟩ := exists_bit h0
        have HQ := Lib.hid (HR.out x t W hxl ht htl)
        have HO := Lib.hid (fun p (hp : PartOf (Adj a b) x.testBit t p) => oneP_iff (HSB.out x hxl) ht htl hp)
        have hx0 : ((x : Int) == 0) = false := by rw [beq_eq_false_iff_ne]; omega
        clear ht htl hxl hxm hin hx h0
        go_wp2_with fail
        refine HQ.out.mono ?_
        rintro e w1 ⟨p, rfl, hp, rfl⟩
        have hone := HO.out p hp
        by_cases he : p = x
        · have HA2 := Lib.hid (HNX.out (hone.2 he))
          have hne : (!((p : Int) == (x : Int))) = false := by rw [he]; simp
          subst he
          clear hone hp
          go_wp2_with fail
          go_round
          case rel => exact ⟨k + 1, by omega, by go_num, HA2⟩
          case measure => simp [intOf]; omega
        · have hne : ((p : Int) == (x : Int)) = false := by rw [beq_eq_false_iff_ne]; omega
          have R : Hid (AllE a b P w1 (.returned (.bool false)) w1) := ⟨false, rfl, ⟨fun h => (by cases h), fun h => absurd h (HNO.out (fun h1 => he (hone.1 h1)))⟩, rfl⟩
          clear hone hp he
          go_wp2_with fail
          go_ret
          exact R.out
      · obtain rfl : x = 0 := by omega
        have R : Hid (AllE a b P W (.returned (.bool false)) W) := ⟨false, rfl, ⟨fun h => (by cases h), fun h => absurd h (HNO.out oneP_zero)⟩, rfl⟩
        clear hxl hxm hin hx h0
        go_wp2_with fail
        go_ret
        exact R.out
    · have R : Hid (AllE a b P W (.returned (.bool true)) W) := by
        refine ⟨true, rfl, ⟨fun _ => ?_, fun _ => rfl⟩, rfl⟩
        have := HA.out
        rw [List.take_of_length_le (by omega)] at this
        exact this
      go_wp2_with fail
      go_ret
      exact R.out
end Go.Proofs.YtnkehfhedjdhaaaDoor

/-! PieS9 -/
namespace Go.Proofs.YtnkehfhedjdhaaaDoor
open Go.RowKit Go.Sort

theorem cellsC_idx {a m n : Nat} (hm : m < 2 ^ n) (hn : n ≤ 36) : cellsC a m = (idxL m n).map (ptI a) := by rw [← cellsC_of hm hn]; rfl
theorem gt_ptI {a : Nat} {I : List Nat} {k : Nat} (hk : k < I.length) : gt (I.map (ptI a)) k = (((I[k] % a : Nat) : Int), ((I[k] / a : Nat) : Int)) := by
  rw [gt_at (by rw [List.length_map]; exact hk), List.getElem_map]; rfl
set_option maxRecDepth 100000 in
set_option maxHeartbeats 4000000 in
theorem specPieces_any (a m n : Nat) (A : Option Addr) (c : Nat) (C : List Nat) (W : World) (ha : 1 ≤ a ∧ a ≤ 6) (hm : m < 2 ^ n) (h36 : n ≤ 36) (h2 : IntsA W A (castL C)) (hl : (idxL m n).length = C.length) (h9 : C.length ≤ 9) (hn : numF 0 C = true) :
    Calls Tryd.prog 57 #[.int .i64 a, .int .i64 m, .slice A C.length c] W (ListsI W (castL (uniF [] (idxL m n) C))) := by
  obtain ⟨i0, hi0, hz0, hz1, hz2⟩ := info_parts infoI
  have own0 := World.ownsRow_lit (base := W.heap.size) (e := 3) (size := 1) W #[] 0 (Nat.le_refl _) (by unfold maxLen; omega) (by rfl)
  have b0 := below1 W (.cells #[] 3)
  have HCE := Lib.hid (fun W => cellsS_any a m W ha.1 (Nat.lt_of_lt_of_le hm (Nat.pow_le_pow_right (by omega) h36)))
  rw [cellsC_idx hm h36] at HCE
  unfold Lists at HCE
  have H2 := Lib.hid h2
  have HN := Lib.hid hn
  have HI : Hid (∀ i ∈ idxL m n, i < 36) := idx36 h36
  have HD : Hid (idxL m n).Nodup := idxL_nodup m n
  have HL := Lib.hid hl
  clear h2 hn hl
  generalize idxL m n = I at *
  clear hm h36
  go_enter Tryd.func57, Tryd.ntmps57
  go_wp2_with fail
  refine (HCE.out _).mono ?_
  rintro e w4 ⟨v4, rfl, own4, bb4⟩
  have bb := below_on b0 bb4
  have own0' := own0
  replace own0 := own_below own0 bb4
  obtain ⟨_, A4, c4, rfl, p4⟩ := own_pts own4
  have hlen : (I.map (ptI a)).length = C.length := by rw [List.length_map]; exact HL.out
  rw [hlen] at own4 ⊢
  have hap0 := own_apart_g' own0' (Nat.le_refl _) own4
  rw [size_alloc] at own4
  have H4 := Lib.hid hlen
  clear p4 HCE b0 bb4 own0' hlen
  go_wp2_with fail
  go_loopw [7, 15] (fun o i wr => ∃ (k : Nat) (P : List Nat), k ≤ C.length ∧ i = .int .i64 k ∧ P.length ≤ k ∧ Hid (P = uniF [] (I.take k) (C.take k)) ∧ wr.ownsRow W.heap.size 3 1 o P.length (ints (castL P)) ∧ wr.ownsRow (W.heap.size + 1) 73 2 (.slice A4 C.length c4) C.length (flat (I.map (ptI a))) ∧ Hid ((Value.slice A4 C.length c4).ownBlock = none ∨ (Value.slice A4 C.length c4).ownBlock ≠ o.ownBlock) ∧ Below W.heap.size W wr) (fun _ i _ => C.length - (intOf i).toNat)
  case atStart => exact ⟨0, [], Nat.zero_le _, rfl, Nat.le_refl _, rfl, own0, own4, hap0, bb⟩
  case round =>
    clear own0 own4 hap0 bb
    obtain ⟨wo, rfl⟩ : ∃ wo : World, wo = wr := ⟨_, rfl⟩
    obtain ⟨k, P, hk, rfl, hPk, HP, own, own4, HAP, hb⟩ := hrel
    by_cases hlt : k < C.length
    · have hlI : k < I.length := by have := HL.out; omega
      obtain ⟨g2, rfl, e2⟩ := intsA_on H2.out hb k (by rw [castL_len]; exact hlt)
      rw [castL_get] at e2
      have HQ2 : Hid (∀ w7, Below W.heap.size W w7 → w7.cell? ⟨g2, k, none⟩ = some (.int .i64 (C[k] : Nat))) := fun w7 hb7 => by
        obtain ⟨_, q, e⟩ := intsA_on H2.out hb7 k (by rw [castL_len]; exact hlt)
        cases q
        rw [castL_get] at e
        exact e
      obtain ⟨x, hx⟩ : ∃ x, x = C[k] := ⟨_, rfl⟩
      rw [← hx] at e2 HQ2
      have hi36 : I[k] < 36 := HI.out _ (List.getElem_mem hlI)
      have hxP : x ≤ P.length := by
        have := numF_at HN.out hlt
        rw [← uniF_take_len HL.out HN.out k, ← HP.out, ← hx] at this
        exact this
      have hst : uniF [] (I.take (k + 1)) (C.take (k + 1)) = putP P x I[k] := by rw [uniF_step hlI hlt, ← HP.out, hx]
      have hfree := uniF_free HL.out HD.out HN.out hlI x
      have hq := uniF_lt36 HL.out HN.out HI.out k x
      rw [← HP.out] at hq hfree
      obtain ⟨g4, rfl, -⟩ := ptsA_of own4 k (by rw [H4.out]; exact hlt)
      have hd := gt_cells (ptsA_of own4) (i := k) (by rw [H4.out]; exact hlt)
      rw [gt_ptI hlI] at hd
      obtain ⟨d1, d2⟩ := hd
      simp only at d1 d2
      have hdm := Nat.div_add_mod I[k] a
      have hmod := Nat.mod_lt I[k] (show a > 0 by omega)
      obtain ⟨p, hp, hp2, hp3⟩ := pow_nat I[k] hi36
      have hdv : I[k] / a ≤ 36 := Nat.le_trans (Nat.div_le_self _ _) (by omega)
      obtain ⟨t, ht⟩ : ∃ t, t = I[k] := ⟨_, rfl⟩
      rw [← ht] at d1 d2 hdm hmod hp hp2 hi36 hst hfree hdv
      clear ht
      obtain ⟨u, hu⟩ : ∃ u, u = t % a := ⟨_, rfl⟩
      obtain ⟨v, hv⟩ : ∃ v, v = t / a := ⟨_, rfl⟩
      rw [← hu] at d1 hdm hmod
      rw [← hv] at d2 hdm hdv
      obtain ⟨q4, hq4⟩ : ∃ q4, q4 = v * a := ⟨_, rfl⟩
      rw [Nat.mul_comm, ← hq4] at hdm
      have hqi : (v : Int) * (a : Int) = (q4 : Int) := by rw [hq4, Int.natCast_mul]
      have htn : ((q4 : Int) + (u : Int)).toNat = t := by omega
      have hqt : (q4 : Int) + (u : Int) = (t : Int) := by omega
      have hq36 : q4 ≤ 36 := by omega
      obtain ⟨n, hn⟩ : ∃ n, n = P.length := ⟨_, rfl⟩
      rw [← hn] at own hPk hxP
      have HNP := Lib.hid hn
      obtain ⟨A5, c5, rfl⟩ := own_castL own
      have hPL : n ≤ 9 := by omega
      have hcn : (Value.slice (some ⟨g4, 0, none⟩) C.length c4).ownBlock = some g4 := rfl
      clear hu hv hq4 hdm
      have a1 := at_new wo (u : Int) (v : Int) 73
      have hb1 := hb.alloc hb.size (.cells #[.int .i64 (u : Int), .int .i64 (v : Int)] 73)
      have own1 := own.alloc (.cells #[.int .i64 (u : Int), .int .i64 (v : Int)] 73)
      have own41 := own4.alloc (.cells #[.int .i64 (u : Int), .int .i64 (v : Int)] 73)
      have hrw1 : ∀ k, (Value.slice A5 n c5).ownBlock = some k → W.heap.size ≤ k ∧ k < wo.heap.size := fun k hk => own.lt k hk
      have e3 := HQ2.out _ hb1
      have hs1 : (wo.alloc (.cells #[.int .i64 (u : Int), .int .i64 (v : Int)] 73)).heap.size = wo.heap.size + 1 := size_alloc _ _
      have HLt : Hid (∀ q, (Value.slice (some ⟨g4, 0, none⟩) C.length c4).ownBlock = some q → q < wo.heap.size) := fun q hq => (own4.lt q hq).2
      clear own own4 hb
      by_cases hc : x = n
      · have HS : Hid (P ++ [p] = uniF [] (I.take (k + 1)) (C.take (k + 1))) := by
          show _ = _
          rw [hst]; unfold putP; rw [if_pos (hc.trans hn), hp2]
        subst hc
        have hz : (0 : Int) + (p : Int) = (p : Int) := by omega
        clear hst hq hp2 hx hxP hn hfree hcn
        go_wp2_with fail
        generalize hw1 : wo.alloc (.cells #[.int .i64 (u : Int), .int .i64 (v : Int)] 73) = w1 at *
        clear hw1 e2 d1 d2
        generalize wo.heap.size = g9 at *
        have hs6 := hb1.size
        have HS1 := Lib.hid hs1
        clear hs1
        refine wp_loop_rounds 2 ?_
        rw [rounds_succ]
        go_wp2_with (at_builtin; refine wpList_append_own_at _ rfl _ _ 27 rfl W.heap.size 3 i0 (.int .i64 0) 1 8 Tryd.underlying27 hi0 hz0 hz1 hz2 rfl (by decide) _ _ _ rfl (own1.alloc _) ⟨w1.heap.size, 0, none⟩ 1 1 [.int .i64 0] rfl rfl (World.news_of_block (cs := #[.int .i64 0]) (t := 3) (fr := (0, 0)) (heap_alloc_new w1 _)) ?d2 ?d3 ?d4 ?d5 ?_)
        case d2 => simp [Value.oneCell']
        case d3 => unfold maxLen; omega
        case d4 => omega
        case d5 => first | omega | (simp; omega)
        intro v' w7 own7 hgrow _ hat
        have hb7 := (hb1.alloc hs6 (.cells #[.int .i64 0] 3)).grown hgrow (by simp; omega) (fun k hk => (hrw1 k hk).1)
        have a7 := (a1.alloc (.cells #[.int .i64 0] 3)).grown hgrow (fun e => by have := hrw1 _ e.symm; omega)
        have h8 := (own41.alloc (.cells #[.int .i64 0] 3)).kept hgrow HAP.out
        have hap : (Value.slice (some ⟨g4, 0, none⟩) C.length c4).ownBlock = none ∨ (Value.slice (some ⟨g4, 0, none⟩) C.length c4).ownBlock ≠ v'.ownBlock := by
          rcases HAP.out with h | h
          · exact .inl h
          · refine .inr fun e => ?_
            rcases hat with h' | h'
            · exact h (e.trans h')
            · have := HLt.out _ (e.trans h')
              have := HS1.out
              first | omega | (rename_i q _ ; rw [size_alloc] at q; omega)
        have e7 := HQ2.out _ hb7
        obtain ⟨g7, cap7, rfl⟩ := ownsRow_succ own7
        have own8 : w7.ownsRow W.heap.size 3 1 (.slice (some ⟨g7, 0, none⟩) (x + 1) cap7) (x + 1) (ints (castL (P ++ [0]))) := by rw [castL_snoc, ints_snoc]; exact own7
        have hc7 := row_cell own8 (x := x) (by rw [List.length_append, ← HNP.out]; simp)
        rw [List.getD_eq_getElem?_getD, List.getElem?_append_right (by rw [HNP.out]; exact Nat.le_refl _), ← HNP.out, Nat.sub_self] at hc7
        simp only [List.getElem?_cons_zero, Option.getD_some] at hc7
        have hset : (P ++ [0]).set x p = P ++ [p] := by rw [HNP.out]; simp
        have HPUT := Lib.hid (fun w own => hset ▸ row_put (w := w) (B := W.heap.size) (g := g7) (n := x + 1) (cap := cap7) (e := 3) (P := P ++ [0]) own x p)
        have v1 := a7.c0; have v2 := a7.c1
        have k1 := cell_regrown v1; have k2 := cell_regrown v2; have k3 := cell_regrown e7; have k4 := cell_regrown hc7
        have HC7 := Lib.hid hc7
        have R1 := Lib.hid (And.intro own8 (And.intro hb7 (And.intro h8 hap)))
        clear own1 own41 own7 own8 hb1 hgrow hrw1 hat hset HAP h8 hap hb7 a1 a7 e3 HQ2 HP
        go_wp2_with fail
        rw [rounds_succ]
        go_wp2_with fail
        have hw8 := below_regrown w7
        refine region_tail 22 (by kernel_rfl) (by kernel_rfl) ?_
        simp only [List.take_succ_cons, List.take_zero, List.drop_succ_cons, List.drop_zero]
        repeat (first
          | go_big_quiet_step (fail)
          | quiet_step (fail))
        refine wpQuiet_nil ?_
        rintro _ ⟨⟨dq, osq⟩, rfl⟩
        replace hw8 := hw8 dq osq
        clear k1 k2 k3 k4 v1 v2 e7 hc7
        generalize grow (redrawn w7 dq) osq = w8 at *
        have own9 := own_below R1.out.1 hw8
        have hb9 := below_on R1.out.2.1 hw8
        have h9' := own_below R1.out.2.2.1 hw8
        have HAP9 := Lib.hid R1.out.2.2.2
        have hc9 : w8.cell? ⟨g7, x, none⟩ = some (.int .i64 0) := cell_on hw8 rfl HC7.out
        have hf9 := own9.frozenAt x
        have hput := HPUT.out _ own9
        have hb10 := hb9.setCell (p := ⟨g7, x, none⟩) (own9.lt g7 rfl).1 (.int .i64 (p : Int))
        have h10 := h9'.kept (only_set (World.grownBy.refl w8 (some g7)) x (.int .i64 (p : Int))) HAP9.out
        have R := Lib.hid (And.intro hput (And.intro h10 hb10))
        clear own9 hb9 h9' hput hb10 h10 hw8 R1
        go_wp2_with fail
        go_roundw
        case rel => exact ⟨k + 1, P ++ [p], by omega, by go_num, by rw [List.length_append, ← HNP.out]; simp only [List.length_singleton]; omega, HS, by rw [List.length_append, ← HNP.out]; exact R.out.1, R.out.2.1, HAP9, R.out.2.2⟩
        case measure => simp [intOf]; omega
      · have hxn : x < n := by omega
        obtain ⟨q, hq'⟩ : ∃ q, q = P.getD x 0 := ⟨_, rfl⟩
        rw [← hq'] at hq hfree
        have hadd : q + p = q ||| p := by rw [hp2]; exact add_two_pow hfree
        have HS : Hid (P.set x (q + p) = uniF [] (I.take (k + 1)) (C.take (k + 1))) := by
          show _ = _
          rw [hst, hadd]; unfold putP; rw [if_neg (by omega), hp2, hq']
        have hz : (q : Int) + (p : Int) = ((q + p : Nat) : Int) := by omega
        have hqp : q + p < 9223372036854775807 := by omega
        have hle : ((n : Int) ≤ (x : Int)) = False := by simp; omega
        obtain ⟨g7, rfl⟩ : ∃ g7, A5 = some ⟨g7, 0, none⟩ := by
          obtain ⟨g7, cap7, e7⟩ := own_some own1 (by omega)
          cases e7
          exact ⟨g7, rfl⟩
        have hc7 := row_cell own1 (x := x) (by rw [← HNP.out]; exact hxn)
        rw [← hq'] at hc7
        have HC7 := Lib.hid hc7
        have HPUT := Lib.hid (fun w own => row_put (w := w) (B := W.heap.size) (g := g7) (n := n) (cap := c5) (e := 3) (P := P) own x (q + p))
        have v1 := a1.c0; have v2 := a1.c1
        have k1 := cell_regrown v1; have k2 := cell_regrown v2; have k3 := cell_regrown e3; have k4 := cell_regrown hc7
        clear hst hq hp2 hx hxP hn hfree hcn hc hq' hadd
        generalize q + p = r at *
        go_wp2_with fail
        generalize hw1 : wo.alloc (.cells #[.int .i64 (u : Int), .int .i64 (v : Int)] 73) = w1 at *
        clear hw1 e2 d1 d2
        generalize wo.heap.size = g9 at *
        have R1 := Lib.hid (And.intro own1 (And.intro hb1 (And.intro own41 HAP.out)))
        clear own1 own41 hb1 hrw1 a1 HQ2 HP HAP hs1
        refine wp_loop_rounds 1 ?_
        rw [rounds_succ]
        go_wp2_with fail
        have hw8 := below_regrown w1
        refine region_tail 22 (by kernel_rfl) (by kernel_rfl) ?_
        simp only [List.take_succ_cons, List.take_zero, List.drop_succ_cons, List.drop_zero]
        repeat (first
          | go_big_quiet_step (fail)
          | quiet_step (fail))
        refine wpQuiet_nil ?_
        rintro _ ⟨⟨dq, osq⟩, rfl⟩
        replace hw8 := hw8 dq osq
        clear k1 k2 k3 k4 v1 v2 e3 hc7
        generalize grow (redrawn w1 dq) osq = w8 at *
        have own9 := own_below R1.out.1 hw8
        have hb9 := below_on R1.out.2.1 hw8
        have h9' := own_below R1.out.2.2.1 hw8
        have HAP9 := Lib.hid R1.out.2.2.2
        have hc9 : w8.cell? ⟨g7, x, none⟩ = some (.int .i64 (q : Int)) := cell_on hw8 rfl HC7.out
        have hf9 := own9.frozenAt x
        have hput := HPUT.out _ own9
        have hb10 := hb9.setCell (p := ⟨g7, x, none⟩) (own9.lt g7 rfl).1 (.int .i64 (r : Int))
        have h10 := h9'.kept (only_set (World.grownBy.refl w8 (some g7)) x (.int .i64 (r : Int))) HAP9.out
        have R := Lib.hid (And.intro hput (And.intro h10 hb10))
        clear own9 hb9 h9' hput hb10 h10 hw8 R1
        go_wp2_with fail
        go_roundw
        case rel => exact ⟨k + 1, P.set x r, by omega, by go_num, by rw [List.length_set, ← HNP.out]; omega, HS, by rw [List.length_set, ← HNP.out]; exact R.out.1, R.out.2.1, HAP9, R.out.2.2⟩
        case measure => simp [intOf]; omega
    · have R := Lib.hid (And.intro own hb)
      obtain rfl : k = C.length := by omega
      have HQ : Hid (P = uniF [] I C) := by
        show _ = _
        rw [HP.out, List.take_of_length_le (Nat.le_refl _), List.take_of_length_le (by have := HL.out; omega)]
      clear own hb own4
      go_wp2_with fail
      go_ret
      rw [← HQ.out]
      exact ⟨_, rfl, by rw [castL_len]; exact R.out.1, R.out.2⟩
end Go.Proofs.YtnkehfhedjdhaaaDoor

/-! CutS9 -/
namespace Go.Proofs.YtnkehfhedjdhaaaDoor
open Go.RowKit

theorem shape_of_lt {a b n : Nat} (hn : n = a * b) (ha : 1 ≤ a ∧ a ≤ 6) (hb : 1 ≤ b ∧ b ≤ 6) : ∀ p, p < 2 ^ n → shapeB a b (p : Nat) = true := by
  intro p hp
  unfold shapeB inB
  have e : ((a : Int) * (b : Int)).toNat = n := by rw [hn, ← Int.natCast_mul]; rfl
  rw [e]
  have := pow_cast n
  simp only [Bool.and_eq_true, decide_eq_true_eq]
  omega
theorem uni_lt {m n : Nat} {C : List Nat} (hl : (idxL m n).length = C.length) (hn : numF 0 C = true) : ∀ p ∈ uniF [] (idxL m n) C, p < 2 ^ n := fun _ hp => uniF_lt hl hn (fun _ hi => (mem_idxL.1 hi).1) hp

set_option maxRecDepth 100000 in
set_option maxHeartbeats 4000000 in
theorem spec_cutOk (w h M : Int) (A : Option Addr) (c : Nat) (cut : List Int) (W : World) (hA : IntsA W A cut) (hL : cut.length ≤ 1048576) :
    Calls Tryd.prog 56 #[.int .i64 w, .int .i64 h, .int .i64 M, .slice A cut.length c] W (CutQ w h M cut W) := by
  have HO := Lib.hid (fun W => specOk_any w h M W)
  cases hB : okC w h M
  · rw [hB] at HO
    have R : Hid (CutQ w h M cut W (.returned (.bool false)) W) := ⟨false, rfl, ⟨fun h => (by cases h), fun h => (by have := h.1; rw [hB] at this; cases this)⟩, Below.refl _ _⟩
    clear hB
    go_enter Tryd.func56, Tryd.ntmps56
    go_wp2_with fail
    refine (HO.out _).mono ?_
    rintro e w1 ⟨rfl, rfl⟩
    go_wp2_with fail
    go_ret
    exact R.out
  · rw [hB] at HO
    obtain ⟨a, b, m, n, rfl, rfl, rfl, hab, ha1, ha2, hb1, hb2, hm, hn36, hix, hpc, hl1, hl9, hS⟩ := okC_nat hB
    have HNS := Lib.hid (fun W => ones_any m W (Nat.lt_of_lt_of_le hm (Nat.pow_le_pow_right (by omega) hn36)))
    rw [hpc] at HNS
    by_cases hl : cut.length = (idxL m n).length
    · have HA := Lib.hid hA
      have hmax := hl9
      have R0 : Hid (numV cut = false → ∀ W, CutQ a b m cut W (.returned (.bool false)) W) := fun hV W => ⟨false, rfl, ⟨fun h => (by cases h), fun h => (by have := h.2.2.1; rw [hV] at this; cases this)⟩, Below.refl _ _⟩
      have R1 : Hid (∀ C, cut = castL C → numF 0 C = true → ∀ (v : Bool) w1, Below W.heap.size W w1 → (v = true ↔ AllP a b (castL (uniF [] (idxL m n) C))) → CutQ a b m cut W (.returned (.bool v)) w1) := fun C hC hN v w1 hb hv => ⟨v, rfl, by
          rw [hv, hC]
          unfold CutP
          rw [pieV_cast, hix]
          exact ⟨fun h => ⟨hB, by rw [← hl, hC], by rw [numV_cast]; exact hN, h⟩, fun h => h.2.2.2⟩, hb⟩
      have HP := Lib.hid (fun C (hC : cut = castL C) (hN : numF 0 C = true) W (h2 : IntsA W A (castL C)) => specPieces_any a m n A c C W ⟨ha1, ha2⟩ hm hn36 h2 (by rw [← hl, hC, castL_len]) (by rw [hC, castL_len] at hl; omega) hN)
      have HW := Lib.hid (fun C (hC : cut = castL C) (hN : numF 0 C = true) A c W hP => specWhole_any a b n A c (uniF [] (idxL m n) C) W (shape_of_lt hab ⟨ha1, ha2⟩ ⟨hb1, hb2⟩) hab ⟨ha1, ha2⟩ ⟨hb1, hb2⟩ hn36 hP (by
          have := uni_ge (I := idxL m n) (C := C) (by rw [← hl, hC, castL_len]) hN
          rw [hC, castL_len] at hl; omega) (uni_lt (by rw [← hl, hC, castL_len]) hN))
      rw [← hl] at HNS hmax
      clear hB hab hm hix hpc hl1 hl9 hS hA
      generalize idxL m n = I at *
      clear hl
      go_enter Tryd.func56, Tryd.ntmps56
      go_wp2_with fail
      refine (HO.out _).mono ?_
      rintro e w1 ⟨rfl, rfl⟩
      go_wp2_with fail
      refine (HNS.out _).mono ?_
      rintro e w1 ⟨rfl, rfl⟩
      go_wp2_with fail
      go_loop [9, 26] (fun b i => ∃ (k bg : Nat) (C : List Nat), k ≤ cut.length ∧ i = .int .i64 k ∧ b = .int .i64 bg ∧ bg ≤ k ∧ Hid (cut.take k = castL C ∧ numF 0 C = true ∧ bg = bgF 0 C ∧ C.length = k)) (fun _ i => cut.length - (intOf i).toNat)
      case atStart => exact ⟨0, 0, [], Nat.zero_le _, rfl, rfl, Nat.le_refl _, by simp [castL], rfl, rfl, rfl⟩
      case round =>
        obtain ⟨k, bg, C, hk, rfl, rfl, hbk, HC⟩ := hrel
        by_cases hlt : k < cut.length
        · obtain ⟨g1, rfl, hc⟩ := HA.out k hlt
          obtain ⟨p, hp⟩ : ∃ p, p = cut[k] := ⟨_, rfl⟩
          rw [← hp] at hc
          cases hin : inB p 0 (bg : Int)
          · have HF := Lib.hid (R0.out (numV_fail hlt HC.out.1 (by rw [← HC.out.2.2.1, ← hp]; exact hin)))
            have HI := Lib.hid (fun w => in_any p 0 bg w)
            rw [hin] at HI
            clear hin hp
            go_wp2_with fail
            refine (HI.out _).mono ?_
            rintro e w1 ⟨rfl, rfl⟩
            go_wp2_with fail
            go_ret
            exact HF.out _
          · obtain ⟨x, rfl, hxb⟩ := inB_nat hin
            have HI := Lib.hid (fun w => in_any x 0 bg w)
            rw [hin] at HI
            have HC2 : Hid (cut.take (k + 1) = castL (C ++ [x]) ∧ numF 0 (C ++ [x]) = true ∧ max bg (x + 1) = bgF 0 (C ++ [x]) ∧ (C ++ [x]).length = k + 1) := by
              obtain ⟨q1, q2, q3, q4⟩ := HC.out
              refine ⟨numV_step hlt q1 hp.symm, ?_, ?_, by simp [q4]⟩
              · rw [numF_snoc, q2, Bool.true_and, decide_eq_true_eq]; omega
              · rw [bgF_snoc, q3]
            by_cases he : x = bg
            · subst he
              have hmx : max x (x + 1) = x + 1 := by omega
              rw [hmx] at HC2
              clear hin hp hmx
              go_wp2_with fail
              refine (HI.out _).mono ?_
              rintro e w1 ⟨rfl, rfl⟩
              go_wp2_with fail
              go_round
              case rel => exact ⟨k + 1, x + 1, C ++ [x], by omega, by go_num, by go_num, by omega, HC2⟩
              case measure => simp [intOf]; omega
            · have hmx : max bg (x + 1) = bg := by omega
              rw [hmx] at HC2
              have hne : ((x : Int) == (bg : Int)) = false := by rw [beq_eq_false_iff_ne]; omega
              clear hin hp hmx he
              go_wp2_with fail
              refine (HI.out _).mono ?_
              rintro e w1 ⟨rfl, rfl⟩
              go_wp2_with fail
              go_round
              case rel => exact ⟨k + 1, bg, C ++ [x], by omega, by go_num, rfl, by omega, HC2⟩
              case measure => simp [intOf]; omega
        · obtain ⟨hq1, hq2, _, _⟩ := HC.out
          rw [List.take_of_length_le (by omega)] at hq1
          have HQ1 := Lib.hid (HP.out C hq1 hq2 _ (by rw [← hq1]; exact HA.out))
          have HQ2 := Lib.hid (HW.out C hq1 hq2)
          have RR := Lib.hid (R1.out C hq1 hq2)
          have hcl : C.length = cut.length := by rw [hq1, castL_len]
          rw [hcl] at HQ1
          generalize uniF [] I C = U at *
          clear hq1 hq2 hcl
          go_wp2_with fail
          refine HQ1.out.mono ?_
          rintro e w3 ⟨v, rfl, own3, hb3⟩
          obtain ⟨A3, c3, rfl, p3⟩ := castL_intsA own3
          have H3 := Lib.hid (HQ2.out A3 c3 w3 p3)
          rw [castL_len]
          clear own3 p3
          go_wp2_with fail
          refine H3.out.mono ?_
          rintro e w4 ⟨v, rfl, hv, rfl⟩
          have RQ := Lib.hid (RR.out v _ hb3 hv)
          clear hv hb3
          go_wp2_with fail
          go_ret
          exact RQ.out
    · have hlq : ((cut.length : Int) == ((idxL m n).length : Int)) = false := by rw [beq_eq_false_iff_ne]; omega
      have R : Hid (CutQ a b m cut W (.returned (.bool false)) W) := ⟨false, rfl, ⟨fun h => (by cases h), fun h => (by have := h.2.1; rw [hix] at this; omega)⟩, Below.refl _ _⟩
      generalize (idxL m n).length = q at *
      clear hB hab hm hix hpc hl hS hA
      go_enter Tryd.func56, Tryd.ntmps56
      go_wp2_with fail
      refine (HO.out _).mono ?_
      rintro e w1 ⟨rfl, rfl⟩
      go_wp2_with fail
      refine (HNS.out _).mono ?_
      rintro e w1 ⟨rfl, rfl⟩
      go_wp2_with fail
      go_ret
      exact R.out
end Go.Proofs.YtnkehfhedjdhaaaDoor

/-! RowsR -/
namespace Go.Proofs.YtnkehfhedjdhaaaDoor
open Go.RowKit

/-- A row: its block, its capacity, its numbers. -/
structure Rw where
  g : Nat
  cap : Nat
  M : List Int
/-- The slice of a row. -/
def hdr (r : Rw) : Value := .slice (some ⟨r.g, 0, none⟩) r.M.length r.cap
theorem hdr_own (r : Rw) : (hdr r).ownBlock = some r.g := rfl
/-- v is a slice of the rows Rs, all owned from block B on, no two in one block. -/
structure RowsR (w : World) (B : Nat) (v : Value) (Rs : List Rw) : Prop where
  out : w.ownsRow B 27 1 v Rs.length (Rs.map hdr)
  row : ∀ r ∈ Rs, w.ownsRow B 3 1 (hdr r) r.M.length (ints r.M)
  far : ∀ r ∈ Rs, v.ownBlock ≠ some r.g
  nodup : (Rs.map Rw.g).Nodup
theorem rowsR_nil (w : World) (B : Nat) : RowsR w B (.slice none 0 0) [] :=
  ⟨World.ownsRow_nil _ _ _ _, fun r h => (by cases h), fun r h => (by cases h), by simp⟩
theorem RowsR.below {w w' : World} {B : Nat} {v : Value} {Rs : List Rw} (h : RowsR w B v Rs) (hb : Below w.heap.size w w') : RowsR w' B v Rs :=
  ⟨own_below h.out hb, fun r hr => own_below (h.row r hr) hb, h.far, h.nodup⟩
theorem RowsR.base {w : World} {B B' : Nat} {v : Value} {Rs : List Rw} (h : RowsR w B v Rs) (hb : B' ≤ B) : RowsR w B' v Rs :=
  ⟨own_base h.out hb, fun r hr => own_base (h.row r hr) hb, h.far, h.nodup⟩
theorem RowsR.lt {w : World} {B : Nat} {v : Value} {Rs : List Rw} (h : RowsR w B v Rs) {r : Rw} (hr : r ∈ Rs) : B ≤ r.g ∧ r.g < w.heap.size := (h.row r hr).lt r.g rfl
/-- The slice's own address, where it has rows. -/
theorem RowsR.form {w : World} {B : Nat} {v : Value} {Rs : List Rw} (h : RowsR w B v Rs) : ∃ A c, v = .slice A Rs.length c ∧ ∀ i (hi : i < Rs.length), ∃ g, A = some ⟨g, 0, none⟩ ∧ w.cell? ⟨g, i, none⟩ = some (hdr Rs[i]) := by
  rcases h.out.2 with ⟨rfl, h0⟩ | ⟨g, cap, cur, rfl, hg, hh, _⟩
  · exact ⟨none, 0, by rw [h0], fun k hk => by omega⟩
  · refine ⟨some ⟨g, 0, none⟩, cap, rfl, fun k hk => ⟨g, rfl, ?_⟩⟩
    rw [h.out.cellAt k (by omega)]
    simp [hk]
/-- Marks from s on. -/
def marksS (s : Int) (m : Nat) : List Int := (List.range m).map fun (j : Nat) => s + (j : Int)
theorem marksS_len (s : Int) (m : Nat) : (marksS s m).length = m := by simp [marksS]
theorem marksS_step {s : Int} {j : Nat} {xs : List Value} (hj : j < xs.length) : (ints (marksS s j) ++ xs.drop j).set j (.int .i64 (s + (j : Int))) = ints (marksS s (j + 1)) ++ xs.drop (j + 1) := by
  have h1 : (ints (marksS s j)).length = j := by rw [ints_len, marksS_len]
  have h2 : (xs.drop j).set 0 (.int .i64 (s + (j : Int))) = .int .i64 (s + (j : Int)) :: xs.drop (j + 1) := by
    rw [List.drop_eq_getElem_cons hj]; rfl
  rw [List.set_append_right _ _ (by omega), h1, Nat.sub_self, h2]
  simp [marksS, ints, List.range_succ]
theorem mark_w {s : Int} {k : Nat} (h0 : 0 ≤ s) (h1 : s ≤ 1000000000) (hk : k ≤ 1048576) : wrap64 (s + (k : Int) + 1) = s + ((k + 1 : Nat) : Int) ∧ IntKind.i64.wrap (s + (k : Int) + 1) = s + ((k + 1 : Nat) : Int) := by
  have e : s + (k : Int) + 1 = s + ((k + 1 : Nat) : Int) := by omega
  rw [e]
  exact ⟨IntWalk.wrap64_in _ (by omega), IntWalk.i64_in _ (by omega)⟩
set_option maxRecDepth 100000 in
set_option maxHeartbeats 800000 in
/-- A row is overwritten by its marks from s on. -/
theorem mark_row (B g cap : Nat) (n : Nat) (xs : List Value) (s : Int) (w : World) (hown : w.ownsRow B 3 1 (.slice (some ⟨g, 0, none⟩) n cap) n xs) (hn : n ≤ 1048576) (hs0 : 0 ≤ s) (hs1 : s ≤ 1000000000) :
    Calls Tryd.prog 25 #[.slice (some ⟨g, 0, none⟩) n cap, .int .i64 s] w fun e w' => e = .returned (.int .i64 (s + (n : Int))) ∧ w'.ownsRow B 3 1 (.slice (some ⟨g, 0, none⟩) n cap) n (ints (marksS s n)) ∧ w.grownBy w' (some g) := by
  have hl : xs.length = n := by have := hown.1; omega
  go_enter Tryd.func25, Tryd.ntmps25
  go_wp2_with fail
  go_loopw [1, 5] (fun m i wr => ∃ (k : Nat) (sv : Int), k ≤ n ∧ Hid (sv = s + (k : Int)) ∧ i = .int .i64 k ∧ m = .int .i64 sv ∧ wr.ownsRow B 3 1 (.slice (some ⟨g, 0, none⟩) n cap) n (ints (marksS s k) ++ xs.drop k) ∧ w.grownBy wr (some g)) (fun _ i _ => n - (intOf i).toNat)
  case atStart => exact ⟨0, s, Nat.zero_le _, by show s = s + ((0 : Nat) : Int); omega, rfl, rfl, by simpa [marksS, ints] using hown, World.grownBy.refl _ _⟩
  case round =>
    obtain ⟨k, sv, hk, HS, rfl, rfl, hown', hgr⟩ := hrel
    by_cases hlt : k < n
    · obtain ⟨u1, hc1⟩ := cell_some1 hown' k hlt
      have hf1 := hown'.frozenAt k
      have hs2 := (hown'.stored k (.int .i64 sv)).1
      have hst := marksS_step (s := s) (j := k) (xs := xs) (by omega)
      rw [← HS.out] at hst
      rw [hst] at hs2
      have hg2 := only_set hgr k (.int .i64 sv)
      have R := Lib.hid (And.intro hs2 hg2)
      obtain ⟨f1, f1'⟩ := mark_w (s := s) (k := k) hs0 hs1 (by omega)
      have HS1 : Hid (s + ((k + 1 : Nat) : Int) = sv + 1) := by show _ = _; rw [HS.out]; omega
      rw [← HS.out, HS1.out] at f1 f1'
      have HS2 : Hid (sv + 1 = s + ((k + 1 : Nat) : Int)) := HS1.out.symm
      clear hs2 hst hg2 hown' hgr hown HS1
      go_wp2_with fail
      clear f1 f1'
      go_roundw
      case rel => exact ⟨k + 1, sv + 1, by omega, HS2, by go_num, rfl, R.out.1, R.out.2⟩
      case measure => simp [intOf]; omega
    · obtain rfl : k = n := by omega
      rw [List.drop_of_length_le (by omega), List.append_nil] at hown'
      have R := Lib.hid hown'
      clear hown' hown
      go_wp2_with fail
      go_ret
      exact ⟨by rw [HS.out]; rfl, R.out, hgr⟩
set_option maxRecDepth 100000 in
set_option maxHeartbeats 800000 in
/-- The marks from s on are still there. -/
theorem held_row (B g cap : Nat) (n : Nat) (s : Int) (w : World) (hown : w.ownsRow B 3 1 (.slice (some ⟨g, 0, none⟩) n cap) n (ints (marksS s n))) (hn : n ≤ 1048576) (hs0 : 0 ≤ s) (hs1 : s ≤ 1000000000) :
    Calls Tryd.prog 26 #[.slice (some ⟨g, 0, none⟩) n cap, .int .i64 s] w fun e w' => e = .returned (.int .i64 (s + (n : Int))) ∧ w' = w := by
  have HC : Hid (∀ j, j < n → w.cell? ⟨g, j, none⟩ = some (.int .i64 (s + (j : Int)))) := fun j hj => (hown.cellAt j (by omega)).trans (by simp [marksS, ints, hj])
  clear hown
  go_enter Tryd.func26, Tryd.ntmps26
  go_wp2_with fail
  go_loopw [1, 5] (fun m i wr => ∃ (k : Nat) (sv : Int), k ≤ n ∧ Hid (sv = s + (k : Int)) ∧ i = .int .i64 k ∧ m = .int .i64 sv ∧ wr = w) (fun _ i _ => n - (intOf i).toNat)
  case atStart => exact ⟨0, s, Nat.zero_le _, by show s = s + ((0 : Nat) : Int); omega, rfl, rfl, rfl⟩
  case round =>
    obtain ⟨k, sv, hk, HS, rfl, rfl, rfl⟩ := hrel
    by_cases hlt : k < n
    · have hc1 := HC.out k hlt
      rw [← HS.out] at hc1
      obtain ⟨f1, f1'⟩ := mark_w (s := s) (k := k) hs0 hs1 (by omega)
      have HS1 : Hid (s + ((k + 1 : Nat) : Int) = sv + 1) := by show _ = _; rw [HS.out]; omega
      rw [← HS.out, HS1.out] at f1 f1'
      have HS2 : Hid (sv + 1 = s + ((k + 1 : Nat) : Int)) := HS1.out.symm
      clear HS1
      go_wp2_with fail
      clear f1 f1'
      go_roundw
      case rel => exact ⟨k + 1, sv + 1, by omega, HS2, by go_num, rfl, by first | trivial | rfl⟩
      case measure => simp [intOf]; omega
    · obtain rfl : k = n := by omega
      go_wp2_with fail
      go_ret
      exact ⟨by rw [HS.out]; rfl, rfl⟩
def mkR (q j : Nat) (r : Rw) : Rw := { r with M := marksS (1 + (q : Int) * (j : Int)) q }
/-- The first k rows are overwritten by marks. -/
def mixR (q : Nat) (Rs : List Rw) (k : Nat) : List Rw := Rs.mapIdx fun j r => bif decide (j < k) then mkR q j r else r
theorem mix_len (q : Nat) (Rs : List Rw) (k : Nat) : (mixR q Rs k).length = Rs.length := by simp [mixR]
theorem mix_get {q : Nat} {Rs : List Rw} {k j : Nat} (hj : j < (mixR q Rs k).length) : (mixR q Rs k)[j] = bif decide (j < k) then mkR q j (Rs[j]'(by rwa [mix_len] at hj)) else (Rs[j]'(by rwa [mix_len] at hj)) := by
  simp [mixR]
theorem mix_zero (q : Nat) (Rs : List Rw) : mixR q Rs 0 = Rs := by
  refine List.ext_getElem (mix_len _ _ _) fun j h1 h2 => ?_
  rw [mix_get]; rfl
theorem mix_g (q : Nat) (Rs : List Rw) (k : Nat) : (mixR q Rs k).map Rw.g = Rs.map Rw.g := by
  refine List.ext_getElem (by simp [mix_len]) fun j h1 h2 => ?_
  rw [List.getElem_map, List.getElem_map, mix_get]
  cases decide (j < k) <;> rfl
theorem mix_hdr {q : Nat} {Rs : List Rw} (hq : ∀ r ∈ Rs, r.M.length = q) (k : Nat) : (mixR q Rs k).map hdr = Rs.map hdr := by
  refine List.ext_getElem (by simp [mix_len]) fun j h1 h2 => ?_
  rw [List.getElem_map, List.getElem_map, mix_get]
  have := hq _ (List.getElem_mem (l := Rs) (n := j) (by simpa using h2))
  cases decide (j < k)
  · rfl
  · simp only [cond_true, hdr, mkR, marksS_len]
    rw [this]
theorem g_inj {Rs : List Rw} (h : (Rs.map Rw.g).Nodup) {i j : Nat} (hi : i < Rs.length) (hj : j < Rs.length) (e : (Rs[i]).g = (Rs[j]).g) : i = j := by
  have h1 : i < (Rs.map Rw.g).length := by simpa using hi
  have h2 : j < (Rs.map Rw.g).length := by simpa using hj
  exact (List.getElem_inj (h₀ := h1) (h₁ := h2) h).1 (by simpa using e)
theorem mix_step {w w' : World} {B : Nat} {v : Value} {Rs : List Rw} {q k : Nat} (hq : ∀ r ∈ Rs, r.M.length = q) (hk : k < Rs.length) (h : RowsR w B v (mixR q Rs k))
    (ho : w'.ownsRow B 3 1 (.slice (some ⟨(Rs[k]).g, 0, none⟩) q (Rs[k]).cap) q (ints (marksS (1 + (q : Int) * (k : Int)) q))) (hg : w.grownBy w' (some (Rs[k]).g)) : RowsR w' B v (mixR q Rs (k + 1)) := by
  have hlen := mix_len q Rs k
  have hkm : (mixR q Rs k)[k]'(by omega) = Rs[k] := by rw [mix_get]; simp
  have hfar : v.ownBlock ≠ some (Rs[k]).g := by
    have := h.far _ (List.getElem_mem (l := mixR q Rs k) (n := k) (by omega))
    rwa [hkm] at this
  have hnd : (Rs.map Rw.g).Nodup := by have := h.nodup; rwa [mix_g] at this
  refine ⟨?_, ?_, ?_, by rw [mix_g]; exact hnd⟩
  · have o := h.out.kept hg (by
      cases hv : v.ownBlock with
      | none => exact .inl rfl
      | some b => exact .inr (fun e => hfar (by rw [hv, ← e])))
    rw [mix_hdr hq, mix_len] at o
    rw [mix_hdr hq, mix_len]
    exact o
  · intro r hr
    obtain ⟨j, hj, rfl⟩ := List.getElem_of_mem hr
    have hj' : j < Rs.length := by rwa [mix_len] at hj
    by_cases e : j = k
    · subst e
      rw [mix_get, decide_eq_true (Nat.lt_succ_self j), cond_true]
      show w'.ownsRow B 3 1 (.slice (some ⟨(Rs[j]).g, 0, none⟩) (marksS _ q).length (Rs[j]).cap) (marksS _ q).length _
      rw [marksS_len]
      exact ho
    · have hd : decide (j < k + 1) = decide (j < k) := by
        rw [decide_eq_decide]; omega
      have hs : (mixR q Rs (k + 1))[j] = (mixR q Rs k)[j]'(by omega) := by rw [mix_get, mix_get, hd]
      rw [hs]
      have o := h.row _ (List.getElem_mem (l := mixR q Rs k) (n := j) (by omega))
      refine o.kept hg (.inr fun e2 => e (g_inj hnd hj' hk ?_))
      have e3 : ((mixR q Rs k)[j]'(by omega)).g = (Rs[j]).g := by rw [mix_get]; cases decide (j < k) <;> rfl
      rw [hdr_own, e3] at e2
      exact Option.some.inj e2
  · intro r hr
    obtain ⟨j, hj, rfl⟩ := List.getElem_of_mem hr
    have := h.far _ (List.getElem_mem (l := mixR q Rs k) (n := j) (by rw [mix_len] at hj ⊢; exact hj))
    have e3 : ((mixR q Rs k)[j]'(by rw [mix_len] at hj ⊢; exact hj)).g = ((mixR q Rs (k + 1))[j]).g := by
      rw [mix_get, mix_get]; cases decide (j < k) <;> cases decide (j < k + 1) <;> rfl
    rwa [e3] at this
theorem mix_all (q : Nat) (Rs : List Rw) {r : Rw} (h : r ∈ mixR q Rs Rs.length) : ∃ j, ∃ hj : j < Rs.length, r = mkR q j Rs[j] := by
  obtain ⟨j, hj, rfl⟩ := List.getElem_of_mem h
  have hj' : j < Rs.length := by rwa [mix_len] at hj
  exact ⟨j, hj', by rw [mix_get, decide_eq_true hj']; rfl⟩
theorem row_w {q k n : Nat} (hq : q ≤ 1000) (hk : k ≤ n) (hn : n ≤ 1000) : 0 ≤ 1 + (q : Int) * (k : Int) ∧ 1 + (q : Int) * (k : Int) ≤ 1000000000 := by
  have h : q * k ≤ 1000 * 1000 := Nat.mul_le_mul hq (Nat.le_trans hk hn)
  have e : (q : Int) * (k : Int) = ((q * k : Nat) : Int) := by simp
  rw [e]; omega
theorem row_nx (q k : Nat) : 1 + (q : Int) * (k : Int) + (q : Int) = 1 + (q : Int) * ((k + 1 : Nat) : Int) := by
  rw [Int.natCast_add, Int.mul_add]; simp; omega
theorem k_w {k n : Nat} (hk : k ≤ n) (hn : n ≤ 1000) : wrap64 ((k : Int) + 1) = (k : Int) + 1 ∧ IntKind.i64.wrap ((k : Int) + 1) = (k : Int) + 1 := ⟨IntWalk.wrap64_in _ (by omega), IntWalk.i64_in _ (by omega)⟩
/-- Nothing of what lay has changed but the rows. -/
structure ButRows (Rs : List Rw) (w w' : World) : Prop where
  os : w'.os = w.os
  tape : w'.tape = w.tape
  output : w'.output = w.output
  size : w.heap.size ≤ w'.heap.size
  block : ∀ j, j < w.heap.size → (∀ r ∈ Rs, r.g ≠ j) → w'.heap[j]? = w.heap[j]?
theorem ButRows.refl (Rs : List Rw) (w : World) : ButRows Rs w w := ⟨rfl, rfl, rfl, Nat.le_refl _, fun _ _ _ => rfl⟩
theorem ButRows.step {Rs : List Rw} {w a b : World} {g : Nat} (h : ButRows Rs w a) (hg : a.grownBy b (some g)) (hn : ∀ j, (∀ r ∈ Rs, r.g ≠ j) → g ≠ j) : ButRows Rs w b :=
  ⟨hg.os.trans h.os, hg.tape.trans h.tape, hg.output.trans h.output, Nat.le_trans h.size hg.size, fun j hj hr => (hg.block j (Nat.lt_of_lt_of_le hj h.size) (fun e => hn j hr (Option.some.inj e).symm)).trans (h.block j hj hr)⟩
theorem ButRows.below {Rs : List Rw} {w a b : World} {B : Nat} (h : ButRows Rs a b) (hb : Below B w a) (hB : B ≤ a.heap.size) (hr : ∀ r ∈ Rs, B ≤ r.g) : Below B w b :=
  ⟨h.os.trans hb.os, h.tape.trans hb.tape, h.output.trans hb.output, Nat.le_trans hb.size h.size, fun j hj => (h.block j (Nat.lt_of_lt_of_le hj hB) (fun r hrr e => by have := hr r hrr; omega)).trans (hb.block j hj)⟩
/-- Another slice of the call's own, whose block is no row's. -/
theorem ButRows.own {Rs : List Rw} {w w' : World} {B size n : Nat} {e : TypeId} {v : Value} {xs : List Value} (h : ButRows Rs w w') (ho : w.ownsRow B e size v n xs) (hf : ∀ r ∈ Rs, v.ownBlock ≠ some r.g) : w'.ownsRow B e size v n xs := by
  refine ⟨ho.1, ?_⟩
  rcases ho.2 with hn | ⟨g, cap, cur, rfl, hb, hgg, rest⟩
  · exact .inl hn
  · refine .inr ⟨g, cap, cur, rfl, hb, ?_, rest⟩
    exact (h.block g (Array.getElem?_eq_some_iff.1 hgg).1 (fun r hr e => hf r hr (by rw [e]; rfl))).trans hgg
end Go.Proofs.YtnkehfhedjdhaaaDoor

/-! FirstQ10 -/
namespace Go.Proofs.YtnkehfhedjdhaaaDoor
open Go.RowKit

def ResQ (P : List Int × Bool → Prop) (W : World) (e : Ending) (w' : World) : Prop := ∃ V v, e = .returned (.tuple #[v, .bool V.2]) ∧ P V ∧ w'.ownsRow W.heap.size 3 1 v V.1.length (ints V.1) ∧ Below W.heap.size W w'
end Go.Proofs.YtnkehfhedjdhaaaDoor
