/-
  Plain geometry: three points on a line; two sides that touch; straight corners.
-/
import Derived.Test.YtimkknljoeiceaaStraight
import Derived.Test.YtimkknljoeiceaaPtFacts
namespace Go.Proofs.Ytimkknljoeiceaa
open Go.RowKit

theorem mul_signs (x y : Int) : (0 < x → 0 < y → 0 < x * y) ∧ (x < 0 → y < 0 → 0 < x * y) ∧ (0 < x → y < 0 → x * y < 0) ∧ (x < 0 → 0 < y → x * y < 0) ∧ (x = 0 → x * y = 0) ∧ (y = 0 → x * y = 0) := by
  refine ⟨Int.mul_pos, Int.mul_pos_of_neg_of_neg, Int.mul_neg_of_pos_of_neg, Int.mul_neg_of_neg_of_pos, fun h => by rw [h, Int.zero_mul], fun h => by rw [h, Int.mul_zero]⟩
theorem prop_le {p q r s : Nat} (h : p * s = q * r) (hp : 0 < p) (hr : p ≤ r) : q ≤ s := by
  rcases Nat.lt_or_ge s q with h1 | h1
  · exfalso
    have h2 : p * s < p * q := Nat.mul_lt_mul_of_pos_left h1 hp
    have h3 : q * p ≤ q * r := Nat.mul_le_mul_left q hr
    rw [Nat.mul_comm q p] at h3
    omega
  · exact h1
theorem prop_ge {p q r s : Nat} (h : p * s = q * r) (hp : 0 < p) (hr : r ≤ p) : s ≤ q := by
  rcases Nat.lt_or_ge q s with h1 | h1
  · exfalso
    have h2 : p * q < p * s := Nat.mul_lt_mul_of_pos_left h1 hp
    have h3 : q * r ≤ q * p := Nat.mul_le_mul_left q hr
    rw [Nat.mul_comm q p] at h3
    omega
  · exact h1
theorem opp_x {ux uy vx vy : Int} (h : ux * vy = uy * vx) (hx : (0 < ux ∧ vx < 0) ∨ (ux < 0 ∧ 0 < vx)) :
    (0 < uy → vy < 0) ∧ (uy < 0 → 0 < vy) ∧ (uy = 0 → vy = 0) ∧ (ux.natAbs ≤ vx.natAbs → uy.natAbs ≤ vy.natAbs) ∧ (vx.natAbs ≤ ux.natAbs → vy.natAbs ≤ uy.natAbs) := by
  have hn : ux.natAbs * vy.natAbs = uy.natAbs * vx.natAbs := by rw [← Int.natAbs_mul, ← Int.natAbs_mul, h]
  have hp : 0 < ux.natAbs := by omega
  have m1 := mul_signs ux vy
  have m2 := mul_signs uy vx
  rw [h] at m1
  generalize uy * vx = z at *
  refine ⟨?_, ?_, ?_, prop_le hn hp, prop_ge hn hp⟩
  · intro hu
    rcases Int.lt_trichotomy vy 0 with hz | hz | hz
    · exact hz
    · exfalso
      rcases hx with hx | hx
      · have := m2.2.2.1 hu hx.2; have := m1.2.2.2.2.2 hz; omega
      · have := m2.1 hu hx.2; have := m1.2.2.2.2.2 hz; omega
    · exfalso
      rcases hx with hx | hx
      · have := m2.2.2.1 hu hx.2; have := m1.1 hx.1 hz; omega
      · have := m2.1 hu hx.2; have := m1.2.2.2.1 hx.1 hz; omega
  · intro hu
    rcases Int.lt_trichotomy vy 0 with hz | hz | hz
    · exfalso
      rcases hx with hx | hx
      · have := m2.2.1 hu hx.2; have := m1.2.2.1 hx.1 hz; omega
      · have := m2.2.2.2.1 hu hx.2; have := m1.2.1 hx.1 hz; omega
    · exfalso
      rcases hx with hx | hx
      · have := m2.2.1 hu hx.2; have := m1.2.2.2.2.2 hz; omega
      · have := m2.2.2.2.1 hu hx.2; have := m1.2.2.2.2.2 hz; omega
    · exact hz
  · intro hu
    have := m2.2.2.2.2.1 hu
    rcases Int.lt_trichotomy vy 0 with hz | hz | hz
    · exfalso
      rcases hx with hx | hx
      · have := m1.2.2.1 hx.1 hz; omega
      · have := m1.2.1 hx.1 hz; omega
    · exact hz
    · exfalso
      rcases hx with hx | hx
      · have := m1.1 hx.1 hz; omega
      · have := m1.2.2.2.1 hx.1 hz; omega
/-- x is between a and b. -/
def bt (a b x : Int) : Prop := (a ≤ x ∧ x ≤ b) ∨ (b ≤ x ∧ x ≤ a)
/-- Three points 0, u, u + v on a line: one is between the others. -/
theorem between3 {ux uy vx vy : Int} (h : ux * vy = uy * vx) :
    (bt 0 (ux + vx) ux ∧ bt 0 (uy + vy) uy) ∨ (bt ux (ux + vx) 0 ∧ bt uy (uy + vy) 0) ∨ (bt 0 ux (ux + vx) ∧ bt 0 uy (uy + vy)) := by
  unfold bt
  by_cases hx : (0 < ux ∧ vx < 0) ∨ (ux < 0 ∧ 0 < vx)
  · obtain ⟨k1, k2, k3, k4, k5⟩ := opp_x h hx
    right
    rcases Nat.le_total ux.natAbs vx.natAbs with hm | hm
    · have := k4 hm
      left
      constructor
      · omega
      · rcases Int.lt_trichotomy uy 0 with hu | hu | hu
        · have := k2 hu; omega
        · have := k3 hu; omega
        · have := k1 hu; omega
    · have := k5 hm
      right
      constructor
      · omega
      · rcases Int.lt_trichotomy uy 0 with hu | hu | hu
        · have := k2 hu; omega
        · have := k3 hu; omega
        · have := k1 hu; omega
  · by_cases hy : (0 < uy ∧ vy < 0) ∨ (uy < 0 ∧ 0 < vy)
    · obtain ⟨k1, k2, k3, k4, k5⟩ := opp_x h.symm hy
      right
      rcases Nat.le_total uy.natAbs vy.natAbs with hm | hm
      · have := k4 hm
        left
        constructor
        · rcases Int.lt_trichotomy ux 0 with hu | hu | hu
          · have := k2 hu; omega
          · have := k3 hu; omega
          · have := k1 hu; omega
        · omega
      · have := k5 hm
        right
        constructor
        · rcases Int.lt_trichotomy ux 0 with hu | hu | hu
          · have := k2 hu; omega
          · have := k3 hu; omega
          · have := k1 hu; omega
        · omega
    · left
      constructor <;> omega
theorem boxB_iff (ax ay bx by' px py : Int) : boxB ax ay bx by' px py = true ↔ bt ax bx px ∧ bt ay by' py := by
  unfold bt boxB
  simp only [Bool.and_eq_true, inB_spec]
  omega
theorem onP_iff (a b p : Int × Int) : onP a b p = true ↔ crossP a b p = 0 ∧ bt a.1 b.1 p.1 ∧ bt a.2 b.2 p.2 := by
  unfold onP onI crossP
  rw [Bool.and_eq_true, beq_iff_eq, boxB_iff]
/-- One of three points on a line is between the others. -/
theorem on_line {a b c : Int × Int} (h : crossP a b c = 0) : onP a c b = true ∨ onP b c a = true ∨ onP a b c = true := by
  have h' : (b.1 - a.1) * (c.2 - b.2) = (b.2 - a.2) * (c.1 - b.1) := by
    unfold crossP crossI at h
    have e1 : c.2 - a.2 = (b.2 - a.2) + (c.2 - b.2) := by omega
    have e2 : c.1 - a.1 = (b.1 - a.1) + (c.1 - b.1) := by omega
    rw [e1, e2, Int.mul_add, Int.mul_add, Int.mul_comm (b.2 - a.2) (b.1 - a.1)] at h
    omega
  have f1 : crossP a c b = 0 := by
    have := h
    unfold crossP at this ⊢
    rw [cross_swap] at this; omega
  have f2 : crossP b c a = 0 := by
    have := h
    unfold crossP at this ⊢
    rw [cross_turn] at this; exact this
  simp only [onP_iff]
  have := between3 h'
  unfold bt at *
  rcases this with h1 | h1 | h1
  · exact .inl ⟨f1, by omega, by omega⟩
  · exact .inr (.inl ⟨f2, by omega, by omega⟩)
  · exact .inr (.inr ⟨h, by omega, by omega⟩)
theorem eqQ_iff (p q : Int × Int) : eqQ p q = true ↔ p = q := by
  unfold eqQ
  rw [Bool.and_eq_true, beq_iff_eq, beq_iff_eq, Prod.ext_iff]
theorem sameAll_iff (x : Int × Int) (t : List (Int × Int)) : sameAll (x :: t) = true ↔ ∀ y ∈ x :: t, y = x := by
  simp only [sameAll, List.all_eq_true, Bool.and_eq_true, beq_iff_eq]
  constructor
  · intro h y hy
    rcases List.mem_cons.1 hy with rfl | hy
    · rfl
    · exact Prod.ext (h y hy).1 (h y hy).2
  · intro h y hy
    rw [h y (List.mem_cons_of_mem _ hy)]
    exact ⟨rfl, rfl⟩
theorem meet_one {a b c d : Int × Int} (h : meetI a b c d = 1) : ∀ p q, p ∈ sharedS a b c d → q ∈ sharedS a b c d → p = q := by
  unfold meetI at h
  cases h1 : (opp a b c d && opp c d a b)
  · rw [h1] at h
    cases hS : sharedS a b c d with
    | nil => intro p q hp; simp at hp
    | cons x t =>
      rw [hS] at h
      cases h2 : sameAll (x :: t)
      · rw [h2] at h; simp at h
      · have := (sameAll_iff x t).1 h2
        intro p q hp hq
        rw [this p hp, this q hq]
  · rw [h1] at h; simp at h
theorem mem_shared {a b c d p : Int × Int} : p ∈ sharedS a b c d ↔ ((p = a ∨ p = b) ∧ onP c d p = true) ∨ ((p = c ∨ p = d) ∧ onP a b p = true) := by
  simp [sharedS, List.mem_filter]
/-- Two sides that touch at their common corner: on a line only if the corner is between the others. -/
theorem touch_between {a b c : Int × Int} (hab : a ≠ b) (hbc : b ≠ c) (h : meetI a b b c = 1) (hc : crossP a b c = 0) : onP a c b = true := by
  have hb : b ∈ sharedS a b b c := mem_shared.2 (.inl ⟨.inr rfl, on_left b c⟩)
  rcases on_line hc with h1 | h1 | h1
  · exact h1
  · exact absurd (meet_one h a b (mem_shared.2 (.inl ⟨.inl rfl, h1⟩)) hb) hab
  · exact absurd (meet_one h b c hb (mem_shared.2 (.inr ⟨.inr rfl, h1⟩))) hbc

/-! ### A polygon's sides -/
theorem polyB_spec {L : List (Int × Int)} (h : polyB L = true) : (3 ≤ L.length ∧ L.length ≤ 10) ∧ allOk L = true ∧ (∀ i, i < L.length → gt L i ≠ gt L (nx L i)) ∧
    (∀ i k, i < k → k < L.length → pairM L i k = bif adjB L.length i k then 1 else 0) := by
  simp only [polyB, Bool.and_eq_true] at h
  obtain ⟨⟨⟨h1, h2⟩, h3⟩, h4⟩ := h
  have hn := inB_spec.1 h1
  refine ⟨by omega, h2, fun i hi he => ?_, fun i k hi hk => ?_⟩
  · have := List.all_eq_true.1 h3 i (List.mem_range.2 hi)
    rw [show eqQ (gt L i) (gt L ((i + 1) % L.length)) = true from (eqQ_iff _ _).2 he] at this
    simp at this
  · have h5 := List.all_eq_true.1 (List.all_eq_true.1 h4 i (List.mem_range.2 (by omega))) k (List.mem_range.2 hk)
    simp only [Bool.or_eq_true, decide_eq_true_eq] at h5
    rcases h5 with h5 | h5
    · omega
    · unfold pairOk at h5
      cases ha : adjB L.length i k
      · rw [ha] at h5; simpa using h5
      · rw [ha] at h5; simpa using h5
theorem nx_lt {L : List (Int × Int)} (h : 0 < L.length) (i : Nat) : nx L i < L.length := Nat.mod_lt _ h
theorem pv_lt {L : List (Int × Int)} (h : 0 < L.length) (i : Nat) : pv L i < L.length := Nat.mod_lt _ h
theorem nx_eq {L : List (Int × Int)} {i : Nat} (hi : i < L.length) : nx L i = if i + 1 = L.length then 0 else i + 1 := by
  unfold nx
  by_cases h : i + 1 = L.length
  · rw [if_pos h, h, Nat.mod_self]
  · rw [if_neg h, Nat.mod_eq_of_lt (by omega)]
theorem pv_eq {L : List (Int × Int)} {i : Nat} (hi : i < L.length) : pv L i = if i = 0 then L.length - 1 else i - 1 := by
  unfold pv
  by_cases h : i = 0
  · rw [if_pos h, h, Nat.zero_add, Nat.mod_eq_of_lt (by omega)]
  · rw [if_neg h, show i + L.length - 1 = (i - 1) + L.length by omega, Nat.add_mod_right, Nat.mod_eq_of_lt (by omega)]
theorem nx_pv {L : List (Int × Int)} {i : Nat} (hi : i < L.length) : nx L (pv L i) = i := by
  rw [nx_eq (pv_lt (by omega) i), pv_eq hi]
  by_cases h : i = 0
  · rw [if_pos h]; rw [if_pos (by omega)]; omega
  · rw [if_neg h]; rw [if_neg (by omega)]; omega
/-- The side to a corner and the side from it touch. -/
theorem meet_next {L : List (Int × Int)} (h : polyB L = true) {i : Nat} (hi : i < L.length) : meetI (gt L (pv L i)) (gt L i) (gt L i) (gt L (nx L i)) = 1 := by
  obtain ⟨hn, _, _, hp⟩ := polyB_spec h
  by_cases h0 : i = 0
  · subst h0
    have h1 := hp 0 (L.length - 1) (by omega) (by omega)
    have e : adjB L.length 0 (L.length - 1) = true := by simp [adjB]
    rw [e] at h1
    have h2 : nx L (L.length - 1) = 0 := by rw [nx_eq (by omega), if_pos (by omega)]
    have h3 : pv L 0 = L.length - 1 := by rw [pv_eq hi, if_pos rfl]
    rw [h3, meetI_swap]
    unfold pairM at h1
    rw [show (L.length - 1 + 1) % L.length = nx L (L.length - 1) from rfl, h2] at h1
    exact h1
  · have h1 := hp (i - 1) i (by omega) hi
    have e : adjB L.length (i - 1) i = true := by simp [adjB]; omega
    rw [e] at h1
    have h3 : pv L i = i - 1 := by rw [pv_eq hi, if_neg h0]
    rw [h3]
    unfold pairM at h1
    rw [show (i - 1 + 1) % L.length = nx L (i - 1) from rfl, nx_eq (by omega), if_neg (by omega), show i - 1 + 1 = i by omega] at h1
    exact h1
theorem on_bent {L : List (Int × Int)} (h : polyB L = true) {i : Nat} (hi : i < L.length) : onQ (gt L (pv L i)) (gt L (nx L i)) (gt L i) = !(bentB L i) := by
  obtain ⟨hn, hok, hne, _⟩ := polyB_spec h
  rw [onQ_ok (gt_ok hok _) (gt_ok hok _) (gt_ok hok _), bentB, Bool.not_not]
  have h1 := hne (pv L i) (pv_lt (by omega) i)
  rw [nx_pv hi] at h1
  rw [Bool.eq_iff_iff, beq_iff_eq]
  constructor
  · intro h2
    have := ((onP_iff _ _ _).1 h2).1
    unfold crossP at this ⊢
    rw [cross_swap, this]; rfl
  · exact touch_between h1 (hne i hi) (meet_next h hi)
theorem stP_range {L : List (Int × Int)} (h : polyB L = true) : ∀ k, k ≤ L.length → stP L (List.range k) = (if k = 0 then L.length - 1 else k - 1, straightTill L k) := by
  intro k
  induction k with
  | zero => intro _; rfl
  | succ k ih =>
    intro hk
    rw [List.range_succ, stP_snoc, ih (by omega)]
    unfold stStep
    have e : (if k = 0 then L.length - 1 else k - 1) = pv L k := (pv_eq (by omega)).symm
    simp only [e, on_bent h (show k < L.length by omega)]
    rw [if_neg (by omega), show k + 1 - 1 = k by omega, straightTill]
    cases bentB L k <;> rfl
theorem stP_straight {L : List (Int × Int)} (h : polyB L = true) : (stP L (List.range L.length)).2 = straightL L := by
  rw [stP_range h _ (Nat.le_refl _)]; rfl

theorem impl_straight (A : Option Addr) (c : Nat) (L : List (Int × Int)) (w : World) (hA : PtsA w A L) (hL : L.length ≤ 1048576) :
    Calls Try.prog 109 #[.slice A L.length c] w (Lists w (straightV L)) := by
  cases hp : polyB L
  · have HU : Hid (Lists w (straightV L) = fun e w' => ∃ v, e = .returned v ∧ w'.ownsRow w.heap.size 54 2 v 0 [] ∧ Below w.heap.size w w') := by
      show _ = _
      unfold straightV
      rw [hp]; rfl
    have PC := Lib.hid (impl_poly A c L w hA hL)
    rw [hp] at PC
    go_enter Try.func109, Try.ntmps109
    go_wp2_with fail
    refine PC.out.mono ?_
    rintro e w1 ⟨rfl, hb1⟩
    go_wp2_with fail
    go_ret
    rw [HU.out]
    exact ⟨_, rfl, World.ownsRow_nil _ _ _ _, hb1⟩
  · have := impl_straight_yes A c L w hA hp
    rw [stP_straight hp] at this
    unfold straightV
    rw [hp]
    exact this
end Go.Proofs.Ytimkknljoeiceaa
