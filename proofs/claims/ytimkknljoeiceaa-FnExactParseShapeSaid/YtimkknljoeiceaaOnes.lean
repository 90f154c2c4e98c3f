/-
  Counting ones: bit by bit, and by adding up neighbors, as package bits does it.
-/
import Derived.Test.YtimkknljoeiceaaBitN
namespace Go.Proofs.Ytimkknljoeiceaa
open Go.RowKit

/-- The ones among the last k bits. -/
def pc : Nat → Nat → Nat
  | 0, _ => 0
  | k + 1, m => m % 2 + pc k (m / 2)
theorem pc_zero : ∀ k, pc k 0 = 0
  | 0 => rfl
  | k + 1 => by simp [pc, pc_zero k]
theorem pc_le : ∀ k m, pc k m ≤ k
  | 0, _ => Nat.le_refl _
  | k + 1, m => by have := pc_le k (m / 2); simp only [pc]; omega
theorem pc_add : ∀ a b m, pc (a + b) m = pc a m + pc b (m / 2 ^ a)
  | 0, b, m => by simp [pc]
  | a + 1, b, m => by
    have := pc_add a b (m / 2)
    rw [show a + 1 + b = (a + b) + 1 by omega]
    simp only [pc, this, Nat.div_div_eq_div_mul]
    rw [show 2 * 2 ^ a = 2 ^ (a + 1) by rw [Nat.pow_succ, Nat.mul_comm]]
    omega
theorem pc_mod : ∀ k m, pc k m = pc k (m % 2 ^ k)
  | 0, _ => rfl
  | k + 1, m => by
    have e1 : m % 2 ^ (k + 1) % 2 = m % 2 := by
      rw [Nat.pow_succ, Nat.mul_comm]; exact Nat.mod_mul_right_mod _ _ _
    have e2 : m % 2 ^ (k + 1) / 2 = m / 2 % 2 ^ k := by
      rw [Nat.pow_succ, Nat.mul_comm]; exact Nat.mod_mul_right_div_self _ _ _
    simp only [pc, e1, e2]
    rw [pc_mod k (m / 2)]
theorem pc_byte (k m : Nat) : pc (8 + k) m = pc 8 (m % 256) + pc k (m / 256) := by
  rw [pc_add, pc_mod 8 m]

/-- The mask with the byte c in each of n places. -/
def rep (c : Nat) : Nat → Nat
  | 0 => 0
  | n + 1 => c + 256 * rep c n
theorem and_byte (x c d : Nat) (hc : c < 256) : x &&& (c + 256 * d) = ((x % 256) &&& c) + 256 * ((x / 256) &&& d) := by
  have h1 : (x &&& (c + 256 * d)) % 2 ^ 8 = ((x % 2 ^ 8) &&& ((c + 256 * d) % 2 ^ 8)) := Nat.and_mod_two_pow
  have h2 : (x &&& (c + 256 * d)) / 2 ^ 8 = ((x / 2 ^ 8) &&& ((c + 256 * d) / 2 ^ 8)) := Nat.and_div_two_pow
  rw [show (c + 256 * d) % 2 ^ 8 = c by omega] at h1
  rw [show (c + 256 * d) / 2 ^ 8 = d by omega] at h2
  rw [show (2 : Nat) ^ 8 = 256 from rfl] at h1 h2
  omega
def st1 (n x : Nat) : Nat := (x / 2 &&& rep 85 n) + (x &&& rep 85 n)
def st2 (n x : Nat) : Nat := (x / 4 &&& rep 51 n) + (x &&& rep 51 n)
def st3 (n x : Nat) : Nat := (x / 16 + x) &&& rep 15 n
theorem bytes1 : ∀ b, b < 256 → ((b / 2 &&& 85) + (b &&& 85) < 256) := by decide +kernel
theorem shift1 : ∀ b, b < 256 → ∀ e, e < 2 → ((b / 2 + 128 * e) &&& 85) = (b / 2 &&& 85) := by decide +kernel
theorem shift2 : ∀ b, b < 256 → ∀ e, e < 4 → ((b / 4 + 64 * e) &&& 51) = (b / 4 &&& 51) := by decide +kernel
def by1 (b : Nat) : Nat := (b / 2 &&& 85) + (b &&& 85)
def by2 (b : Nat) : Nat := (by1 b / 4 &&& 51) + (by1 b &&& 51)
theorem byte_ok : ∀ b, b < 256 → by1 b < 256 ∧ by2 b % 16 ≤ 4 ∧ by2 b / 16 ≤ 4 ∧ by2 b % 16 + by2 b / 16 = pc 8 b := by decide +kernel
theorem st1_step (n x : Nat) : st1 (n + 1) x = by1 (x % 256) + 256 * st1 n (x / 256) := by
  unfold st1 by1
  simp only [rep]
  rw [and_byte _ _ _ (by omega), and_byte _ _ _ (by omega)]
  have e1 : x / 2 % 256 = x % 256 / 2 + 128 * (x / 256 % 2) := by omega
  have e2 : x / 2 / 256 = x / 256 / 2 := by omega
  rw [e1, e2, shift1 _ (by omega) _ (by omega)]
  omega
theorem st2_step (n a y : Nat) (ha : a < 256) : st2 (n + 1) (a + 256 * y) = ((a / 4 &&& 51) + (a &&& 51)) + 256 * st2 n y := by
  unfold st2
  simp only [rep]
  rw [and_byte _ _ _ (by omega), and_byte _ _ _ (by omega)]
  have e1 : (a + 256 * y) / 4 % 256 = a / 4 + 64 * (y % 4) := by omega
  have e2 : (a + 256 * y) / 4 / 256 = y / 4 := by omega
  rw [e1, e2, shift2 _ ha _ (by omega), show (a + 256 * y) % 256 = a by omega, show (a + 256 * y) / 256 = y by omega]
  omega
theorem and15 (x : Nat) : x &&& 15 = x % 16 := Nat.and_two_pow_sub_one_eq_mod x 4
theorem st3_step (n a y : Nat) (h1 : a % 16 ≤ 4) (h2 : a / 16 ≤ 4) (h3 : y % 16 ≤ 4) : st3 (n + 1) (a + 256 * y) = (a % 16 + a / 16) + 256 * st3 n y := by
  unfold st3
  simp only [rep]
  rw [and_byte _ _ _ (by omega), and15]
  have e1 : ((a + 256 * y) / 16 + (a + 256 * y)) % 256 % 16 = a % 16 + a / 16 := by omega
  have e2 : ((a + 256 * y) / 16 + (a + 256 * y)) / 256 = y / 16 + y := by omega
  rw [e1, e2]
/-- The bytes, each with the number of its ones. -/
def cntB : Nat → Nat → Nat
  | 0, _ => 0
  | n + 1, x => pc 8 (x % 256) + 256 * cntB n (x / 256)
def twoB : Nat → Nat → Nat
  | 0, _ => 0
  | n + 1, x => by2 (x % 256) + 256 * twoB n (x / 256)
theorem st12 : ∀ n x, st2 n (st1 n x) = twoB n x
  | 0, x => by simp [st2, twoB, rep]
  | n + 1, x => by
    have hb := byte_ok (x % 256) (by omega)
    rw [st1_step, st2_step _ _ _ hb.1, st12 n (x / 256)]
    rfl
theorem twoB_mod : ∀ n x, twoB n x % 16 ≤ 4
  | 0, _ => by simp [twoB]
  | n + 1, x => by
    have hb := byte_ok (x % 256) (by omega)
    simp only [twoB]; omega
theorem st123 : ∀ n x, st3 n (twoB n x) = cntB n x
  | 0, x => by simp [st3, cntB, rep]
  | n + 1, x => by
    have hb := byte_ok (x % 256) (by omega)
    simp only [twoB, cntB]
    rw [st3_step _ _ _ hb.2.1 hb.2.2.1 (twoB_mod _ _), st123 n (x / 256), hb.2.2.2]
theorem fold8 {p0 p1 p2 p3 p4 p5 p6 p7 : Nat} (l0 : p0 ≤ 8) (l1 : p1 ≤ 8) (l2 : p2 ≤ 8) (l3 : p3 ≤ 8) (l4 : p4 ≤ 8) (l5 : p5 ≤ 8) (l6 : p6 ≤ 8) (l7 : p7 ≤ 8) {y : Nat}
    (hy : y = p0 + 256 * (p1 + 256 * (p2 + 256 * (p3 + 256 * (p4 + 256 * (p5 + 256 * (p6 + 256 * (p7 + 256 * 0)))))))) : y < 2 ^ 60 ∧
    ((let a := y + y / 2 ^ 8; let b := a + a / 2 ^ 16; let c := b + b / 2 ^ 32; c % 128) = p0 + (p1 + (p2 + (p3 + (p4 + (p5 + (p6 + (p7 + 0)))))))) ∧ y + y / 2 ^ 8 < 2 ^ 61 ∧ (y + y / 2 ^ 8) + (y + y / 2 ^ 8) / 2 ^ 16 < 2 ^ 62 := by
  obtain ⟨z7, e7⟩ : ∃ z, z = p7 + 256 * 0 := ⟨_, rfl⟩
  obtain ⟨z6, e6⟩ : ∃ z, z = p6 + 256 * z7 := ⟨_, rfl⟩
  obtain ⟨z5, e5⟩ : ∃ z, z = p5 + 256 * z6 := ⟨_, rfl⟩
  obtain ⟨z4, e4⟩ : ∃ z, z = p4 + 256 * z5 := ⟨_, rfl⟩
  obtain ⟨z3, e3⟩ : ∃ z, z = p3 + 256 * z4 := ⟨_, rfl⟩
  obtain ⟨z2, e2⟩ : ∃ z, z = p2 + 256 * z3 := ⟨_, rfl⟩
  obtain ⟨z1, e1⟩ : ∃ z, z = p1 + 256 * z2 := ⟨_, rfl⟩
  rw [← e7, ← e6, ← e5, ← e4, ← e3, ← e2, ← e1] at hy
  have b7 : z7 ≤ 8 := by omega
  have b6 : z6 ≤ 2 ^ 12 := by omega
  have b5 : z5 ≤ 2 ^ 20 + 2 ^ 4 := by omega
  have b4 : z4 ≤ 2 ^ 29 := by omega
  have b3 : z3 ≤ 2 ^ 37 + 2 ^ 4 := by omega
  have b2 : z2 ≤ 2 ^ 45 + 2 ^ 13 := by omega
  have b1 : z1 ≤ 2 ^ 53 + 2 ^ 22 := by omega
  have d1 : y / 2 ^ 8 = z1 := by omega
  rw [d1]
  have b0 : y < 2 ^ 60 := by omega
  refine ⟨b0, ?_, by omega, by omega⟩
  show (y + z1 + (y + z1) / 2 ^ 16 + (y + z1 + (y + z1) / 2 ^ 16) / 2 ^ 32) % 128 = _
  have d2 : (y + z1) / 2 ^ 16 = z2 + z3 := by
    clear e3 e4 e5 e6 e7 b0 d1 b1 b2 b3 b4 b5 b6 b7
    have : y + z1 = (p0 + p1) + 256 * ((p1 + p2) + 256 * (z2 + z3)) := by omega
    omega
  rw [d2]
  have d3 : (y + z1 + (z2 + z3)) / 2 ^ 32 = z4 + z5 + (z6 + z7) := by
    clear b0 d1 b1 b2 b3 b4 b5 b6 b7 d2
    have e8 : y + z1 = (p0 + p1) + 256 * ((p1 + p2) + 256 * (z2 + z3)) := by omega
    have e9 : z2 + z3 = (p2 + p3) + 256 * ((p3 + p4) + 256 * (z4 + z5)) := by omega
    have e10 : z4 + z5 = (p4 + p5) + 256 * ((p5 + p6) + 256 * (z6 + z7)) := by omega
    clear e1 e2 e3 e4 e5 e6 e7 hy
    generalize z6 + z7 = u at *
    generalize z4 + z5 = v at *
    generalize z2 + z3 = x at *
    generalize y + z1 = s at *
    omega
  rw [d3]
  clear b0 d1 b1 b2 b3 b4 b5 b6 b7 d2 d3
  have f0 : y + z1 = (p0 + p1) + 256 * (z1 + z2) := by omega
  have f1 : z2 + z3 = (p2 + p3) + 256 * (z3 + z4) := by omega
  have f2 : z4 + z5 = (p4 + p5) + 256 * (z5 + z6) := by omega
  have f3 : z6 + z7 = (p6 + p7) + 256 * z7 := by omega
  clear e1 e2 e3 e4 e5 e6 e7 hy
  omega
/-- What package bits adds up. -/
theorem ones_sum (x : Nat) : ∃ y, y = st3 8 (st2 8 (st1 8 x)) ∧ y < 2 ^ 60 ∧
    ((let a := y + y / 2 ^ 8; let b := a + a / 2 ^ 16; let c := b + b / 2 ^ 32; c % 128) = pc 64 x) ∧ y + y / 2 ^ 8 < 2 ^ 61 ∧ (y + y / 2 ^ 8) + (y + y / 2 ^ 8) / 2 ^ 16 < 2 ^ 62 := by
  rw [st12, st123]
  refine ⟨_, rfl, ?_⟩
  have e : pc 64 x = pc 8 (x % 256) + (pc 8 (x / 256 % 256) + (pc 8 (x / 256 / 256 % 256) + (pc 8 (x / 256 / 256 / 256 % 256) + (pc 8 (x / 256 / 256 / 256 / 256 % 256) + (pc 8 (x / 256 / 256 / 256 / 256 / 256 % 256) + (pc 8 (x / 256 / 256 / 256 / 256 / 256 / 256 % 256) + (pc 8 (x / 256 / 256 / 256 / 256 / 256 / 256 / 256 % 256) + 0))))))) := by
    rw [show (64 : Nat) = 8 + (8 + (8 + (8 + (8 + (8 + (8 + (8 + 0))))))) from rfl]
    simp only [pc_byte]
    rfl
  rw [e]
  simp only [cntB]
  have l0 := pc_le 8 (x % 256)
  have l1 := pc_le 8 (x / 256 % 256)
  have l2 := pc_le 8 (x / 256 / 256 % 256)
  have l3 := pc_le 8 (x / 256 / 256 / 256 % 256)
  have l4 := pc_le 8 (x / 256 / 256 / 256 / 256 % 256)
  have l5 := pc_le 8 (x / 256 / 256 / 256 / 256 / 256 % 256)
  have l6 := pc_le 8 (x / 256 / 256 / 256 / 256 / 256 / 256 % 256)
  have l7 := pc_le 8 (x / 256 / 256 / 256 / 256 / 256 / 256 / 256 % 256)
  generalize pc 8 (x % 256) = p0 at *
  generalize pc 8 (x / 256 % 256) = p1 at *
  generalize pc 8 (x / 256 / 256 % 256) = p2 at *
  generalize pc 8 (x / 256 / 256 / 256 % 256) = p3 at *
  generalize pc 8 (x / 256 / 256 / 256 / 256 % 256) = p4 at *
  generalize pc 8 (x / 256 / 256 / 256 / 256 / 256 % 256) = p5 at *
  generalize pc 8 (x / 256 / 256 / 256 / 256 / 256 / 256 % 256) = p6 at *
  generalize pc 8 (x / 256 / 256 / 256 / 256 / 256 / 256 / 256 % 256) = p7 at *
  clear e
  exact fold8 l0 l1 l2 l3 l4 l5 l6 l7 rfl
end Go.Proofs.Ytimkknljoeiceaa
