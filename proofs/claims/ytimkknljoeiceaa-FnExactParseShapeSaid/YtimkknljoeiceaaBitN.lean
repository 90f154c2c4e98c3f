/-
  Bits of natural numbers: masks of sets of cells.
-/
import Derived.Test.YtimkknljoeiceaaProg
import Derived.WalkKit
import Derived.IntWalk
import Derived.Lib.Hide
namespace Go.Proofs.Ytimkknljoeiceaa
open Go.RowKit

/-! ### Plain numbers -/
theorem bit_mod (M i : Nat) : (M >>> i) % 2 = if M.testBit i then 1 else 0 := by
  rw [Nat.testBit_eq_decide_div_mod_eq, Nat.shiftRight_eq_div_pow]
  have : M / 2 ^ i % 2 < 2 := Nat.mod_lt _ (by omega)
  by_cases h : M / 2 ^ i % 2 = 1
  · simp [h]
  · have h0 : M / 2 ^ i % 2 = 0 := by omega
    simp [h0]
/-- The mask of the places below k at which F holds. -/
def ofF (F : Nat → Bool) : Nat → Nat
  | 0 => 0
  | k + 1 => if F k then ofF F k ||| 2 ^ k else ofF F k
theorem testBit_ofF (F : Nat → Bool) (k j : Nat) : (ofF F k).testBit j = (decide (j < k) && F j) := by
  induction k with
  | zero => simp [ofF]
  | succ k ih =>
    simp only [ofF]
    by_cases h : F k = true
    · rw [if_pos h, Nat.testBit_or, ih, Nat.testBit_two_pow]
      by_cases e : k = j
      · subst e; simp [h]
      · have : decide (j < k + 1) = decide (j < k) := by rw [decide_eq_decide]; omega
        simp [e, this]
    · rw [if_neg h, ih]
      by_cases e : k = j
      · subst e; simp [Bool.eq_false_iff.2 h]
      · have : decide (j < k + 1) = decide (j < k) := by rw [decide_eq_decide]; omega
        rw [this]
theorem ofF_lt (F : Nat → Bool) (k : Nat) : ofF F k < 2 ^ k := by
  apply Nat.lt_pow_two_of_testBit
  intro i hi
  rw [testBit_ofF]
  simp [Nat.not_lt.2 hi]
theorem ofF_self {M n : Nat} (h : M < 2 ^ n) : ofF M.testBit n = M := by
  apply Nat.eq_of_testBit_eq
  intro j
  rw [testBit_ofF]
  by_cases hj : j < n
  · simp [hj]
  · rw [Nat.testBit_lt_two_pow (Nat.lt_of_lt_of_le h (Nat.pow_le_pow_right (by omega) (by omega)))]
    simp
theorem ofF_congr {F G : Nat → Bool} {n : Nat} (h : ∀ j, j < n → F j = G j) : ofF F n = ofF G n := by
  apply Nat.eq_of_testBit_eq
  intro j
  rw [testBit_ofF, testBit_ofF]
  by_cases hj : j < n
  · rw [h j hj]
  · simp [hj]
theorem and_zero_of {a b : Nat} (h : ∀ j, a.testBit j = true → b.testBit j = false) : a &&& b = 0 := by
  apply Nat.eq_of_testBit_eq
  intro j
  rw [Nat.testBit_and, Nat.zero_testBit]
  cases ha : a.testBit j
  · rfl
  · rw [h j ha]; rfl
/-- Numbers without a bit in common: the sum is the union. -/
theorem add_or : ∀ (a b : Nat), a &&& b = 0 → a + b = a ||| b := by
  intro a
  induction a using Nat.strongRecOn with
  | _ a ih =>
    intro b h
    rcases Nat.eq_zero_or_pos a with rfl | hp
    · simp
    · have h2 : (a / 2) &&& (b / 2) = 0 := by
        rw [← Nat.and_div_two, h]
      have := ih (a / 2) (by omega) (b / 2) h2
      have hd : (a ||| b) / 2 = a / 2 ||| b / 2 := Nat.or_div_two
      have hm : (a ||| b) % 2 = a % 2 + b % 2 := by
        have e0 : (a &&& b).testBit 0 = false := by rw [h]; simp
        rw [Nat.testBit_and, Nat.testBit_zero, Nat.testBit_zero] at e0
        have e1 : (a ||| b).testBit 0 = (a.testBit 0 || b.testBit 0) := Nat.testBit_or _ _ _
        rw [Nat.testBit_zero, Nat.testBit_zero, Nat.testBit_zero] at e1
        rcases Nat.mod_two_eq_zero_or_one a with ha | ha <;> rcases Nat.mod_two_eq_zero_or_one b with hb | hb <;> rcases Nat.mod_two_eq_zero_or_one (a ||| b) with hc | hc <;> rw [ha, hb] at e0 e1 <;> rw [hc] at e1 <;> simp at e0 e1 <;> rw [ha, hb, hc]
      have := Nat.div_add_mod (a ||| b) 2
      omega
theorem testBit_add {a b : Nat} (h : ∀ j, a.testBit j = true → b.testBit j = false) (j : Nat) : (a + b).testBit j = (a.testBit j || b.testBit j) := by
  rw [add_or _ _ (and_zero_of h), Nat.testBit_or]
theorem add_two_pow {m i : Nat} (h : m.testBit i = false) : m + 2 ^ i = m ||| 2 ^ i := by
  apply add_or
  apply and_zero_of
  intro j hj
  rw [Nat.testBit_two_pow]
  by_cases e : i = j
  · subst e; rw [h] at hj; cases hj
  · simp [e]
/-- p lies in m. -/
def SubM (p m : Nat) : Prop := ∀ j, p.testBit j = true → m.testBit j = true
theorem SubM.le {p m : Nat} (h : SubM p m) : p ≤ m := by
  have e : p &&& m = p := by
    apply Nat.eq_of_testBit_eq
    intro j
    rw [Nat.testBit_and]
    cases hp : p.testBit j
    · rfl
    · rw [h j hp]; rfl
  rw [← e]; exact Nat.and_le_right
theorem testBit_sub {p m : Nat} (h : SubM p m) (j : Nat) : (m - p).testBit j = (m.testBit j && !p.testBit j) := by
  obtain ⟨n, hn⟩ : ∃ n, m < 2 ^ n := ⟨m, Nat.lt_two_pow_self⟩
  obtain ⟨d, hd⟩ : ∃ d, d = ofF (fun j => m.testBit j && !p.testBit j) n := ⟨_, rfl⟩
  have hdt : ∀ j, d.testBit j = (m.testBit j && !p.testBit j) := by
    intro j
    rw [hd, testBit_ofF]
    by_cases hj : j < n
    · simp [hj]
    · rw [Nat.testBit_lt_two_pow (Nat.lt_of_lt_of_le hn (Nat.pow_le_pow_right (by omega) (by omega)))]
      simp
  have hs : d + p = m := by
    apply Nat.eq_of_testBit_eq
    intro j
    rw [testBit_add (fun j hj => by rw [hdt] at hj; simp at hj; exact hj.2), hdt]
    cases hp : p.testBit j
    · simp
    · rw [h j hp]; rfl
  have : m - p = d := by omega
  rw [this, hdt]
theorem exists_bit {m : Nat} (h : 0 < m) : ∃ k, m.testBit k = true ∧ ∀ j, j < k → m.testBit j = false := by
  obtain ⟨k, hk⟩ := Nat.exists_testBit_of_ne_zero (x := m) (by omega)
  induction k using Nat.strongRecOn with
  | _ k ih =>
    by_cases hh : ∃ j, j < k ∧ m.testBit j = true
    · obtain ⟨j, hj, e⟩ := hh
      exact ih j hj e
    · exact ⟨k, hk, fun j hj => by
        cases e : m.testBit j
        · rfl
        · exact absurd ⟨j, hj, e⟩ hh⟩
/-- The bits of a number less one, below, at and above its least bit. -/
theorem testBit_pred {m k : Nat} (hk : m.testBit k = true) (hl : ∀ j, j < k → m.testBit j = false) (j : Nat) : (m - 1).testBit j = (decide (j < k) || (decide (k < j) && m.testBit j)) := by
  obtain ⟨d, hd⟩ : ∃ d, d = m - 2 ^ k := ⟨_, rfl⟩
  have hs : SubM (2 ^ k) m := fun j hj => by
    rw [Nat.testBit_two_pow] at hj
    simp at hj
    subst hj; exact hk
  have hle := hs.le
  have hdt : ∀ j, d.testBit j = (m.testBit j && !(2 ^ k).testBit j) := fun j => by rw [hd]; exact testBit_sub hs j
  have hp : 0 < 2 ^ k := Nat.two_pow_pos k
  have e : m - 1 = (2 ^ k - 1) + d := by omega
  rw [e, testBit_add (fun j hj => by
    rw [Nat.testBit_two_pow_sub_one] at hj
    simp at hj
    rw [hdt, hl j hj]; rfl), Nat.testBit_two_pow_sub_one, hdt, Nat.testBit_two_pow]
  by_cases h1 : j < k
  · simp [h1]
  · by_cases h2 : k = j
    · subst h2; simp
    · have : k < j := by omega
      simp [h1, h2, this]

/-! ### The program's operations at numbers that are not negative -/
theorem bv_nat {a : Nat} (h : a < 2 ^ 62) : (BitVec.ofInt 64 (a : Int)).toNat = a := by
  rw [BitVec.ofInt_natCast, BitVec.toNat_ofNat]; exact Nat.mod_eq_of_lt (by omega)
theorem and_nat {a b : Nat} (ha : a < 2 ^ 62) (hb : b < 2 ^ 62) : bits BinOp.and IntKind.i64 (a : Int) (b : Int) = ((a &&& b : Nat) : Int) := by
  have h4 : bits BinOp.and IntKind.i64 (a : Int) b = IntKind.i64.wrap ((BitVec.ofInt 64 (a : Int) &&& BitVec.ofInt 64 (b : Int)).toNat : Int) := rfl
  rw [h4, BitVec.toNat_and, bv_nat ha, bv_nat hb]
  have : a &&& b ≤ a := Nat.and_le_left
  exact IntWalk.i64_in _ (by omega)
theorem or_nat {a b : Nat} (ha : a < 2 ^ 62) (hb : b < 2 ^ 62) : bits BinOp.or IntKind.i64 (a : Int) (b : Int) = ((a ||| b : Nat) : Int) := by
  have h4 : bits BinOp.or IntKind.i64 (a : Int) b = IntKind.i64.wrap ((BitVec.ofInt 64 (a : Int) ||| BitVec.ofInt 64 (b : Int)).toNat : Int) := rfl
  rw [h4, BitVec.toNat_or, bv_nat ha, bv_nat hb]
  have : a ||| b < 2 ^ 62 := Nat.or_lt_two_pow ha hb
  exact IntWalk.i64_in _ (by omega)
/-- 'm & -m' is the least bit. -/
theorem least_bit {m k : Nat} (h : m < 2 ^ 62) (hk : m.testBit k = true) (hl : ∀ j, j < k → m.testBit j = false) : bits BinOp.and IntKind.i64 (m : Int) (-(m : Int)) = ((2 ^ k : Nat) : Int) := by
  have h4 : bits BinOp.and IntKind.i64 (m : Int) (-(m : Int)) = IntKind.i64.wrap ((BitVec.ofInt 64 (m : Int) &&& BitVec.ofInt 64 (-(m : Int))).toNat : Int) := rfl
  have hp : 0 < m := by
    rcases Nat.eq_zero_or_pos m with rfl | h
    · simp at hk
    · exact h
  have hn : (BitVec.ofInt 64 (-(m : Int))).toNat = 2 ^ 64 - ((m - 1) + 1) := by
    rw [BitVec.toNat_ofInt]; omega
  have hkl : k < 62 := by
    rcases Nat.lt_or_ge k 62 with h' | h'
    · exact h'
    · rw [Nat.testBit_lt_two_pow (Nat.lt_of_lt_of_le h (Nat.pow_le_pow_right (by omega) h'))] at hk; cases hk
  have e : m &&& (2 ^ 64 - ((m - 1) + 1)) = 2 ^ k := by
    apply Nat.eq_of_testBit_eq
    intro j
    rw [Nat.testBit_and, Nat.testBit_two_pow_sub_succ (by omega), testBit_pred hk hl, Nat.testBit_two_pow]
    by_cases h1 : j < k
    · have : ¬ k = j := by omega
      simp [h1, this, hl j h1]
    · by_cases h2 : k = j
      · subst h2
        have : k < 64 := by omega
        simp [hk, this]
      · have : k < j := by omega
        cases hj : m.testBit j <;> simp [h1, h2, this]
  rw [h4, BitVec.toNat_and, bv_nat h, hn, e]
  have : 2 ^ k < 2 ^ 62 := Nat.pow_lt_pow_of_lt (by omega) hkl
  exact IntWalk.i64_in _ (by omega)
theorem pow_cast (n : Nat) : ((2 : Int) ^ n) = ((2 ^ n : Nat) : Int) := by simp
theorem shr_cast (M i : Nat) : (M : Int) / 2 ^ i = ((M >>> i : Nat) : Int) := by
  rw [pow_cast, ← Int.natCast_ediv, Nat.shiftRight_eq_div_pow]
end Go.Proofs.Ytimkknljoeiceaa
