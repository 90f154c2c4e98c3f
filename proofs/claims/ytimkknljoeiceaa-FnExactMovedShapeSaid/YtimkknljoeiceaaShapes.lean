/-
  Walks and facts of this seat: BitN, Cell, Reach, Ones, Count8, Board, Board2, Board3, Take, Cells, Rim8, Put8, PutS8, MvS8, MvT8, MaskI8, MvI8, Law8B (merged by a script of this repo out of smaller texts).
-/
import Derived.Test.YtimkknljoeiceaaProg
import Derived.WalkKit
import Derived.IntWalk
import Derived.Lib.Hide
import Derived.Test.YtimkknljoeiceaaPt
import Derived.Laws.Bits64
import Derived.OwnWalk
import Derived.Deep.WholeRow
import Derived.Test.YtimkknljoeiceaaTail
import Derived.Test.YtimkknljoeiceaaStraight
import Derived.Test.YtimkknljoeiceaaMoveS
import Derived.Test.YtimkknljoeiceaaFloat
import Derived.Maps.AppendAt
import Derived.Test.YtimkknljoeiceaaIntsLaw
import Derived.Test.YtimkknljoeiceaaMotI
/-! BitN -/
namespace Go.Proofs.Ytimkknljoeiceaa
open Go.RowKit

/-! ### Plain numbers -/
theorem bit_mod (M i : Nat) : (M >>> i) % 2 = if M.testBit i then 1 else 0 := by
  rw [Nat.testBit_eq_decide_div_mod_eq, Nat.shiftRight_eq_div_pow]
  have : M / 2 ^ i % 2 < 2 := Nat.mod_lt _ (by omega)
  by_cases h : M / 2 ^ i % 2 = 1
  · simp [h]
  · have h0 : M / 2 ^ i % 2 = 0 := by omega
    simp [h0]
/-- The mask of the places below k at which F holds. -/
def ofF (F : Nat → Bool) : Nat → Nat
  | 0 => 0
  | k + 1 => if F k then ofF F k ||| 2 ^ k else ofF F k
theorem testBit_ofF (F : Nat → Bool) (k j : Nat) : (ofF F k).testBit j = (decide (j < k) && F j) := by
  induction k with
  | zero => simp [ofF]
  | succ k ih =>
    simp only [ofF]
    by_cases h : F k = true
    · rw [if_pos h, Nat.testBit_or, ih, Nat.testBit_two_pow]
      by_cases e : k = j
      · subst e; simp [h]
      · have : decide (j < k + 1) = decide (j < k) := by rw [decide_eq_decide]; omega
        simp [e, this]
    · rw [if_neg h, ih]
      by_cases e : k = j
      · subst e; simp [Bool.eq_false_iff.2 h]
      · have : decide (j < k + 1) = decide (j < k) := by rw [decide_eq_decide]; omega
        rw [this]
theorem ofF_lt (F : Nat → Bool) (k : Nat) : ofF F k < 2 ^ k := by
  apply Nat.lt_pow_two_of_testBit
  intro i hi
  rw [testBit_ofF]
  simp [Nat.not_lt.2 hi]
theorem ofF_self {M n : Nat} (h : M < 2 ^ n) : ofF M.testBit n = M := by
  apply Nat.eq_of_testBit_eq
  intro j
  rw [testBit_ofF]
  by_cases hj : j < n
  · simp [hj]
  · rw [Nat.testBit_lt_two_pow (Nat.lt_of_lt_of_le h (Nat.pow_le_pow_right (by omega) (by omega)))]
    simp
theorem ofF_congr {F G : Nat → Bool} {n : Nat} (h : ∀ j, j < n → F j = G j) : ofF F n = ofF G n := by
  apply Nat.eq_of_testBit_eq
  intro j
  rw [testBit_ofF, testBit_ofF]
  by_cases hj : j < n
  · rw [h j hj]
  · simp [hj]
theorem and_zero_of {a b : Nat} (h : ∀ j, a.testBit j = true → b.testBit j = false) : a &&& b = 0 := by
  apply Nat.eq_of_testBit_eq
  intro j
  rw [Nat.testBit_and, Nat.zero_testBit]
  cases ha : a.testBit j
  · rfl
  · rw [h j ha]; rfl
/-- Numbers without a bit in common: the sum is the union. -/
theorem add_or : ∀ (a b : Nat), a &&& b = 0 → a + b = a ||| b := by
  intro a
  induction a using Nat.strongRecOn with
  | _ a ih =>
    intro b h
    rcases Nat.eq_zero_or_pos a with rfl | hp
    · simp
    · have h2 : (a / 2) &&& (b / 2) = 0 := by
        rw [← Nat.and_div_two, h]
      have := ih (a / 2) (by omega) (b / 2) h2
      have hd : (a ||| b) / 2 = a / 2 ||| b / 2 := Nat.or_div_two
      have hm : (a ||| b) % 2 = a % 2 + b % 2 := by
        have e0 : (a &&& b).testBit 0 = false := by rw [h]; simp
        rw [Nat.testBit_and, Nat.testBit_zero, Nat.testBit_zero] at e0
        have e1 : (a ||| b).testBit 0 = (a.testBit 0 || b.testBit 0) := Nat.testBit_or _ _ _
        rw [Nat.testBit_zero, Nat.testBit_zero, Nat.testBit_zero] at e1
        rcases Nat.mod_two_eq_zero_or_one a with ha | ha <;> rcases Nat.mod_two_eq_zero_or_one b with hb | hb <;> rcases Nat.mod_two_eq_zero_or_one (a ||| b) with hc | hc <;> rw [ha, hb] at e0 e1 <;> rw [hc] at e1 <;> simp at e0 e1 <;> rw [ha, hb, hc]
      have := Nat.div_add_mod (a ||| b) 2
      omega
theorem testBit_add {a b : Nat} (h : ∀ j, a.testBit j = true → b.testBit j = false) (j : Nat) : (a + b).testBit j = (a.testBit j || b.testBit j) := by
  rw [add_or _ _ (and_zero_of h), Nat.testBit_or]
theorem add_two_pow {m i : Nat} (h : m.testBit i = false) : m + 2 ^ i = m ||| 2 ^ i := by
  apply add_or
  apply and_zero_of
  intro j hj
  rw [Nat.testBit_two_pow]
  by_cases e : i = j
  · subst e; rw [h] at hj; cases hj
  · simp [e]
/-- p lies in m. -/
def SubM (p m : Nat) : Prop := ∀ j, p.testBit j = true → m.testBit j = true
theorem SubM.le {p m : Nat} (h : SubM p m) : p ≤ m := by
  have e : p &&& m = p := by
    apply Nat.eq_of_testBit_eq
    intro j
    rw [Nat.testBit_and]
    cases hp : p.testBit j
    · rfl
    · rw [h j hp]; rfl
  rw [← e]; exact Nat.and_le_right
theorem testBit_sub {p m : Nat} (h : SubM p m) (j : Nat) : (m - p).testBit j = (m.testBit j && !p.testBit j) := by
  obtain ⟨n, hn⟩ : ∃ n, m < 2 ^ n := ⟨m, Nat.lt_two_pow_self⟩
  obtain ⟨d, hd⟩ : ∃ d, d = ofF (fun j => m.testBit j && !p.testBit j) n := ⟨_, rfl⟩
  have hdt : ∀ j, d.testBit j = (m.testBit j && !p.testBit j) := by
    intro j
    rw [hd, testBit_ofF]
    by_cases hj : j < n
    · simp [hj]
    · rw [Nat.testBit_lt_two_pow (Nat.lt_of_lt_of_le hn (Nat.pow_le_pow_right (by omega) (by omega)))]
      simp
  have hs : d + p = m := by
    apply Nat.eq_of_testBit_eq
    intro j
    rw [testBit_add (fun j hj => by rw [hdt] at hj; simp at hj; exact hj.2), hdt]
    cases hp : p.testBit j
    · simp
    · rw [h j hp]; rfl
  have : m - p = d := by omega
  rw [this, hdt]
theorem exists_bit {m : Nat} (h : 0 < m) : ∃ k, m.testBit k = true ∧ ∀ j, j < k → m.testBit j = false := by
  obtain ⟨k, hk⟩ := Nat.exists_testBit_of_ne_zero (x := m) (by omega)
  induction k using Nat.strongRecOn with
  | _ k ih =>
    by_cases hh : ∃ j, j < k ∧ m.testBit j = true
    · obtain ⟨j, hj, e⟩ := hh
      exact ih j hj e
    · exact ⟨k, hk, fun j hj => by
        cases e : m.testBit j
        · rfl
        · exact absurd ⟨j, hj, e⟩ hh⟩
/-- The bits of a number less one, below, at and above its least bit. -/
theorem testBit_pred {m k : Nat} (hk : m.testBit k = true) (hl : ∀ j, j < k → m.testBit j = false) (j : Nat) : (m - 1).testBit j = (decide (j < k) || (decide (k < j) && m.testBit j)) := by
  obtain ⟨d, hd⟩ : ∃ d, d = m - 2 ^ k := ⟨_, rfl⟩
  have hs : SubM (2 ^ k) m := fun j hj => by
    rw [Nat.testBit_two_pow] at hj
    simp at hj
    subst hj; exact hk
  have hle := hs.le
  have hdt : ∀ j, d.testBit j = (m.testBit j && !(2 ^ k).testBit j) := fun j => by rw [hd]; exact testBit_sub hs j
  have hp : 0 < 2 ^ k := Nat.two_pow_pos k
  have e : m - 1 = (2 ^ k - 1) + d := by omega
  rw [e, testBit_add (fun j hj => by
    rw [Nat.testBit_two_pow_sub_one] at hj
    simp at hj
    rw [hdt, hl j hj]; rfl), Nat.testBit_two_pow_sub_one, hdt, Nat.testBit_two_pow]
  by_cases h1 : j < k
  · simp [h1]
  · by_cases h2 : k = j
    · subst h2; simp
    · have : k < j := by omega
      simp [h1, h2, this]

/-! ### The program's operations at numbers that are not negative -/
theorem bv_nat {a : Nat} (h : a < 2 ^ 62) : (BitVec.ofInt 64 (a : Int)).toNat = a := by
  rw [BitVec.ofInt_natCast, BitVec.toNat_ofNat]; exact Nat.mod_eq_of_lt (by omega)
theorem and_nat {a b : Nat} (ha : a < 2 ^ 62) (hb : b < 2 ^ 62) : bits BinOp.and IntKind.i64 (a : Int) (b : Int) = ((a &&& b : Nat) : Int) := by
  have h4 : bits BinOp.and IntKind.i64 (a : Int) b = IntKind.i64.wrap ((BitVec.ofInt 64 (a : Int) &&& BitVec.ofInt 64 (b : Int)).toNat : Int) := rfl
  rw [h4, BitVec.toNat_and, bv_nat ha, bv_nat hb]
  have : a &&& b ≤ a := Nat.and_le_left
  exact IntWalk.i64_in _ (by omega)
theorem or_nat {a b : Nat} (ha : a < 2 ^ 62) (hb : b < 2 ^ 62) : bits BinOp.or IntKind.i64 (a : Int) (b : Int) = ((a ||| b : Nat) : Int) := by
  have h4 : bits BinOp.or IntKind.i64 (a : Int) b = IntKind.i64.wrap ((BitVec.ofInt 64 (a : Int) ||| BitVec.ofInt 64 (b : Int)).toNat : Int) := rfl
  rw [h4, BitVec.toNat_or, bv_nat ha, bv_nat hb]
  have : a ||| b < 2 ^ 62 := Nat.or_lt_two_pow ha hb
  exact IntWalk.i64_in _ (by omega)
/-- 'm & -m' is the least bit. -/
theorem least_bit {m k : Nat} (h : m < 2 ^ 62) (hk : m.testBit k = true) (hl : ∀ j, j < k → m.testBit j = false) : bits BinOp.and IntKind.i64 (m : Int) (-(m : Int)) = ((2 ^ k : Nat) : Int) := by
  have h4 : bits BinOp.and IntKind.i64 (m : Int) (-(m : Int)) = IntKind.i64.wrap ((BitVec.ofInt 64 (m : Int) &&& BitVec.ofInt 64 (-(m : Int))).toNat : Int) := rfl
  have hp : 0 < m := by
    rcases Nat.eq_zero_or_pos m with rfl | h
    · simp at hk
    · exact h
  have hn : (BitVec.ofInt 64 (-(m : Int))).toNat = 2 ^ 64 - ((m - 1) + 1) := by
    rw [BitVec.toNat_ofInt]; omega
  have hkl : k < 62 := by
    rcases Nat.lt_or_ge k 62 with h' | h'
    · exact h'
    · rw [Nat.testBit_lt_two_pow (Nat.lt_of_lt_of_le h (Nat.pow_le_pow_right (by omega) h'))] at hk; cases hk
  have e : m &&& (2 ^ 64 - ((m - 1) + 1)) = 2 ^ k := by
    apply Nat.eq_of_testBit_eq
    intro j
    rw [Nat.testBit_and, Nat.testBit_two_pow_sub_succ (by omega), testBit_pred hk hl, Nat.testBit_two_pow]
    by_cases h1 : j < k
    · have : ¬ k = j := by omega
      simp [h1, this, hl j h1]
    · by_cases h2 : k = j
      · subst h2
        have : k < 64 := by omega
        simp [hk, this]
      · have : k < j := by omega
        cases hj : m.testBit j <;> simp [h1, h2, this]
  rw [h4, BitVec.toNat_and, bv_nat h, hn, e]
  have : 2 ^ k < 2 ^ 62 := Nat.pow_lt_pow_of_lt (by omega) hkl
  exact IntWalk.i64_in _ (by omega)
theorem pow_cast (n : Nat) : ((2 : Int) ^ n) = ((2 ^ n : Nat) : Int) := by simp
theorem shr_cast (M i : Nat) : (M : Int) / 2 ^ i = ((M >>> i : Nat) : Int) := by
  rw [pow_cast, ← Int.natCast_ediv, Nat.shiftRight_eq_div_pow]
end Go.Proofs.Ytimkknljoeiceaa

/-! Cell -/
namespace Go.Proofs.Ytimkknljoeiceaa
open Go.RowKit

def shapeB (w h M : Int) : Bool := inB w 1 6 && inB h 1 6 && inB M 0 (2 ^ (w * h).toNat - 1)
theorem mul_le36 {w h : Int} (hw : 1 ≤ w ∧ w ≤ 6) (hh : 1 ≤ h ∧ h ≤ 6) : 1 ≤ w * h ∧ w * h ≤ 36 := by
  obtain ⟨h1, h2⟩ := hw
  have : w = 1 ∨ w = 2 ∨ w = 3 ∨ w = 4 ∨ w = 5 ∨ w = 6 := by omega
  rcases this with rfl | rfl | rfl | rfl | rfl | rfl <;> omega
theorem pow_le36 {n : Nat} (h : n ≤ 36) : (2 : Int) ^ n ≤ 68719476736 ∧ 1 ≤ (2 : Int) ^ n := by
  have h1 : (2 : Nat) ^ n ≤ 2 ^ 36 := Nat.pow_le_pow_right (by omega) h
  have h2 : 0 < (2 : Nat) ^ n := Nat.two_pow_pos n
  rw [pow_cast]
  omega
set_option maxRecDepth 100000 in
theorem spec_shape (w h M : Int) (W : World) : Calls Try.prog 24 #[.int .i64 w, .int .i64 h, .int .i64 M] W fun e w' => e = .returned (.bool (shapeB w h M)) ∧ w' = W := by
  have HB : Hid (shapeB w h M = (inB w 1 6 && inB h 1 6 && inB M 0 (2 ^ (w * h).toNat - 1))) := rfl
  cases h1 : inB w 1 6
  · rw [h1] at HB
    go_enter Try.func24, Try.ntmps24
    go_wp2_with fail
    refine (in_any _ _ _ _).mono ?_
    rintro e w1 ⟨rfl, rfl⟩
    rw [h1]
    go_wp2_with fail
    go_ret
    exact ⟨ret_bool HB.out.symm, rfl⟩
  cases h2 : inB h 1 6
  · rw [h1, h2] at HB
    go_enter Try.func24, Try.ntmps24
    go_wp2_with fail
    refine (in_any _ _ _ _).mono ?_
    rintro e w1 ⟨rfl, rfl⟩
    rw [h1]
    go_wp2_with fail
    refine (in_any _ _ _ _).mono ?_
    rintro e w1 ⟨rfl, rfl⟩
    rw [h2]
    go_wp2_with fail
    go_ret
    exact ⟨ret_bool HB.out.symm, rfl⟩
  have hm := mul_le36 (inB_spec.1 h1) (inB_spec.1 h2)
  rw [h1, h2] at HB
  obtain ⟨n, hn⟩ : ∃ n : Nat, w * h = n := ⟨(w * h).toNat, by omega⟩
  go_enter Try.func24, Try.ntmps24
  go_wp2_with fail
  refine (in_any _ _ _ _).mono ?_
  rintro e w1 ⟨rfl, rfl⟩
  rw [h1]
  go_wp2_with fail
  refine (in_any _ _ _ _).mono ?_
  rintro e w1 ⟨rfl, rfl⟩
  rw [h2]
  go_wp2_with fail
  refine (in_any _ _ _ _).mono ?_
  rintro e w1 ⟨rfl, rfl⟩
  go_wp2_with fail
  go_ret
  exact ⟨ret_bool (by
    have e1 := pow_le36 (n := n) (by omega)
    have e2 : wrap64 (2 ^ n) = 2 ^ n := IntWalk.wrap64_in _ (by omega)
    have e3 : wrap64 (2 ^ n - 1) = 2 ^ n - 1 := IntWalk.wrap64_in _ (by omega)
    rw [HB.out, e2, e3, hn]; simp), rfl⟩
set_option maxRecDepth 100000 in
theorem impl_shape (w h M : Int) (W : World) : Calls Try.prog 25 #[.int .i64 w, .int .i64 h, .int .i64 M] W fun e w' => e = .returned (.bool (shapeB w h M)) ∧ w' = W := by
  have HB : Hid (shapeB w h M = (inB w 1 6 && inB h 1 6 && inB M 0 (2 ^ (w * h).toNat - 1))) := rfl
  cases h1 : inB w 1 6
  · rw [h1] at HB
    go_enter Try.func25, Try.ntmps25
    go_wp2_with fail
    refine (from_any _ _ _ _).mono ?_
    rintro e w1 ⟨rfl, rfl⟩
    rw [h1]
    go_wp2_with fail
    go_ret
    exact ⟨ret_bool HB.out.symm, rfl⟩
  cases h2 : inB h 1 6
  · rw [h1, h2] at HB
    go_enter Try.func25, Try.ntmps25
    go_wp2_with fail
    refine (from_any _ _ _ _).mono ?_
    rintro e w1 ⟨rfl, rfl⟩
    rw [h1]
    go_wp2_with fail
    refine (from_any _ _ _ _).mono ?_
    rintro e w1 ⟨rfl, rfl⟩
    rw [h2]
    go_wp2_with fail
    go_ret
    exact ⟨ret_bool HB.out.symm, rfl⟩
  have hm := mul_le36 (inB_spec.1 h1) (inB_spec.1 h2)
  rw [h1, h2] at HB
  obtain ⟨n, hn⟩ : ∃ n : Nat, w * h = n := ⟨(w * h).toNat, by omega⟩
  go_enter Try.func25, Try.ntmps25
  go_wp2_with fail
  refine (from_any _ _ _ _).mono ?_
  rintro e w1 ⟨rfl, rfl⟩
  rw [h1]
  go_wp2_with fail
  refine (from_any _ _ _ _).mono ?_
  rintro e w1 ⟨rfl, rfl⟩
  rw [h2]
  go_wp2_with fail
  refine (from_any _ _ _ _).mono ?_
  rintro e w1 ⟨rfl, rfl⟩
  go_wp2_with fail
  go_ret
  exact ⟨ret_bool (by
    have e1 := pow_le36 (n := n) (by omega)
    have e2 : wrap64 (2 ^ n) = 2 ^ n := IntWalk.wrap64_in _ (by omega)
    have e3 : wrap64 (2 ^ n - 1) = 2 ^ n - 1 := IntWalk.wrap64_in _ (by omega)
    rw [HB.out, e2, e3, hn]; simp), rfl⟩
theorem ex_shapeOk (w h M : Int) (W : World) : Calls Try.prog 4 #[.int .i64 w, .int .i64 h, .int .i64 M] W fun e w' => e = .returned (.bool true) ∧ Below W.heap.size W w' := by
  have HS := Lib.hid (fun W => spec_shape w h M W)
  have HI := Lib.hid (fun W => impl_shape w h M W)
  generalize shapeB w h M = r at *
  go_enter Try.func4, Try.ntmps4
  go_wp2_with fail
  refine (HS.out _).mono ?_
  rintro e w1 ⟨rfl, rfl⟩
  go_wp2_with fail
  refine (HI.out _).mono ?_
  rintro e w2 ⟨rfl, rfl⟩
  go_wp2_with fail
  go_ret
  exact ⟨rfl, Below.refl _ _⟩
end Go.Proofs.Ytimkknljoeiceaa

/-! Reach -/
namespace Go.Proofs.Ytimkknljoeiceaa
open Go.RowKit

/-- What can be reached from i within F by steps of A. -/
inductive Rc (A : Nat → Nat → Prop) (F : Nat → Bool) (i : Nat) : Nat → Prop where
  | here : F i = true → Rc A F i i
  | step {j k : Nat} : Rc A F i j → A j k → F k = true → Rc A F i k
section
variable {A : Nat → Nat → Prop} {F G : Nat → Bool} {i j k : Nat}
theorem Rc.mem (h : Rc A F i j) : F j = true := by
  cases h <;> assumption
theorem Rc.start (h : Rc A F i j) : F i = true := by
  induction h with
  | here h => exact h
  | step _ _ _ ih => exact ih
theorem Rc.trans (h : Rc A F i j) (h2 : Rc A F j k) : Rc A F i k := by
  induction h2 with
  | here _ => exact h
  | step _ a f ih => exact .step ih a f
theorem Rc.symm (hA : ∀ a b, A a b → A b a) (h : Rc A F i j) : Rc A F j i := by
  induction h with
  | here h => exact .here h
  | @step j k h1 a f ih => exact Rc.trans (.step (.here f) (hA _ _ a) h1.mem) ih
theorem Rc.mono (hFG : ∀ j, F j = true → G j = true) (h : Rc A F i j) : Rc A G i j := by
  induction h with
  | here h => exact .here (hFG _ h)
  | step _ a f ih => exact .step ih a (hFG _ f)
/-- A closed set that holds the start holds all that can be reached. -/
theorem Rc.closed {S : Nat → Bool} (h0 : S i = true) (hc : ∀ a b, S a = true → A a b → F b = true → S b = true) (h : Rc A F i j) : S j = true := by
  induction h with
  | here _ => exact h0
  | step _ a f ih => exact hc _ _ ih a f
/-- Once a set with no way out is gone, what can be reached from elsewhere stays. -/
theorem Rc.without {S : Nat → Bool} (hA : ∀ a b, A a b → A b a) (hc : ∀ a b, S a = true → A a b → F b = true → S b = true) (hi : S i = false) (h : Rc A F i j) : Rc A (fun j => F j && !S j) i j := by
  induction h with
  | here h => exact .here (by simp [h, hi])
  | @step j k h1 a f ih =>
    refine .step ih a ?_
    have hj := ih.mem
    simp only [Bool.and_eq_true, Bool.not_eq_true'] at hj ⊢
    refine ⟨f, ?_⟩
    cases hk : S k
    · rfl
    · rw [hc k j hk (hA _ _ a) hj.1] at hj; exact absurd hj.2 (by simp)
end

/-- The mask p is the part of i in F. -/
def PartOf (A : Nat → Nat → Prop) (F : Nat → Bool) (i p : Nat) : Prop := ∀ j, p.testBit j = true ↔ Rc A F i j
theorem PartOf.uniq {A : Nat → Nat → Prop} {F : Nat → Bool} {i p q : Nat} (h : PartOf A F i p) (h2 : PartOf A F i q) : p = q := by
  apply Nat.eq_of_testBit_eq
  intro j
  rw [Bool.eq_iff_iff, h j, h2 j]
theorem PartOf.sub {A : Nat → Nat → Prop} {m i p : Nat} (h : PartOf A m.testBit i p) : SubM p m := fun j hj => ((h j).1 hj).mem

/-- The list of the parts of a mask, by their least cells. -/
inductive PartsR (A : Nat → Nat → Prop) : Nat → List Nat → Prop where
  | none : PartsR A 0 []
  | more {m k p : Nat} {L : List Nat} : m.testBit k = true → (∀ j, j < k → m.testBit j = false) → PartOf A m.testBit k p → PartsR A (m - p) L → PartsR A m (p :: L)
theorem least_uniq {m k k' : Nat} (h : m.testBit k = true) (hl : ∀ j, j < k → m.testBit j = false) (h' : m.testBit k' = true) (hl' : ∀ j, j < k' → m.testBit j = false) : k = k' := by
  rcases Nat.lt_trichotomy k k' with a | a | a
  · rw [hl' k a] at h; cases h
  · exact a
  · rw [hl k' a] at h'; cases h'
theorem PartsR.uniq {A : Nat → Nat → Prop} {m : Nat} {L L' : List Nat} (h : PartsR A m L) (h' : PartsR A m L') : L = L' := by
  induction h generalizing L' with
  | none =>
    cases h' with
    | none => rfl
    | more hk _ _ _ => simp at hk
  | more hk hl hp _ ih =>
    cases h' with
    | none => simp at hk
    | more hk' hl' hp' h2 =>
      obtain rfl := least_uniq hk hl hk' hl'
      obtain rfl := hp.uniq hp'
      rw [ih h2]
/-- One part exactly: the part of the least cell is all. -/
theorem PartsR.one {A : Nat → Nat → Prop} {m k p : Nat} {L : List Nat} (h : PartsR A m L) (hk : m.testBit k = true) (hl : ∀ j, j < k → m.testBit j = false) (hp : PartOf A m.testBit k p) : L.length = 1 ↔ p = m := by
  cases h with
  | none => simp at hk
  | more hk' hl' hp' h2 =>
    obtain rfl := least_uniq hk hl hk' hl'
    obtain rfl := hp.uniq hp'
    have hle := hp.sub.le
    constructor
    · intro h1
      have : m - p = 0 := by
        generalize m - p = d at h2
        cases h2 with
        | none => rfl
        | more _ _ _ _ => simp at h1
      omega
    · rintro rfl
      rw [Nat.sub_self] at h2
      cases h2 with
      | none => rfl
      | more hk2 _ _ _ => simp at hk2

/-! ### Neighbors in a table -/
def Adj (w h : Nat) (i j : Nat) : Prop := i < w * h ∧ j < w * h ∧ ((i % w = j % w ∧ (i / w + 1 = j / w ∨ j / w + 1 = i / w)) ∨ (i / w = j / w ∧ (i % w + 1 = j % w ∨ j % w + 1 = i % w)))
theorem Adj.symm {w h i j : Nat} (a : Adj w h i j) : Adj w h j i := by
  unfold Adj at *; omega

/-! ### Growth: the cells that are near, step by step -/
/-- What a cell brings: its neighbors. -/
def sides (w h k : Nat) (o : Nat) : Nat :=
  let x := k % w
  let y := k / w
  let o := if 0 < x then o ||| 2 ^ (k - 1) else o
  let o := if x + 1 < w then o ||| 2 ^ (k + 1) else o
  let o := if 0 < y then o ||| 2 ^ (k - w) else o
  if y + 1 < h then o ||| 2 ^ (k + w) else o
def nearT (w h M : Nat) : Nat → Nat
  | 0 => M
  | k + 1 => if M.testBit k then sides w h k (nearT w h M k) else nearT w h M k
theorem tb_or_pow {o a j : Nat} : (o ||| 2 ^ a).testBit j = (o.testBit j || decide (a = j)) := by
  rw [Nat.testBit_or, Nat.testBit_two_pow]
theorem tb_if {c : Prop} [Decidable c] {o a j : Nat} : (if c then o ||| 2 ^ a else o).testBit j = (o.testBit j || (decide c && decide (a = j))) := by
  by_cases h : c
  · rw [if_pos h, tb_or_pow]; simp [h]
  · rw [if_neg h]; simp [h]
theorem row_col {w k x y : Nat} (hw : 0 < w) (hx : x < w) (e : k = y * w + x) : k % w = x ∧ k / w = y := by
  subst e
  constructor
  · rw [Nat.add_comm, Nat.add_mul_mod_self_right, Nat.mod_eq_of_lt hx]
  · rw [Nat.add_comm, Nat.add_mul_div_right _ _ hw, Nat.div_eq_of_lt hx, Nat.zero_add]
theorem in_tab {w h x y : Nat} (hx : x < w) (hy : y < h) : y * w + x < w * h := by
  have : (y + 1) * w ≤ h * w := Nat.mul_le_mul_right w hy
  rw [Nat.add_mul, Nat.one_mul] at this
  rw [Nat.mul_comm w h]
  omega
theorem adj_iff {w h k j : Nat} (hw : 0 < w) (hk : k < w * h) :
    Adj w h k j ↔ ((0 < k % w ∧ k - 1 = j) ∨ (k % w + 1 < w ∧ k + 1 = j) ∨ (0 < k / w ∧ k - w = j) ∨ (k / w + 1 < h ∧ k + w = j)) := by
  have hkd : k = k / w * w + k % w := by have := Nat.div_add_mod k w; rw [Nat.mul_comm] at this; omega
  have hjd : j = j / w * w + j % w := by have := Nat.div_add_mod j w; rw [Nat.mul_comm] at this; omega
  have hkm := Nat.mod_lt k hw
  have hjm := Nat.mod_lt j hw
  have hky : k / w < h := by rw [Nat.div_lt_iff_lt_mul hw, Nat.mul_comm]; exact hk
  constructor
  · rintro ⟨-, hj, h1⟩
    have hjy : j / w < h := by rw [Nat.div_lt_iff_lt_mul hw, Nat.mul_comm]; exact hj
    generalize k / w = a at *
    generalize j / w = b at *
    generalize k % w = c at *
    generalize j % w = d at *
    rcases h1 with ⟨e, e2 | e2⟩ | ⟨e, e2 | e2⟩
    · refine .inr (.inr (.inr ⟨by omega, ?_⟩))
      have hm : b * w = a * w + w := by rw [← e2, Nat.add_mul, Nat.one_mul]
      omega
    · refine .inr (.inr (.inl ⟨by omega, ?_⟩))
      have hm : a * w = b * w + w := by rw [← e2, Nat.add_mul, Nat.one_mul]
      omega
    · refine .inr (.inl ⟨by omega, ?_⟩)
      subst e; omega
    · refine .inl ⟨by omega, ?_⟩
      subst e; omega
  · rintro (⟨h1, rfl⟩ | ⟨h1, rfl⟩ | ⟨h1, rfl⟩ | ⟨h1, rfl⟩)
    · obtain ⟨a, b⟩ := row_col hw (show k % w - 1 < w by omega) (show k - 1 = k / w * w + (k % w - 1) by omega)
      exact ⟨hk, by omega, .inr ⟨b.symm, .inr (by rw [a]; omega)⟩⟩
    · obtain ⟨a, b⟩ := row_col hw h1 (show k + 1 = k / w * w + (k % w + 1) by omega)
      have := in_tab (h := h) h1 hky
      exact ⟨hk, by omega, .inr ⟨b.symm, .inl a.symm⟩⟩
    · have e : k / w * w = (k / w - 1) * w + w := by
        have : k / w = (k / w - 1) + 1 := by omega
        rw [show k / w * w = ((k / w - 1) + 1) * w by rw [← this], Nat.add_mul, Nat.one_mul]
      obtain ⟨a, b⟩ := row_col hw hkm (show k - w = (k / w - 1) * w + k % w by omega)
      exact ⟨hk, by omega, .inl ⟨a.symm, .inr (by rw [b]; omega)⟩⟩
    · have e : (k / w + 1) * w = k / w * w + w := by rw [Nat.add_mul, Nat.one_mul]
      obtain ⟨a, b⟩ := row_col hw hkm (show k + w = (k / w + 1) * w + k % w by omega)
      have := in_tab (x := k % w) hkm h1
      exact ⟨hk, by omega, .inl ⟨a.symm, .inl b.symm⟩⟩
theorem testBit_sides {w h k : Nat} (o j : Nat) (hw : 0 < w) (hk : k < w * h) : (sides w h k o).testBit j = true ↔ o.testBit j = true ∨ Adj w h k j := by
  rw [adj_iff hw hk]
  unfold sides
  simp only [tb_if, Bool.or_eq_true, Bool.and_eq_true, decide_eq_true_eq]
  constructor
  · rintro ((((h | h) | h) | h) | h)
    · exact .inl h
    · exact .inr (.inl h)
    · exact .inr (.inr (.inl h))
    · exact .inr (.inr (.inr (.inl h)))
    · exact .inr (.inr (.inr (.inr h)))
  · rintro (h | h | h | h | h)
    · exact .inl (.inl (.inl (.inl h)))
    · exact .inl (.inl (.inl (.inr h)))
    · exact .inl (.inl (.inr h))
    · exact .inl (.inr h)
    · exact .inr h
theorem testBit_nearT {w h M : Nat} (hw : 0 < w) (j : Nat) : ∀ k, k ≤ w * h → ((nearT w h M k).testBit j = true ↔ M.testBit j = true ∨ ∃ i, i < k ∧ M.testBit i = true ∧ Adj w h i j) := by
  intro k
  induction k with
  | zero => intro _; simp [nearT]
  | succ k ih =>
    intro hk
    have ih := ih (by omega)
    simp only [nearT]
    by_cases hm : M.testBit k = true
    · rw [if_pos hm, testBit_sides _ _ hw (by omega), ih]
      constructor
      · rintro ((h | ⟨i, a, b, c⟩) | h)
        · exact .inl h
        · exact .inr ⟨i, by omega, b, c⟩
        · exact .inr ⟨k, by omega, hm, h⟩
      · rintro (h | ⟨i, a, b, c⟩)
        · exact .inl (.inl h)
        · rcases Nat.lt_or_ge i k with h | h
          · exact .inl (.inr ⟨i, h, b, c⟩)
          · obtain rfl : i = k := by omega
            exact .inr c
    · rw [if_neg hm, ih]
      constructor
      · rintro (h | ⟨i, a, b, c⟩)
        · exact .inl h
        · exact .inr ⟨i, by omega, b, c⟩
      · rintro (h | ⟨i, a, b, c⟩)
        · exact .inl h
        · rcases Nat.lt_or_ge i k with h | h
          · exact .inr ⟨i, h, b, c⟩
          · obtain rfl : i = k := by omega
            exact absurd b hm
theorem nearT_lt {w h M : Nat} (hw : 0 < w) (hM : M < 2 ^ (w * h)) (k : Nat) (hk : k ≤ w * h) : nearT w h M k < 2 ^ (w * h) := by
  apply Nat.lt_pow_two_of_testBit
  intro j hj
  rw [← Bool.not_eq_true, testBit_nearT hw j k hk]
  rintro (h | ⟨i, _, _, a⟩)
  · rw [Nat.testBit_lt_two_pow (Nat.lt_of_lt_of_le hM (Nat.pow_le_pow_right (by omega) hj))] at h; cases h
  · exact absurd a.2.1 (by omega)
/-- One step of growth within m. -/
def grow1 (w h m p : Nat) : Nat := nearT w h p (w * h) &&& m
theorem testBit_grow1 {w h m p : Nat} (hw : 0 < w) (hs : SubM p m) (j : Nat) : (grow1 w h m p).testBit j = true ↔ p.testBit j = true ∨ (m.testBit j = true ∧ ∃ i, p.testBit i = true ∧ Adj w h i j) := by
  unfold grow1
  rw [Nat.testBit_and, Bool.and_eq_true, testBit_nearT hw j _ (Nat.le_refl _)]
  constructor
  · rintro ⟨h | ⟨i, _, a, b⟩, c⟩
    · exact .inl h
    · exact .inr ⟨c, i, a, b⟩
  · rintro (h | ⟨c, i, a, b⟩)
    · exact ⟨.inl h, hs j h⟩
    · exact ⟨.inr ⟨i, b.1, a, b⟩, c⟩
/-- What growth keeps: all is reached from k, k is in it, it lies in m. -/
def Grown (w h m k p : Nat) : Prop := p.testBit k = true ∧ ∀ j, p.testBit j = true → Rc (Adj w h) m.testBit k j
theorem Grown.sub {w h m k p : Nat} (g : Grown w h m k p) : SubM p m := fun j hj => (g.2 j hj).mem
theorem Grown.start {w h m k : Nat} (hk : m.testBit k = true) : Grown w h m k (2 ^ k) :=
  ⟨by simp, fun j hj => by
    rw [Nat.testBit_two_pow] at hj
    simp at hj
    subst hj
    exact .here hk⟩
theorem lt_of_sub {m p n : Nat} (hs : SubM p m) (hm : m < 2 ^ n) : p < 2 ^ n := Nat.lt_of_le_of_lt hs.le hm
theorem Grown.next {w h m k p : Nat} (hw : 0 < w) (g : Grown w h m k p) : Grown w h m k (grow1 w h m p) ∧ p ≤ grow1 w h m p := by
  have ht := testBit_grow1 (h := h) hw g.sub
  refine ⟨⟨(ht k).2 (.inl g.1), fun j hj => ?_⟩, SubM.le fun j hj => (ht j).2 (.inl hj)⟩
  rcases (ht j).1 hj with h | ⟨a, i, b, c⟩
  · exact g.2 j h
  · exact .step (g.2 i b) c a
theorem Grown.done {w h m k p : Nat} (hw : 0 < w) (g : Grown w h m k p) (he : grow1 w h m p = p) : PartOf (Adj w h) m.testBit k p := fun j => by
  refine ⟨g.2 j, fun hr => ?_⟩
  have ht := testBit_grow1 (h := h) hw g.sub
  rw [he] at ht
  exact hr.closed (S := p.testBit) g.1 (fun a b h1 h2 h3 => (ht b).2 (.inr ⟨h3, a, h1, h2⟩))

/-! ### Taking: a cell, then what can be reached from each neighbor in what is left -/
def rem1 (F : Nat → Bool) (i : Nat) : Nat → Bool := fun j => F j && !decide (j = i)
def less (F : Nat → Bool) (p : Nat) : Nat → Bool := fun j => F j && !p.testBit j
theorem less_zero (F : Nat → Bool) : less F 0 = F := by funext j; simp [less]
theorem less_or (F : Nat → Bool) (p q : Nat) : less (less F p) q = less F (p ||| q) := by
  funext j; simp [less, Nat.testBit_or, Bool.and_assoc]
theorem less_pow (F : Nat → Bool) (i : Nat) : less F (2 ^ i) = rem1 F i := by
  funext j
  simp only [less, rem1, Nat.testBit_two_pow]
  congr 2
  rw [decide_eq_decide]; omega
/-- P is what can be reached from the place o, if it is one. -/
def Took (A : Nat → Nat → Prop) (F : Nat → Bool) (o : Option Nat) (P : Nat) : Prop := ∀ j, P.testBit j = true ↔ ∃ k, o = some k ∧ Rc A F k j
theorem Took.none {A : Nat → Nat → Prop} {F : Nat → Bool} : Took A F .none 0 := fun j => by simp
theorem Took.off {A : Nat → Nat → Prop} {F : Nat → Bool} {k : Nat} (h : F k = false) : Took A F (some k) 0 := fun j => by
  simp only [Nat.zero_testBit, Bool.false_eq_true, false_iff]
  rintro ⟨k', e, r⟩
  cases e
  have := r.start
  rw [h] at this; cases this
theorem Took.part {A : Nat → Nat → Prop} {F : Nat → Bool} {k P : Nat} (h : Took A F (some k) P) : PartOf A F k P := fun j => by
  rw [h j]; simp
def Taking (A : Nat → Nat → Prop) (F : Nat → Bool) (i : Nat) (os : List (Option Nat)) (P : Nat) : Prop := ∀ j, P.testBit j = true ↔ j = i ∨ ∃ k, some k ∈ os ∧ Rc A (rem1 F i) k j
theorem Taking.start {A : Nat → Nat → Prop} {F : Nat → Bool} {i : Nat} : Taking A F i [] (2 ^ i) := fun j => by
  rw [Nat.testBit_two_pow]
  simp [eq_comm]
theorem Taking.next {A : Nat → Nat → Prop} {F : Nat → Bool} {i P Q : Nat} {os : List (Option Nat)} {o : Option Nat} (hA : ∀ a b, A a b → A b a) (T : Taking A F i os P) (hQ : Took A (less F P) o Q) : Taking A F i (os ++ [o]) (P ||| Q) := fun j => by
  have hsub : ∀ j, less F P j = true → rem1 F i j = true := fun j hj => by
    simp only [less, rem1, Bool.and_eq_true, Bool.not_eq_true', decide_eq_false_iff_not] at hj ⊢
    refine ⟨hj.1, fun e => ?_⟩
    have := (T j).2 (.inl e)
    rw [hj.2] at this; cases this
  have hQ' : ∀ j, Q.testBit j = true → ∃ k, o = some k ∧ Rc A (rem1 F i) k j := fun j hj => by
    obtain ⟨k, e, r⟩ := (hQ j).1 hj
    exact ⟨k, e, r.mono hsub⟩
  rw [Nat.testBit_or, Bool.or_eq_true]
  constructor
  · rintro (h | h)
    · rcases (T j).1 h with h | ⟨k, a, b⟩
      · exact .inl h
      · exact .inr ⟨k, by simp [a], b⟩
    · obtain ⟨k, a, b⟩ := hQ' j h
      exact .inr ⟨k, by simp [a], b⟩
  · rintro (h | ⟨k, a, b⟩)
    · exact .inl ((T j).2 (.inl h))
    · rcases List.mem_append.1 a with a | a
      · exact .inl ((T j).2 (.inr ⟨k, a, b⟩))
      · have e : o = some k := (List.mem_singleton.1 a).symm
        cases hk : P.testBit k
        · -- k is left: what can be reached from it is left, too
          refine .inr ((hQ j).2 ⟨k, e, ?_⟩)
          have hc : ∀ a b, (P.testBit a && !decide (a = i)) = true → A a b → rem1 F i b = true → (P.testBit b && !decide (b = i)) = true := fun a b h1 h2 h3 => by
            simp only [Bool.and_eq_true, Bool.not_eq_true', decide_eq_false_iff_not] at h1 ⊢
            have hb : ¬ b = i := by
              simp only [rem1, Bool.and_eq_true, Bool.not_eq_true', decide_eq_false_iff_not] at h3
              exact h3.2
            refine ⟨?_, hb⟩
            rcases (T a).1 h1.1 with h | ⟨k', h4, h5⟩
            · exact absurd h h1.2
            · exact (T b).2 (.inr ⟨k', h4, .step h5 h2 h3⟩)
          have := Rc.without (S := fun a => P.testBit a && !decide (a = i)) hA hc (by simp [hk]) b
          refine this.mono fun j hj => ?_
          simp only [rem1, less, Bool.and_eq_true, Bool.not_eq_true', decide_eq_false_iff_not, Bool.and_eq_false_iff, Bool.not_eq_false', decide_eq_true_eq] at hj ⊢
          refine ⟨hj.1.1, ?_⟩
          rcases hj.2 with h | h
          · exact h
          · exact absurd h hj.1.2
        · rcases (T k).1 hk with h | ⟨k', h4, h5⟩
          · have := b.start
            simp [rem1, h] at this
          · exact .inl ((T j).2 (.inr ⟨k', h4, h5.trans b⟩))
theorem Taking.done {A : Nat → Nat → Prop} {F : Nat → Bool} {i P : Nat} {os : List (Option Nat)} (hi : F i = true) (hos : ∀ k, some k ∈ os ↔ A i k) (T : Taking A F i os P) : Took A F (some i) P := fun j => by
  have hm : ∀ j, rem1 F i j = true → F j = true := fun j hj => by simp [rem1] at hj; exact hj.1
  rw [T j]
  constructor
  · rintro (rfl | ⟨k, a, b⟩)
    · exact ⟨_, rfl, .here hi⟩
    · exact ⟨i, rfl, Rc.trans (.step (.here hi) ((hos k).1 a) (hm _ b.start)) (b.mono hm)⟩
  · rintro ⟨k, e, r⟩
    cases e
    induction r with
    | here _ => exact .inl rfl
    | @step j k h1 a f ih =>
      by_cases hk : k = i
      · exact .inl hk
      · have fk : rem1 F i k = true := by simp [rem1, f, hk]
        rcases ih with rfl | ⟨k', h4, h5⟩
        · exact .inr ⟨k, (hos k).2 a, .here fk⟩
        · exact .inr ⟨k', h4, .step h5 a fk⟩
/-- The neighbors of a cell: up, left, right, down. -/
def nbI (w h i : Nat) (t : Nat) : Option Nat :=
  match t with
  | 0 => if 0 < i / w then some (i - w) else none
  | 1 => if 0 < i % w then some (i - 1) else none
  | 2 => if i % w + 1 < w then some (i + 1) else none
  | _ => if i / w + 1 < h then some (i + w) else none
theorem nbI_adj {w h i : Nat} (hw : 0 < w) (hi : i < w * h) (k : Nat) : some k ∈ ((List.range 4).map (nbI w h i)) ↔ Adj w h i k := by
  rw [adj_iff hw hi]
  have e : (List.range 4).map (nbI w h i) = [nbI w h i 0, nbI w h i 1, nbI w h i 2, nbI w h i 3] := rfl
  rw [e]
  simp only [nbI, List.mem_cons, List.not_mem_nil, or_false]
  have hif : ∀ (c : Prop) [Decidable c] (a : Nat), (some k = if c then some a else none) ↔ (c ∧ a = k) := by
    intro c _ a
    by_cases h : c
    · rw [if_pos h]; simp [h, eq_comm]
    · rw [if_neg h]; simp [h]
  rw [hif, hif, hif, hif]
  constructor
  · rintro (h | h | h | h)
    · exact .inr (.inr (.inl h))
    · exact .inl h
    · exact .inr (.inl h)
    · exact .inr (.inr (.inr h))
  · rintro (h | h | h | h)
    · exact .inr (.inl h)
    · exact .inr (.inr (.inl h))
    · exact .inl h
    · exact .inr (.inr (.inr h))
/-- How many places are left. -/
def cntF (F : Nat → Bool) (n : Nat) : Nat := (List.range n).countP F
theorem cntF_mono {F G : Nat → Bool} {n : Nat} (h : ∀ j, F j = true → G j = true) : cntF F n ≤ cntF G n := List.countP_mono_left fun j _ => h j
theorem cntF_rem {F : Nat → Bool} {n i : Nat} (hi : i < n) (hF : F i = true) : cntF (rem1 F i) n < cntF F n := by
  unfold cntF
  induction n with
  | zero => omega
  | succ n ih =>
    rw [List.range_succ, List.countP_append, List.countP_append]
    simp only [List.countP_cons, List.countP_nil, Nat.zero_add]
    by_cases e : i = n
    · subst e
      have := cntF_mono (F := rem1 F i) (G := F) (n := i) (fun j hj => by simp [rem1] at hj; exact hj.1)
      unfold cntF at this
      have e0 : rem1 F i i = false := by simp [rem1]
      rw [e0, hF]
      simp
      omega
    · have := ih (by omega)
      have e2 : rem1 F i n = F n := by simp [rem1, Ne.symm e]
      rw [e2]; omega
end Go.Proofs.Ytimkknljoeiceaa

/-! Ones -/
namespace Go.Proofs.Ytimkknljoeiceaa
open Go.RowKit

/-- The ones among the last k bits. -/
def pc : Nat → Nat → Nat
  | 0, _ => 0
  | k + 1, m => m % 2 + pc k (m / 2)
theorem pc_zero : ∀ k, pc k 0 = 0
  | 0 => rfl
  | k + 1 => by simp [pc, pc_zero k]
theorem pc_le : ∀ k m, pc k m ≤ k
  | 0, _ => Nat.le_refl _
  | k + 1, m => by have := pc_le k (m / 2); simp only [pc]; omega
theorem pc_add : ∀ a b m, pc (a + b) m = pc a m + pc b (m / 2 ^ a)
  | 0, b, m => by simp [pc]
  | a + 1, b, m => by
    have := pc_add a b (m / 2)
    rw [show a + 1 + b = (a + b) + 1 by omega]
    simp only [pc, this, Nat.div_div_eq_div_mul]
    rw [show 2 * 2 ^ a = 2 ^ (a + 1) by rw [Nat.pow_succ, Nat.mul_comm]]
    omega
theorem pc_mod : ∀ k m, pc k m = pc k (m % 2 ^ k)
  | 0, _ => rfl
  | k + 1, m => by
    have e1 : m % 2 ^ (k + 1) % 2 = m % 2 := by
      rw [Nat.pow_succ, Nat.mul_comm]; exact Nat.mod_mul_right_mod _ _ _
    have e2 : m % 2 ^ (k + 1) / 2 = m / 2 % 2 ^ k := by
      rw [Nat.pow_succ, Nat.mul_comm]; exact Nat.mod_mul_right_div_self _ _ _
    simp only [pc, e1, e2]
    rw [pc_mod k (m / 2)]
theorem pc_byte (k m : Nat) : pc (8 + k) m = pc 8 (m % 256) + pc k (m / 256) := by
  rw [pc_add, pc_mod 8 m]

/-- The mask with the byte c in each of n places. -/
def rep (c : Nat) : Nat → Nat
  | 0 => 0
  | n + 1 => c + 256 * rep c n
theorem and_byte (x c d : Nat) (hc : c < 256) : x &&& (c + 256 * d) = ((x % 256) &&& c) + 256 * ((x / 256) &&& d) := by
  have h1 : (x &&& (c + 256 * d)) % 2 ^ 8 = ((x % 2 ^ 8) &&& ((c + 256 * d) % 2 ^ 8)) := Nat.and_mod_two_pow
  have h2 : (x &&& (c + 256 * d)) / 2 ^ 8 = ((x / 2 ^ 8) &&& ((c + 256 * d) / 2 ^ 8)) := Nat.and_div_two_pow
  rw [show (c + 256 * d) % 2 ^ 8 = c by omega] at h1
  rw [show (c + 256 * d) / 2 ^ 8 = d by omega] at h2
  rw [show (2 : Nat) ^ 8 = 256 from rfl] at h1 h2
  omega
def st1 (n x : Nat) : Nat := (x / 2 &&& rep 85 n) + (x &&& rep 85 n)
def st2 (n x : Nat) : Nat := (x / 4 &&& rep 51 n) + (x &&& rep 51 n)
def st3 (n x : Nat) : Nat := (x / 16 + x) &&& rep 15 n
theorem bytes1 : ∀ b, b < 256 → ((b / 2 &&& 85) + (b &&& 85) < 256) := by decide +kernel
theorem shift1 : ∀ b, b < 256 → ∀ e, e < 2 → ((b / 2 + 128 * e) &&& 85) = (b / 2 &&& 85) := by decide +kernel
theorem shift2 : ∀ b, b < 256 → ∀ e, e < 4 → ((b / 4 + 64 * e) &&& 51) = (b / 4 &&& 51) := by decide +kernel
def by1 (b : Nat) : Nat := (b / 2 &&& 85) + (b &&& 85)
def by2 (b : Nat) : Nat := (by1 b / 4 &&& 51) + (by1 b &&& 51)
theorem byte_ok : ∀ b, b < 256 → by1 b < 256 ∧ by2 b % 16 ≤ 4 ∧ by2 b / 16 ≤ 4 ∧ by2 b % 16 + by2 b / 16 = pc 8 b := by decide +kernel
theorem st1_step (n x : Nat) : st1 (n + 1) x = by1 (x % 256) + 256 * st1 n (x / 256) := by
  unfold st1 by1
  simp only [rep]
  rw [and_byte _ _ _ (by omega), and_byte _ _ _ (by omega)]
  have e1 : x / 2 % 256 = x % 256 / 2 + 128 * (x / 256 % 2) := by omega
  have e2 : x / 2 / 256 = x / 256 / 2 := by omega
  rw [e1, e2, shift1 _ (by omega) _ (by omega)]
  omega
theorem st2_step (n a y : Nat) (ha : a < 256) : st2 (n + 1) (a + 256 * y) = ((a / 4 &&& 51) + (a &&& 51)) + 256 * st2 n y := by
  unfold st2
  simp only [rep]
  rw [and_byte _ _ _ (by omega), and_byte _ _ _ (by omega)]
  have e1 : (a + 256 * y) / 4 % 256 = a / 4 + 64 * (y % 4) := by omega
  have e2 : (a + 256 * y) / 4 / 256 = y / 4 := by omega
  rw [e1, e2, shift2 _ ha _ (by omega), show (a + 256 * y) % 256 = a by omega, show (a + 256 * y) / 256 = y by omega]
  omega
theorem and15 (x : Nat) : x &&& 15 = x % 16 := Nat.and_two_pow_sub_one_eq_mod x 4
theorem st3_step (n a y : Nat) (h1 : a % 16 ≤ 4) (h2 : a / 16 ≤ 4) (h3 : y % 16 ≤ 4) : st3 (n + 1) (a + 256 * y) = (a % 16 + a / 16) + 256 * st3 n y := by
  unfold st3
  simp only [rep]
  rw [and_byte _ _ _ (by omega), and15]
  have e1 : ((a + 256 * y) / 16 + (a + 256 * y)) % 256 % 16 = a % 16 + a / 16 := by omega
  have e2 : ((a + 256 * y) / 16 + (a + 256 * y)) / 256 = y / 16 + y := by omega
  rw [e1, e2]
/-- The bytes, each with the number of its ones. -/
def cntB : Nat → Nat → Nat
  | 0, _ => 0
  | n + 1, x => pc 8 (x % 256) + 256 * cntB n (x / 256)
def twoB : Nat → Nat → Nat
  | 0, _ => 0
  | n + 1, x => by2 (x % 256) + 256 * twoB n (x / 256)
theorem st12 : ∀ n x, st2 n (st1 n x) = twoB n x
  | 0, x => by simp [st2, twoB, rep]
  | n + 1, x => by
    have hb := byte_ok (x % 256) (by omega)
    rw [st1_step, st2_step _ _ _ hb.1, st12 n (x / 256)]
    rfl
theorem twoB_mod : ∀ n x, twoB n x % 16 ≤ 4
  | 0, _ => by simp [twoB]
  | n + 1, x => by
    have hb := byte_ok (x % 256) (by omega)
    simp only [twoB]; omega
theorem st123 : ∀ n x, st3 n (twoB n x) = cntB n x
  | 0, x => by simp [st3, cntB, rep]
  | n + 1, x => by
    have hb := byte_ok (x % 256) (by omega)
    simp only [twoB, cntB]
    rw [st3_step _ _ _ hb.2.1 hb.2.2.1 (twoB_mod _ _), st123 n (x / 256), hb.2.2.2]
theorem fold8 {p0 p1 p2 p3 p4 p5 p6 p7 : Nat} (l0 : p0 ≤ 8) (l1 : p1 ≤ 8) (l2 : p2 ≤ 8) (l3 : p3 ≤ 8) (l4 : p4 ≤ 8) (l5 : p5 ≤ 8) (l6 : p6 ≤ 8) (l7 : p7 ≤ 8) {y : Nat}
    (hy : y = p0 + 256 * (p1 + 256 * (p2 + 256 * (p3 + 256 * (p4 + 256 * (p5 + 256 * (p6 + 256 * (p7 + 256 * 0)))))))) : y < 2 ^ 60 ∧
    ((let a := y + y / 2 ^ 8; let b := a + a / 2 ^ 16; let c := b + b / 2 ^ 32; c % 128) = p0 + (p1 + (p2 + (p3 + (p4 + (p5 + (p6 + (p7 + 0)))))))) ∧ y + y / 2 ^ 8 < 2 ^ 61 ∧ (y + y / 2 ^ 8) + (y + y / 2 ^ 8) / 2 ^ 16 < 2 ^ 62 := by
  obtain ⟨z7, e7⟩ : ∃ z, z = p7 + 256 * 0 := ⟨_, rfl⟩
  obtain ⟨z6, e6⟩ : ∃ z, z = p6 + 256 * z7 := ⟨_, rfl⟩
  obtain ⟨z5, e5⟩ : ∃ z, z = p5 + 256 * z6 := ⟨_, rfl⟩
  obtain ⟨z4, e4⟩ : ∃ z, z = p4 + 256 * z5 := ⟨_, rfl⟩
  obtain ⟨z3, e3⟩ : ∃ z, z = p3 + 256 * z4 := ⟨_, rfl⟩
  obtain ⟨z2, e2⟩ : ∃ z, z = p2 + 256 * z3 := ⟨_, rfl⟩
  obtain ⟨z1, e1⟩ : ∃ z, z = p1 + 256 * z2 := ⟨_, rfl⟩
  rw [← e7, ← e6, ← e5, ← e4, ← e3, ← e2, ← e1] at hy
  have b7 : z7 ≤ 8 := by omega
  have b6 : z6 ≤ 2 ^ 12 := by omega
  have b5 : z5 ≤ 2 ^ 20 + 2 ^ 4 := by omega
  have b4 : z4 ≤ 2 ^ 29 := by omega
  have b3 : z3 ≤ 2 ^ 37 + 2 ^ 4 := by omega
  have b2 : z2 ≤ 2 ^ 45 + 2 ^ 13 := by omega
  have b1 : z1 ≤ 2 ^ 53 + 2 ^ 22 := by omega
  have d1 : y / 2 ^ 8 = z1 := by omega
  rw [d1]
  have b0 : y < 2 ^ 60 := by omega
  refine ⟨b0, ?_, by omega, by omega⟩
  show (y + z1 + (y + z1) / 2 ^ 16 + (y + z1 + (y + z1) / 2 ^ 16) / 2 ^ 32) % 128 = _
  have d2 : (y + z1) / 2 ^ 16 = z2 + z3 := by
    clear e3 e4 e5 e6 e7 b0 d1 b1 b2 b3 b4 b5 b6 b7
    have : y + z1 = (p0 + p1) + 256 * ((p1 + p2) + 256 * (z2 + z3)) := by omega
    omega
  rw [d2]
  have d3 : (y + z1 + (z2 + z3)) / 2 ^ 32 = z4 + z5 + (z6 + z7) := by
    clear b0 d1 b1 b2 b3 b4 b5 b6 b7 d2
    have e8 : y + z1 = (p0 + p1) + 256 * ((p1 + p2) + 256 * (z2 + z3)) := by omega
    have e9 : z2 + z3 = (p2 + p3) + 256 * ((p3 + p4) + 256 * (z4 + z5)) := by omega
    have e10 : z4 + z5 = (p4 + p5) + 256 * ((p5 + p6) + 256 * (z6 + z7)) := by omega
    clear e1 e2 e3 e4 e5 e6 e7 hy
    generalize z6 + z7 = u at *
    generalize z4 + z5 = v at *
    generalize z2 + z3 = x at *
    generalize y + z1 = s at *
    omega
  rw [d3]
  clear b0 d1 b1 b2 b3 b4 b5 b6 b7 d2 d3
  have f0 : y + z1 = (p0 + p1) + 256 * (z1 + z2) := by omega
  have f1 : z2 + z3 = (p2 + p3) + 256 * (z3 + z4) := by omega
  have f2 : z4 + z5 = (p4 + p5) + 256 * (z5 + z6) := by omega
  have f3 : z6 + z7 = (p6 + p7) + 256 * z7 := by omega
  clear e1 e2 e3 e4 e5 e6 e7 hy
  omega
/-- What package bits adds up. -/
theorem ones_sum (x : Nat) : ∃ y, y = st3 8 (st2 8 (st1 8 x)) ∧ y < 2 ^ 60 ∧
    ((let a := y + y / 2 ^ 8; let b := a + a / 2 ^ 16; let c := b + b / 2 ^ 32; c % 128) = pc 64 x) ∧ y + y / 2 ^ 8 < 2 ^ 61 ∧ (y + y / 2 ^ 8) + (y + y / 2 ^ 8) / 2 ^ 16 < 2 ^ 62 := by
  rw [st12, st123]
  refine ⟨_, rfl, ?_⟩
  have e : pc 64 x = pc 8 (x % 256) + (pc 8 (x / 256 % 256) + (pc 8 (x / 256 / 256 % 256) + (pc 8 (x / 256 / 256 / 256 % 256) + (pc 8 (x / 256 / 256 / 256 / 256 % 256) + (pc 8 (x / 256 / 256 / 256 / 256 / 256 % 256) + (pc 8 (x / 256 / 256 / 256 / 256 / 256 / 256 % 256) + (pc 8 (x / 256 / 256 / 256 / 256 / 256 / 256 / 256 % 256) + 0))))))) := by
    rw [show (64 : Nat) = 8 + (8 + (8 + (8 + (8 + (8 + (8 + (8 + 0))))))) from rfl]
    simp only [pc_byte]
    rfl
  rw [e]
  simp only [cntB]
  have l0 := pc_le 8 (x % 256)
  have l1 := pc_le 8 (x / 256 % 256)
  have l2 := pc_le 8 (x / 256 / 256 % 256)
  have l3 := pc_le 8 (x / 256 / 256 / 256 % 256)
  have l4 := pc_le 8 (x / 256 / 256 / 256 / 256 % 256)
  have l5 := pc_le 8 (x / 256 / 256 / 256 / 256 / 256 % 256)
  have l6 := pc_le 8 (x / 256 / 256 / 256 / 256 / 256 / 256 % 256)
  have l7 := pc_le 8 (x / 256 / 256 / 256 / 256 / 256 / 256 / 256 % 256)
  generalize pc 8 (x % 256) = p0 at *
  generalize pc 8 (x / 256 % 256) = p1 at *
  generalize pc 8 (x / 256 / 256 % 256) = p2 at *
  generalize pc 8 (x / 256 / 256 / 256 % 256) = p3 at *
  generalize pc 8 (x / 256 / 256 / 256 / 256 % 256) = p4 at *
  generalize pc 8 (x / 256 / 256 / 256 / 256 / 256 % 256) = p5 at *
  generalize pc 8 (x / 256 / 256 / 256 / 256 / 256 / 256 % 256) = p6 at *
  generalize pc 8 (x / 256 / 256 / 256 / 256 / 256 / 256 / 256 % 256) = p7 at *
  clear e
  exact fold8 l0 l1 l2 l3 l4 l5 l6 l7 rfl
end Go.Proofs.Ytimkknljoeiceaa

/-! Count8 -/
namespace Go.Proofs.Ytimkknljoeiceaa
open Go.RowKit

theorem and_one (m : Nat) (h : m < 2 ^ 62) : bits BinOp.and IntKind.i64 (m : Int) 1 = ((m % 2 : Nat) : Int) := by
  have := and_nat (b := 1) h (by omega)
  rw [Nat.and_one_is_mod] at this
  exact this
theorem and_mask127 (m : Nat) (h : m < 2 ^ 62) : bits BinOp.and IntKind.i64 (m : Int) 127 = ((m % 128 : Nat) : Int) := by
  have := and_nat (b := 127) h (by omega)
  rw [show (127 : Nat) = 2 ^ 7 - 1 from rfl, Nat.and_two_pow_sub_one_eq_mod] at this
  exact this
theorem and_mask127' (m : Nat) (h : m < 9223372036854775807) : bits BinOp.and IntKind.i64 (m : Int) 127 = ((m % 128 : Nat) : Int) := by
  have h1 : (BitVec.ofInt 64 (m : Int)).toNat = m := by rw [BitVec.ofInt_natCast, BitVec.toNat_ofNat]; exact Nat.mod_eq_of_lt (by omega)
  have h2 : (BitVec.ofInt 64 (127 : Int)).toNat = 127 := by decide
  have h4 : bits BinOp.and IntKind.i64 (m : Int) 127 = IntKind.i64.wrap ((BitVec.ofInt 64 (m : Int) &&& BitVec.ofInt 64 (127 : Int)).toNat : Int) := rfl
  rw [h4, BitVec.toNat_and, h1, h2, show (127 : Nat) = 2 ^ 7 - 1 from rfl, Nat.and_two_pow_sub_one_eq_mod]
  exact IntWalk.i64_in _ (by omega)
/-- A mask of a table has fewer than 37 bits. -/
theorem mask_nat {w h M : Int} (hB : shapeB w h M = true) : ∃ a b m : Nat, w = a ∧ h = b ∧ M = m ∧ 1 ≤ a ∧ a ≤ 6 ∧ 1 ≤ b ∧ b ≤ 6 ∧ m < 2 ^ (a * b) ∧ a * b ≤ 36 := by
  unfold shapeB at hB
  simp only [Bool.and_eq_true, inB_spec] at hB
  obtain ⟨⟨h1, h2⟩, h3⟩ := hB
  have hm := mul_le36 h1 h2
  refine ⟨w.toNat, h.toNat, M.toNat, by omega, by omega, by omega, by omega, by omega, by omega, by omega, ?_, ?_⟩
  · have e : (w * h).toNat = w.toNat * h.toNat := by
      have : w * h = ((w.toNat * h.toNat : Nat) : Int) := by
        rw [Int.natCast_mul, Int.toNat_of_nonneg (by omega), Int.toNat_of_nonneg (by omega)]
      omega
    rw [← e]
    have h4 := pow_cast (w * h).toNat
    omega
  · have : w * h = ((w.toNat * h.toNat : Nat) : Int) := by
      rw [Int.natCast_mul, Int.toNat_of_nonneg (by omega), Int.toNat_of_nonneg (by omega)]
    omega
theorem lt62 {m n : Nat} (h : m < 2 ^ n) (hn : n ≤ 36) : m < 2 ^ 36 := Nat.lt_of_lt_of_le h (Nat.pow_le_pow_right (by omega) hn)
set_option maxRecDepth 100000 in
theorem ones_any (M : Nat) (W : World) (hM : M < 2 ^ 36) : Calls Try.prog 75 #[.int .i64 M] W fun e w' => e = .returned (.int .i64 (pc 64 M)) ∧ w' = W := by
  have HP : Hid (∀ k m, pc (k + 1) m = m % 2 + pc k (m / 2)) := fun _ _ => rfl
  have HZ := Lib.hid pc_zero
  have HA := Lib.hid and_one
  have HL := Lib.hid (pc_le 64 M)
  obtain ⟨T, hT⟩ : ∃ T, T = pc 64 M := ⟨_, rfl⟩
  rw [← hT] at HL
  rw [← hT]
  have HT : Hid (T = 0 + pc 64 M) := by show _ = _; omega
  clear hT
  go_enter Try.func75, Try.ntmps75
  go_wp2_with fail
  go_loop [0, 3] (fun a n => ∃ (k m c : Nat), k ≤ 64 ∧ a = .int .i64 m ∧ n = .int .i64 c ∧ m < 2 ^ 36 ∧ Hid (m < 2 ^ k) ∧ Hid (T = c + pc k m)) (fun a _ => (intOf a).toNat)
  case atStart => exact ⟨64, M, 0, Nat.le_refl _, rfl, rfl, hM, Nat.lt_of_lt_of_le hM (by decide), HT⟩
  case round =>
    clear HT
    obtain ⟨k, m, c, hk, rfl, rfl, hm, HK, HT⟩ := hrel
    have hc : c ≤ 64 := by have := HT.out; have := HL.out; omega
    by_cases h0 : 0 < m
    · have hk1 : 1 ≤ k := by
        rcases Nat.eq_zero_or_pos k with rfl | h
        · have := HK.out; omega
        · exact h
      obtain ⟨k, rfl⟩ : ∃ k', k = k' + 1 := ⟨k - 1, by omega⟩
      have HK2 : Hid (m / 2 < 2 ^ k) := by
        have := HK.out
        show _ < _
        rw [Nat.pow_succ] at this; omega
      have HT2 : Hid (T = (c + m % 2) + pc k (m / 2)) := by
        show _ = _
        rw [HT.out, HP.out]; omega
      have hm0 : (m % 2 : Nat) ≤ 1 := by omega
      have ha := HA.out m (by omega)
      clear HT HK
      go_wp2_with fail
      go_round
      case rel => exact ⟨k, m / 2, c + m % 2, by omega, by go_num, by go_num, by omega, HK2, HT2⟩
      case measure => simp [intOf]; omega
    · obtain rfl : m = 0 := by omega
      have hE : T = c := by have := HT.out; rw [HZ.out] at this; omega
      have HE := Lib.hid hE
      clear HT hE HK
      go_wp2_with fail
      go_ret
      exact ⟨by rw [HE.out]; rfl, rfl⟩
theorem and_u64 {a b : Nat} (ha : a < 18446744073709551616) (hb : b < 18446744073709551616) : bits BinOp.and IntKind.u64 (a : Int) (b : Int) = ((a &&& b : Nat) : Int) := by
  have h1 : (BitVec.ofInt 64 (a : Int)).toNat = a := by rw [BitVec.ofInt_natCast, BitVec.toNat_ofNat]; exact Nat.mod_eq_of_lt (by omega)
  have h2 : (BitVec.ofInt 64 (b : Int)).toNat = b := by rw [BitVec.ofInt_natCast, BitVec.toNat_ofNat]; exact Nat.mod_eq_of_lt (by omega)
  have h4 : bits BinOp.and IntKind.u64 (a : Int) b = IntKind.u64.wrap ((BitVec.ofInt 64 (a : Int) &&& BitVec.ofInt 64 (b : Int)).toNat : Int) := rfl
  rw [h4, BitVec.toNat_and, h1, h2, IntKind.wrap_u64]
  have : a &&& b ≤ a := Nat.and_le_left
  omega
theorem st1_bd : ∀ n x, st1 n x < 256 ^ n
  | 0, x => by simp [st1, rep]
  | n + 1, x => by
    have hb := (byte_ok (x % 256) (by omega)).1
    have := st1_bd n (x / 256)
    rw [st1_step, Nat.pow_succ]; omega
theorem twoB_bd : ∀ n x, twoB n x < 256 ^ n
  | 0, x => by simp [twoB]
  | n + 1, x => by
    have hb := byte_ok (x % 256) (by omega)
    have := twoB_bd n (x / 256)
    simp only [twoB]
    rw [Nat.pow_succ]; omega
theorem twoB_div : ∀ n x, twoB n x / 16 + twoB n x < 256 ^ n
  | 0, x => by simp [twoB]
  | n + 1, x => by
    have hb := byte_ok (x % 256) (by omega)
    have := twoB_div n (x / 256)
    have := twoB_mod n (x / 256)
    simp only [twoB]
    rw [Nat.pow_succ]; omega
theorem u64_st1 (x : Nat) (h : x < 18446744073709551616) : IntKind.u64.wrap (bits BinOp.and IntKind.u64 ((x : Int) / 2) 6148914691236517205 + bits BinOp.and IntKind.u64 (x : Int) 6148914691236517205) = ((st1 8 x : Nat) : Int) := by
  have e1 := and_u64 (a := x / 2) (b := rep 85 8) (by omega) (by decide)
  have e2 := and_u64 (a := x) (b := rep 85 8) (by omega) (by decide)
  have er : ((rep 85 8 : Nat) : Int) = 6148914691236517205 := by decide
  rw [er] at e1 e2
  have ed : ((x / 2 : Nat) : Int) = (x : Int) / 2 := by omega
  rw [ed] at e1
  have hb := st1_bd 8 x
  rw [show (256 : Nat) ^ 8 = 18446744073709551616 from rfl] at hb
  unfold st1 at hb ⊢
  rw [e1, e2, IntKind.wrap_u64]
  omega
theorem u64_st2 (x : Nat) (h : x < 18446744073709551616) (hb : st2 8 x < 18446744073709551616) : IntKind.u64.wrap (bits BinOp.and IntKind.u64 ((x : Int) / 4) 3689348814741910323 + bits BinOp.and IntKind.u64 (x : Int) 3689348814741910323) = ((st2 8 x : Nat) : Int) := by
  have e1 := and_u64 (a := x / 4) (b := rep 51 8) (by omega) (by decide)
  have e2 := and_u64 (a := x) (b := rep 51 8) (by omega) (by decide)
  have er : ((rep 51 8 : Nat) : Int) = 3689348814741910323 := by decide
  rw [er] at e1 e2
  have ed : ((x / 4 : Nat) : Int) = (x : Int) / 4 := by omega
  rw [ed] at e1
  unfold st2 at hb ⊢
  rw [e1, e2, IntKind.wrap_u64]
  omega
theorem u64_st3 (x : Nat) (h : x / 16 + x < 18446744073709551616) : bits BinOp.and IntKind.u64 (IntKind.u64.wrap ((x : Int) / 16 + (x : Int))) 1085102592571150095 = ((st3 8 x : Nat) : Int) := by
  have e1 := and_u64 (a := x / 16 + x) (b := rep 15 8) h (by decide)
  have er : ((rep 15 8 : Nat) : Int) = 1085102592571150095 := by decide
  rw [er] at e1
  have ed : IntKind.u64.wrap ((x : Int) / 16 + (x : Int)) = ((x / 16 + x : Nat) : Int) := by rw [IntKind.wrap_u64]; omega
  rw [ed, e1]; rfl
/-- All steps of OnesCount64 as equations of the walk's own terms. -/
theorem ones_steps (x : Nat) (hx : x < 68719476736) : ∃ s1 s2 y a b c : Nat,
    IntKind.u64.wrap (bits BinOp.and IntKind.u64 ((x : Int) / 2) 6148914691236517205 + bits BinOp.and IntKind.u64 (x : Int) 6148914691236517205) = (s1 : Int) ∧
    IntKind.u64.wrap (bits BinOp.and IntKind.u64 ((s1 : Int) / 4) 3689348814741910323 + bits BinOp.and IntKind.u64 (s1 : Int) 3689348814741910323) = (s2 : Int) ∧
    bits BinOp.and IntKind.u64 (IntKind.u64.wrap ((s2 : Int) / 16 + (s2 : Int))) 1085102592571150095 = (y : Int) ∧
    IntKind.u64.wrap ((y : Int) + (y : Int) / 256) = (a : Int) ∧ IntKind.u64.wrap ((a : Int) + (a : Int) / 65536) = (b : Int) ∧ IntKind.u64.wrap ((b : Int) + (b : Int) / 4294967296) = (c : Int) ∧
    wrap64 (c : Int) = (c : Int) ∧ bits BinOp.and IntKind.i64 (c : Int) 127 = ((pc 64 x : Nat) : Int) := by
  have l1 := st1_bd 8 x
  have l2 := twoB_bd 8 x
  have l3 := twoB_div 8 x
  rw [show (256 : Nat) ^ 8 = 18446744073709551616 from rfl] at l1 l2 l3
  have e1 := u64_st1 x (by omega)
  have e2 := u64_st2 (st1 8 x) l1 (by rw [st12]; exact l2)
  obtain ⟨y, hy, hy1, hy2, hy3, hy4⟩ := ones_sum x
  rw [st12] at e2 hy
  have e3 := u64_st3 (twoB 8 x) l3
  rw [← hy] at e3
  change (y + y / 2 ^ 8 + (y + y / 2 ^ 8) / 2 ^ 16 + (y + y / 2 ^ 8 + (y + y / 2 ^ 8) / 2 ^ 16) / 2 ^ 32) % 128 = pc 64 x at hy2
  rw [show (2 : Nat) ^ 8 = 256 from rfl, show (2 : Nat) ^ 16 = 65536 from rfl, show (2 : Nat) ^ 32 = 4294967296 from rfl] at hy2
  rw [show (2 : Nat) ^ 8 = 256 from rfl, show (2 : Nat) ^ 61 = 2305843009213693952 from rfl] at hy3
  rw [show (2 : Nat) ^ 8 = 256 from rfl, show (2 : Nat) ^ 16 = 65536 from rfl, show (2 : Nat) ^ 62 = 4611686018427387904 from rfl] at hy4
  clear hy hy1 l1 l2 l3 hx
  generalize twoB 8 x = s2 at *
  generalize st1 8 x = s1 at *
  obtain ⟨a, ha⟩ : ∃ a, a = y + y / 256 := ⟨_, rfl⟩
  rw [← ha] at hy2 hy3 hy4
  obtain ⟨b, hb⟩ : ∃ b, b = a + a / 65536 := ⟨_, rfl⟩
  rw [← hb] at hy2 hy4
  obtain ⟨c, hc⟩ : ∃ c, c = b + b / 4294967296 := ⟨_, rfl⟩
  rw [← hc] at hy2
  have hc2 : c < 9223372036854775807 := by omega
  have e8 : bits BinOp.and IntKind.i64 (c : Int) 127 = ((pc 64 x : Nat) : Int) := by
    rw [and_mask127' c hc2, hy2]
  clear hy2
  exact ⟨s1, s2, y, a, b, c, e1, e2, e3, by rw [IntKind.wrap_u64]; omega, by rw [IntKind.wrap_u64]; omega, by rw [IntKind.wrap_u64]; omega, IntWalk.wrap64_in _ (by omega), e8⟩
set_option maxRecDepth 100000 in
theorem ones64_any (x : Nat) (W : World) (hx : x < 68719476736) : Calls Try.prog 127 #[.int .u64 x] W fun e w' => e = .returned (.int .i64 (pc 64 x)) ∧ w' = W := by
  obtain ⟨s1, s2, y, a, b, c, e1, e2, e3, e4, e5, e6, e7, e8⟩ := ones_steps x hx
  go_enter Try.func127, Try.ntmps127
  go_wp2_with fail
  go_ret
  exact ⟨rfl, rfl⟩
theorem onesW_any (x : Nat) (W : World) (hx : x < 68719476736) : Calls Try.prog 76 #[.int .u64 x] W fun e w' => e = .returned (.int .i64 (pc 64 x)) ∧ w' = W := by
  have HC := Lib.hid (fun W => ones64_any x W hx)
  go_enter Try.func76, Try.ntmps76
  go_wp2_with fail
  refine (HC.out _).mono ?_
  rintro e w1 ⟨rfl, rfl⟩
  go_wp2_with fail
  go_ret
  exact ⟨rfl, rfl⟩
/-- What CellCount answers. -/
def cellsV (w h M : Int) : Int := bif shapeB w h M then (pc 64 M.toNat : Int) else -1
theorem cellsV_no {w h M : Int} (hB : shapeB w h M = false) : cellsV w h M = -1 := by unfold cellsV; rw [hB]; rfl
theorem cellsV_yes {w h : Int} {m : Nat} (hB : shapeB w h m = true) : cellsV w h m = (pc 64 m : Nat) := by unfold cellsV; rw [hB]; rfl
set_option maxRecDepth 100000 in
theorem spec_cells (w h M : Int) (W : World) : Calls Try.prog 26 #[.int .i64 w, .int .i64 h, .int .i64 M] W fun e w' => e = .returned (.int .i64 (cellsV w h M)) ∧ w' = W := by
  have HS := Lib.hid (fun W => spec_shape w h M W)
  cases hB : shapeB w h M
  · rw [hB] at HS
    have HV := Lib.hid (cellsV_no hB)
    rw [HV.out]
    go_enter Try.func26, Try.ntmps26
    go_wp2_with fail
    refine (HS.out _).mono ?_
    rintro e w1 ⟨rfl, rfl⟩
    go_wp2_with fail
    go_ret
    exact ⟨rfl, rfl⟩
  · rw [hB] at HS
    obtain ⟨a, b, m, rfl, rfl, rfl, ha1, ha2, hb1, hb2, hm, hab⟩ := mask_nat hB
    have HV := Lib.hid (cellsV_yes hB)
    rw [HV.out]
    have HO := Lib.hid (fun W => ones_any m W (lt62 hm hab))
    clear hm hab hB
    go_enter Try.func26, Try.ntmps26
    go_wp2_with fail
    refine (HS.out _).mono ?_
    rintro e w1 ⟨rfl, rfl⟩
    go_wp2_with fail
    refine (HO.out _).mono ?_
    rintro e w1 ⟨rfl, rfl⟩
    go_wp2_with fail
    go_ret
    exact ⟨rfl, rfl⟩
set_option maxRecDepth 100000 in
theorem impl_cells (w h M : Int) (W : World) : Calls Try.prog 27 #[.int .i64 w, .int .i64 h, .int .i64 M] W fun e w' => e = .returned (.int .i64 (cellsV w h M)) ∧ w' = W := by
  have HS := Lib.hid (fun W => impl_shape w h M W)
  cases hB : shapeB w h M
  · rw [hB] at HS
    have HV := Lib.hid (cellsV_no hB)
    rw [HV.out]
    go_enter Try.func27, Try.ntmps27
    go_wp2_with fail
    refine (HS.out _).mono ?_
    rintro e w1 ⟨rfl, rfl⟩
    go_wp2_with fail
    go_ret
    exact ⟨rfl, rfl⟩
  · rw [hB] at HS
    obtain ⟨a, b, m, rfl, rfl, rfl, ha1, ha2, hb1, hb2, hm, hab⟩ := mask_nat hB
    have HV := Lib.hid (cellsV_yes hB)
    rw [HV.out]
    have hm2 : m < 68719476736 := lt62 hm hab
    have HO := Lib.hid (fun W => onesW_any m W hm2)
    have e1 : IntKind.u64.wrap (m : Int) = (m : Int) := by rw [IntKind.wrap_u64]; omega
    clear hm hab hB
    go_enter Try.func27, Try.ntmps27
    go_wp2_with fail
    refine (HS.out _).mono ?_
    rintro e w1 ⟨rfl, rfl⟩
    go_wp2_with fail
    refine (HO.out _).mono ?_
    rintro e w1 ⟨rfl, rfl⟩
    go_wp2_with fail
    go_ret
    exact ⟨rfl, rfl⟩
theorem ex_cellCount (w h M : Int) (W : World) : Calls Try.prog 5 #[.int .i64 w, .int .i64 h, .int .i64 M] W fun e w' => e = .returned (.bool true) ∧ Below W.heap.size W w' := by
  have HS := Lib.hid (fun W => spec_cells w h M W)
  have HI := Lib.hid (fun W => impl_cells w h M W)
  generalize cellsV w h M = r at *
  go_enter Try.func5, Try.ntmps5
  go_wp2_with fail
  refine (HS.out _).mono ?_
  rintro e w1 ⟨rfl, rfl⟩
  go_wp2_with fail
  refine (HI.out _).mono ?_
  rintro e w2 ⟨rfl, rfl⟩
  go_wp2_with fail
  go_ret
  exact ⟨rfl, Below.refl _ _⟩
end Go.Proofs.Ytimkknljoeiceaa

/-! Board -/
namespace Go.Proofs.Ytimkknljoeiceaa
open Go.RowKit

/-- The board as a row of cells. -/
def bdV (a b : Nat) (F : Nat → Bool) : Array Value := ((.int .i64 a) :: (.int .i64 b) :: (List.range 36).map fun i => Value.bool (F i)).toArray
theorem bdV_size (a b : Nat) (F : Nat → Bool) : (bdV a b F).size = 38 := by simp [bdV]
theorem bdV_at (a b : Nat) (F : Nat → Bool) {i : Nat} (h : i < 36) : (bdV a b F)[2 + i]? = some (.bool (F i)) := by
  have e : 2 + i = (i + 1) + 1 := by omega
  simp [bdV, e, h]
def updF (F : Nat → Bool) (i : Nat) (v : Bool) : Nat → Bool := fun j => if j = i then v else F j
theorem bdV_set (a b : Nat) (F : Nat → Bool) {i : Nat} (h : i < 36) (v : Bool) : (bdV a b F).setIfInBounds (2 + i) (.bool v) = bdV a b (updF F i v) := by
  apply Array.ext_getElem?
  intro j
  rw [Array.getElem?_setIfInBounds, bdV_size]
  by_cases e : 2 + i = j
  · subst e
    rw [if_pos rfl, if_pos (by omega), bdV_at _ _ _ h]; simp [updF]
  · rw [if_neg e]
    match j with
    | 0 => rfl
    | 1 => rfl
    | j + 2 =>
      rcases Nat.lt_or_ge j 36 with hj | hj
      · rw [show j + 2 = 2 + j by omega, bdV_at _ _ _ hj, bdV_at _ _ _ hj]
        have : ¬ j = i := by omega
        simp [updF, this]
      · rw [Array.getElem?_eq_none (by rw [bdV_size]; omega), Array.getElem?_eq_none (by rw [bdV_size]; omega)]
theorem bdV_one (a b : Nat) (F : Nat → Bool) : (bdV a b F).all (·.oneCell') = true := by
  rw [Array.all_eq_true]
  intro i hi
  rw [bdV_size] at hi
  match i with
  | 0 => rfl
  | 1 => rfl
  | i + 2 =>
    have := bdV_at a b F (i := i) (by omega)
    rw [show 2 + i = i + 2 by omega, Array.getElem?_eq_getElem (by rw [bdV_size]; omega)] at this
    rw [Option.some.inj this]; rfl
theorem bdV_congr {a b : Nat} {F G : Nat → Bool} (h : ∀ i, i < 36 → F i = G i) : bdV a b F = bdV a b G := by
  unfold bdV
  congr 3
  apply List.map_congr_left
  intro i hi
  rw [h i (by simpa using hi)]
theorem infoB : (Try.prog.info? 75).map (·.size) = some 38 := by kernel_rfl
theorem infoB' (a b : Nat) (F : Nat → Bool) : (Try.prog.info? 75).map (·.size) = some (bdV a b F).size := by rw [bdV_size]; exact infoB

/-- Block g holds a board. -/
def Brd (w : World) (g a b : Nat) (F : Nat → Bool) : Prop := w.heap[g]? = some (.cells (bdV a b F) 75 (0, 0))
section
variable {w w' : World} {g a b : Nat} {F : Nat → Bool}
theorem Brd.lt (h : Brd w g a b F) : g < w.heap.size := (Array.getElem?_eq_some_iff.1 h).1
theorem Brd.alloc (h : Brd w g a b F) (o : Obj) : Brd (w.alloc o) g a b F := (Below.heap_alloc w o g h.lt).trans h
theorem Brd.step (h : Brd w g a b F) (hb : Below w.heap.size w w') : Brd w' g a b F := (hb.block g h.lt).trans h
theorem brd_new (w : World) (a b : Nat) (F : Nat → Bool) : Brd (w.alloc (.cells (bdV a b F) 75)) w.heap.size a b F := heap_alloc_new w _
theorem Brd.c0 (h : Brd w g a b F) : w.cell? ⟨g, 0, none⟩ = some (.int .i64 a) := cell_of_row w g 0 _ _ _ h
theorem Brd.c1 (h : Brd w g a b F) : w.cell? ⟨g, 1, none⟩ = some (.int .i64 b) := cell_of_row w g 1 _ _ _ h
theorem Brd.at (h : Brd w g a b F) {i : Nat} (hi : i < 36) : w.cell? ⟨g, 2 + i, none⟩ = some (.bool (F i)) := (cell_of_row w g (2 + i) _ _ _ h).trans (bdV_at a b F hi)
theorem Brd.frozen (h : Brd w g a b F) (j : Nat) : w.frozen? ⟨g, j, none⟩ = false := frozen_of_row w g j _ _ h
theorem Brd.set (h : Brd w g a b F) {i : Nat} (hi : i < 36) (v : Bool) : Brd (w.setCell ⟨g, 2 + i, none⟩ (.bool v)) g a b (updF F i v) := by
  have := heap_setCell_same w g (2 + i) _ _ (.bool v) h
  rw [bdV_set a b F hi v] at this
  exact this
theorem Brd.other (h : Brd w g a b F) {k : Nat} (hk : k ≠ g) (j : Nat) (v : Value) : Brd (w.setCell ⟨k, j, none⟩ v) g a b F :=
  (Below.heap_setCell w ⟨k, j, none⟩ v g (by simpa using (Ne.symm hk))).trans h
end
/-! ### A board is made, built, boxed, read and written as a whole -/
theorem zeroB : (∀ w, (zeroValue 75).run Try.prog w = .ok (.agg (bdV 0 0 fun _ => false)) w) := (zero_of_info (n := 38) (by kernel_rfl)).1
set_option maxRecDepth 100000 in
theorem allocB (w : World) : (Instr.alloc 75 true (.tuple #[])).run Try.prog w = .ok (.pointer (some ⟨w.heap.size, 0, none⟩)) (w.alloc (.cells (bdV 0 0 fun _ => false) 75)) := by
  simp [-Try.zeroValue75, zeroB, go_sem, Instr.alloc]
set_option maxRecDepth 100000 in
theorem buildB (x y : Nat) (w : World) : (Instr.build 75 #[(0, .int .i64 x), (1, .int .i64 y)]).run Try.prog w = .ok (.agg (bdV x y fun _ => false)) w := by
  simp [go_sem, Instr.build]
  rfl
section
variable {ops : Array Oper} {rest : List Oper} {o : Oper} {a : Act} {w : World} {Q : Exit → Act → World → Prop}
theorem wpList_allocB (hgd : o.guard = none) (ho : o.op = .alloc 75) (h : wpList Try.prog ops Q rest (a.put o.dst (.pointer (some ⟨w.heap.size, 0, none⟩))) (w.alloc (.cells (bdV 0 0 fun _ => false) 75))) : wpList Try.prog ops Q (o :: rest) a w :=
  wpList_plain hgd fun _ hK => by
    unfold Oper.wp execOp
    simp only [ho, allocB, Sem.run_bind, Sem.run_pure, Result.andThen_ok]
    exact hK _ _ h
theorem wpList_buildB (hgd : o.guard = none) (x y : Operand) (ho : o.op = .build 75 #[(0, x), (1, y)]) (m n : Nat) (hx : a.eval x = .int .i64 m) (hy : a.eval y = .int .i64 n) (h : wpList Try.prog ops Q rest (a.put o.dst (.agg (bdV m n fun _ => false))) w) : wpList Try.prog ops Q (o :: rest) a w :=
  wpList_plain hgd fun _ hK => by
    unfold Oper.wp execOp
    have e : (#[(0, x), (1, y)] : Array (Nat × Operand)).map (fun (i, x) => (i, a.eval x)) = #[(0, .int .i64 (m : Int)), (1, .int .i64 (n : Int))] := by simp [hx, hy]
    simp only [ho, e, buildB, Sem.run_bind, Sem.run_pure, Result.andThen_ok]
    exact hK _ _ h
end
/-- The flags of a mask. -/
def flg (M n : Nat) : Nat → Bool := fun j => decide (j < n) && M.testBit j
theorem bit_eq (M k : Nat) (hM : M < 2 ^ 36) : bits BinOp.and IntKind.i64 ((M >>> k : Nat) : Int) 1 = if M.testBit k then 1 else 0 := by
  have h : M >>> k < 2 ^ 62 := by
    rw [Nat.shiftRight_eq_div_pow]
    exact Nat.lt_of_le_of_lt (Nat.div_le_self _ _) (Nat.lt_of_lt_of_le hM (by decide))
  rw [and_one _ h, bit_mod]
  split <;> rfl
theorem flg_succ (M k : Nat) : updF (flg M k) k (M.testBit k) = flg M (k + 1) := by
  funext j
  by_cases e : j = k
  · subst e; simp [updF, flg]
  · have : decide (j < k + 1) = decide (j < k) := by rw [decide_eq_decide]; omega
    simp [updF, flg, e, this]
theorem flg_zero (M : Nat) : flg M 0 = fun _ => false := by funext j; simp [flg]
theorem flg_all {M n : Nat} (h : M < 2 ^ n) : flg M n = M.testBit := by
  funext j
  by_cases hj : j < n
  · simp [flg, hj]
  · rw [Nat.testBit_lt_two_pow (Nat.lt_of_lt_of_le h (Nat.pow_le_pow_right (by omega) (by omega)))]
    simp [flg, hj]
theorem below_rowB {B : Nat} {a w : World} (h : Below B a w) {g : Nat} (hg : B ≤ g) (cs : Array Value) : Below B a (w.setRow g cs) := by
  exact h.trans ⟨rfl, rfl, rfl, by simp, fun k hk => setRow_other w g k cs (by omega)⟩
theorem brd_setRow {w : World} {g : Nat} {c : Array Value} (h : w.heap[g]? = some (.cells c 75 (0, 0))) (a b : Nat) (F : Nat → Bool) : Brd (w.setRow g (bdV a b F)) g a b F := setRow_heap _ _ _ _ 75 _ h
theorem Brd.setRow {w : World} {g a b : Nat} {F : Nat → Bool} (h : Brd w g a b F) {k : Nat} (hk : k ≠ g) (c : Array Value) : Brd (w.setRow k c) g a b F := (setRow_other w k g c (Ne.symm hk)).trans h
theorem bit_at (M k : Nat) (hM : M < 2 ^ 36) : ∃ z : Nat, (M : Int) / 2 ^ k = (z : Int) ∧ bits BinOp.and IntKind.i64 (z : Int) 1 = if M.testBit k then 1 else 0 :=
  ⟨M >>> k, shr_cast M k, bit_eq M k hM⟩
set_option maxRecDepth 100000 in
set_option maxHeartbeats 1600000 in
theorem boardOf_any (a b M : Nat) (W : World) (hM : M < 2 ^ (a * b)) (hab : a * b ≤ 36) :
    Calls Try.prog 78 #[.int .i64 a, .int .i64 b, .int .i64 M] W fun e w' => e = .returned (.agg (bdV a b M.testBit)) ∧ Below W.heap.size W w' := by
  obtain ⟨n, hn⟩ : ∃ n, n = a * b := ⟨_, rfl⟩
  have hN : ((a : Int) * (b : Int) = (n : Int)) := by rw [hn, Int.natCast_mul]
  rw [← hn] at hab hM
  have HM := Lib.hid (lt62 hM hab)
  have HF := Lib.hid (flg_all hM)
  have HZ := Lib.hid (flg_zero M)
  clear hM hn
  go_enter Try.func78, Try.ntmps78
  go_wp2_with (first
    | (refine wpList_allocB rfl rfl ?_; try simp only [size_alloc])
    | refine wpList_buildB rfl _ _ rfl _ _ rfl rfl ?_
    | refine wpList_store_row rfl 75 _ _ rfl (W.heap.size + 1) (bdV a b fun _ => false) rfl rfl 75 _ (heap_alloc2_new W _ _) (infoB' _ _ _) (by rw [bdV_size, bdV_size]) (bdV_one _ _ _) ?_)
  have t1 := brd_setRow (heap_alloc2_new W (.cells (bdV 0 0 fun _ => false) 75) (.cells (bdV 0 0 fun _ => false) 75)) a b (fun _ => false)
  have t0 := ((brd_new W 0 0 fun _ => false).alloc (.cells (bdV 0 0 fun _ => false) 75)).setRow (k := W.heap.size + 1) (by omega) (bdV a b fun _ => false)
  have b1 := below_rowB (below2 W (.cells (bdV 0 0 fun _ => false) 75) (.cells (bdV 0 0 fun _ => false) 75)) (g := W.heap.size + 1) (by omega) (bdV a b fun _ => false)
  generalize ((W.alloc (.cells (bdV 0 0 fun _ => false) 75)).alloc (.cells (bdV 0 0 fun _ => false) 75)).setRow (W.heap.size + 1) (bdV a b fun _ => false) = w1 at *
  rw [← HZ.out] at t1
  clear HZ
  go_loopw [8, 15] (fun _ i wr => ∃ k : Nat, k ≤ n ∧ i = .int .i64 k ∧ Brd wr (W.heap.size + 1) a b (flg M k) ∧ Brd wr W.heap.size 0 0 (fun _ => false) ∧ Below W.heap.size W wr) (fun _ i _ => n - (intOf i).toNat)
  case atStart => exact ⟨0, Nat.zero_le _, rfl, t1, t0, b1⟩
  case round =>
    clear t1 t0 b1
    obtain ⟨wo, rfl⟩ : ∃ wo : World, wo = wr := ⟨_, rfl⟩
    obtain ⟨k, hk, rfl, t1, t0, hb⟩ := hrel
    by_cases hlt : k < n
    · have hlt36 : k < 36 := by omega
      obtain ⟨z, hs, hbit⟩ := bit_at M k HM.out
      have c1 := t1.at hlt36
      have f1 := t1.frozen (2 + k)
      have s1 := t1.set hlt36 (M.testBit k)
      rw [flg_succ] at s1
      have s0 := t0.other (k := W.heap.size + 1) (by omega) (2 + k) (.bool (M.testBit k))
      have sb := hb.setCell (p := ⟨W.heap.size + 1, 2 + k, none⟩) (Nat.le_succ _) (.bool (M.testBit k))
      have R := Lib.hid (And.intro s1 (And.intro s0 sb))
      clear s1 s0 sb t1 t0 hb
      cases ht : M.testBit k
      all_goals
        rw [ht] at hbit R
        simp only [Bool.false_eq_true, if_true, if_false] at hbit
        clear ht
        go_wp2_with fail
        go_roundw
        case rel => exact ⟨k + 1, by omega, by go_num, R.out.1, R.out.2.1, R.out.2.2⟩
        case measure => simp [intOf]; omega
    · obtain rfl : k = n := by omega
      rw [HF.out] at t1
      go_wp2_with (first
        | refine wpList_load_row rfl 75 _ rfl (W.heap.size + 1) rfl 75 _ (0, 0) _ t1 Try.underlying75 rfl (infoB' _ _ _) ?_
        | refine wpList_store_row rfl 75 _ _ rfl W.heap.size (bdV a b M.testBit) rfl rfl 75 _ t0 (infoB' _ _ _) (by rw [bdV_size, bdV_size]) (bdV_one _ _ _) ?_)
      refine bodyPost_ret (v := .agg (bdV a b M.testBit)) (results_cell_row rfl _ _ W.heap.size 75 (bdV a b M.testBit) (0, 0) _ rfl (brd_setRow t0 a b M.testBit) Try.underlying75 rfl (infoB' _ _ _)) rfl ⟨rfl, below_rowB hb (Nat.le_refl _) _⟩
end Go.Proofs.Ytimkknljoeiceaa

/-! Board2 -/
namespace Go.Proofs.Ytimkknljoeiceaa
open Go.RowKit

section
variable {ops : Array Oper} {rest : List Oper} {o : Oper} {a : Act} {w : World} {Q : Exit → Act → World → Prop}
/-- A board is read as a whole, under a guard that is met. -/
theorem wpList_loadB (hw : Region.wanted o (yielded ops a.tmps) = true) (x : Operand) (ho : o.op = .load 75 x) (g p q : Nat) (F : Nat → Bool) (hx : a.eval x = .pointer (some ⟨g, 0, none⟩)) (hg : Brd w g p q F)
    (h : wpList Try.prog ops Q rest (a.put o.dst (.agg (bdV p q F))) w) : wpList Try.prog ops Q (o :: rest) a w :=
  wpList_step fun K hK => by
    rw [if_pos hw]
    exact wp_load_row 75 x ho g hx 75 (bdV p q F) (0, 0) _ hg Try.underlying75 rfl (infoB' _ _ _) (hK _ _ h)
/-- A board is written as a whole. -/
theorem wpList_storeB (hw : o.guard = none) (x y : Operand) (ho : o.op = .store 75 x y) (g p q p' q' : Nat) (F G : Nat → Bool) (hx : a.eval x = .pointer (some ⟨g, 0, none⟩)) (hy : a.eval y = .agg (bdV p q F)) (hg : Brd w g p' q' G)
    (h : wpList Try.prog ops Q rest (a.put o.dst undef) (w.setRow g (bdV p q F))) : wpList Try.prog ops Q (o :: rest) a w :=
  wpList_store_row hw 75 x y ho g (bdV p q F) hx hy 75 _ hg (infoB' _ _ _) (by rw [bdV_size, bdV_size]) (bdV_one _ _ _) h
end
def covB (a b : Nat) (x y : Int) : Bool := inB x 0 (a - 1) && inB y 0 (b - 1)
def hasB (a b : Nat) (F : Nat → Bool) (x y : Int) : Bool := covB a b x y && F (y * a + x).toNat
theorem two_le36 {k : Nat} (h : k ≤ 36) : 2 ^ k ≤ 68719476736 := Nat.pow_le_pow_right (n := 2) (by omega) h
theorem pow_nat (k : Nat) (h : k < 36) : ∃ p : Nat, (2 : Int) ^ k = (p : Int) ∧ p = 2 ^ k ∧ p ≤ 68719476736 :=
  ⟨2 ^ k, pow_cast k, rfl, two_le36 (by omega)⟩
set_option maxRecDepth 100000 in
set_option maxHeartbeats 1600000 in
theorem maskB_any (a b : Nat) (F : Nat → Bool) (W : World) (hab : a * b ≤ 36) :
    Calls Try.prog 95 #[.agg (bdV a b F)] W fun e w' => e = .returned (.int .i64 (ofF F (a * b))) ∧ Below W.heap.size W w' := by
  obtain ⟨n, hn⟩ : ∃ n, n = a * b := ⟨_, rfl⟩
  have hN : ((a : Int) * (b : Int) = (n : Int)) := by rw [hn, Int.natCast_mul]
  rw [← hn] at hab ⊢
  have t1 := brd_new W a b F
  have c0 := t1.c0; have c1 := t1.c1
  have b1 := below1 W (.cells (bdV a b F) 75)
  have H0 : Hid (0 = ofF F 0) := rfl
  clear hn
  go_enter Try.func95, Try.ntmps95
  go_wp2_with fail
  generalize W.alloc (.cells (bdV a b F) 75) = w1 at *
  have HT := Lib.hid t1
  clear t1
  go_loopw [3, 4, 10] (fun s _ i wr => ∃ k m : Nat, k ≤ n ∧ i = .int .i64 k ∧ s = .int .i64 m ∧ Hid (m = ofF F k) ∧ wr = w1) (fun _ _ i _ => n - (intOf i).toNat)
  case atStart => exact ⟨0, 0, Nat.zero_le _, rfl, rfl, H0, rfl⟩
  case round =>
    obtain ⟨k, m, hk, rfl, rfl, HM, rfl⟩ := hrel
    by_cases hlt : k < n
    · have hlt36 : k < 36 := by omega
      have c2 := HT.out.at hlt36
      obtain ⟨p, hp, hp2, hp3⟩ := pow_nat k hlt36
      have hm : m < 68719476736 := by
        rw [HM.out]
        exact Nat.lt_of_lt_of_le (ofF_lt F k) (two_le36 (by omega))
      have hor := or_nat (a := m) (b := p) (by omega) (by omega)
      cases hF : F k
      · rw [hF] at c2
        have HS : Hid (m = ofF F (k + 1)) := by
          show _ = _
          rw [HM.out]; simp [ofF, hF]
        clear hor hp hp2 hp3 hF
        go_wp2_with fail
        go_roundw
        case rel => exact ⟨k + 1, m, by omega, by go_num, rfl, HS, by first | trivial | rfl⟩
        case measure => simp [intOf]; omega
      · rw [hF] at c2
        have HS : Hid (m ||| p = ofF F (k + 1)) := by
          show _ = _
          rw [HM.out, hp2]; simp [ofF, hF]
        clear hF hp2
        generalize m ||| p = m2 at *
        go_wp2_with fail
        go_roundw
        case rel => exact ⟨k + 1, m2, by omega, by go_num, rfl, HS, by first | trivial | rfl⟩
        case measure => simp [intOf]; omega
    · obtain rfl : k = n := by omega
      go_wp2_with fail
      go_ret
      rw [← HM.out]
      exact ⟨rfl, b1⟩
theorem covers_any (a b : Nat) (F : Nat → Bool) (x y : Int) (W : World) (ha : 1 ≤ a ∧ a ≤ 6) (hb : 1 ≤ b ∧ b ≤ 6) :
    Calls Try.prog 140 #[.agg (bdV a b F), (.agg #[.int .i64 x, .int .i64 y])] W fun e w' => e = .returned (.bool (covB a b x y)) ∧ Below W.heap.size W w' := by
  have t1 := (brd_new W a b F).alloc (.cells #[.int .i64 x, .int .i64 y] 54)
  have t2 := at_new (W.alloc (.cells (bdV a b F) 75)) x y 54
  rw [size_alloc] at t2
  have b2 := below2 W (.cells (bdV a b F) 75) (.cells #[.int .i64 x, .int .i64 y] 54)
  have c0 := t1.c0; have c1 := t1.c1; have c2 := t2.c0; have c3 := t2.c1
  have HV : Hid (covB a b x y = (inB x 0 (a - 1) && inB y 0 (b - 1))) := rfl
  clear t1 t2
  cases hx : inB x 0 (a - 1)
  all_goals
    rw [hx] at HV
    go_enter Try.func140, Try.ntmps140
    go_wp2_with fail
    refine (from_any _ _ _ _).mono ?_
    rintro e w1 ⟨rfl, rfl⟩
    rw [hx]
    go_wp2_with fail
  · go_ret
    exact ⟨ret_bool HV.out.symm, b2⟩
  · refine (from_any _ _ _ _).mono ?_
    rintro e w1 ⟨rfl, rfl⟩
    go_wp2_with fail
    go_ret
    exact ⟨ret_bool HV.out.symm, b2⟩
theorem covB_nat {a b : Nat} {x y : Int} (h : covB a b x y = true) : ∃ i j : Nat, x = i ∧ y = j ∧ i < a ∧ j < b ∧ j * a + i < a * b ∧ (y * a + x) = ((j * a + i : Nat) : Int) := by
  unfold covB at h
  simp only [Bool.and_eq_true, inB_spec] at h
  refine ⟨x.toNat, y.toNat, by omega, by omega, by omega, by omega, in_tab (by omega) (by omega), ?_⟩
  rw [Int.natCast_add, Int.natCast_mul, Int.toNat_of_nonneg (by omega), Int.toNat_of_nonneg (by omega)]
theorem indexOf_any (a b : Nat) (F : Nat → Bool) (i j : Nat) (W : World) (ha : a ≤ 6) (hb : b ≤ 6) (hi : i < a) (hj : j < b) :
    Calls Try.prog 129 #[.agg (bdV a b F), (.agg #[.int .i64 (i : Int), .int .i64 (j : Int)])] W fun e w' => e = .returned (.int .i64 (j * a + i : Nat)) ∧ Below W.heap.size W w' := by
  have t1 := (brd_new W a b F).alloc (.cells #[.int .i64 i, .int .i64 j] 54)
  have t2 := at_new (W.alloc (.cells (bdV a b F) 75)) i j 54
  rw [size_alloc] at t2
  have b2 := below2 W (.cells (bdV a b F) 75) (.cells #[.int .i64 i, .int .i64 j] 54)
  have c0 := t1.c0; have c2 := t2.c0; have c3 := t2.c1
  obtain ⟨m, hm⟩ : ∃ m, m = j * a := ⟨_, rfl⟩
  have hm2 : m ≤ 36 := by rw [hm]; exact Nat.mul_le_mul (by omega : j ≤ 6) ha
  have hM : (j : Int) * (a : Int) = (m : Int) := by rw [hm, Int.natCast_mul]
  rw [← hm]
  clear t1 t2 hm
  go_enter Try.func129, Try.ntmps129
  go_wp2_with fail
  go_ret
  exact ⟨by go_num, b2⟩
set_option maxRecDepth 100000 in
theorem hasCell_any (a b : Nat) (F : Nat → Bool) (x y : Int) (W : World) (ha : 1 ≤ a ∧ a ≤ 6) (hb : 1 ≤ b ∧ b ≤ 6) (hab : a * b ≤ 36) :
    Calls Try.prog 97 #[.agg (bdV a b F), (.agg #[.int .i64 x, .int .i64 y])] W fun e w' => e = .returned (.bool (hasB a b F x y)) ∧ Below W.heap.size W w' := by
  have t1 := (brd_new W a b F).alloc (.cells #[.int .i64 x, .int .i64 y] 54)
  have t2 := at_new (W.alloc (.cells (bdV a b F) 75)) x y 54
  rw [size_alloc] at t2
  have b2 := below2 W (.cells (bdV a b F) 75) (.cells #[.int .i64 x, .int .i64 y] 54)
  have c2 := t2.c0; have c3 := t2.c1
  have HC := Lib.hid (fun w => covers_any a b F x y w ha hb)
  have HV : Hid (hasB a b F x y = (covB a b x y && F (y * a + x).toNat)) := rfl
  cases hc : covB a b x y
  · rw [hc] at HV HC
    go_enter Try.func97, Try.ntmps97
    go_wp2_with (refine wpList_loadB rfl _ rfl _ _ _ _ rfl t1 ?_)
    refine (HC.out _).mono ?_
    rintro e w1 ⟨rfl, hb1⟩
    have b3 := below_on b2 hb1
    go_wp2_with fail
    go_ret
    exact ⟨ret_bool (by rw [HV.out]; rfl), b3⟩
  · rw [hc] at HV HC
    obtain ⟨i, j, rfl, rfl, hi, hj, hij, hK⟩ := covB_nat hc
    have HI := Lib.hid (fun w => indexOf_any a b F i j w ha.2 hb.2 hi hj)
    rw [hK, Int.toNat_natCast] at HV
    generalize j * a + i = k at *
    clear hK
    have hk36 : k < 36 := by omega
    go_enter Try.func97, Try.ntmps97
    go_wp2_with (refine wpList_loadB rfl _ rfl _ _ _ _ rfl t1 ?_)
    refine (HC.out _).mono ?_
    rintro e w1 ⟨rfl, hb1⟩
    have b3 := below_on b2 hb1
    have t3 := t1.step hb1
    have t4 := t2.step hb1
    have c4 := t4.c0; have c5 := t4.c1
    clear t1 t2 b2 hb1 c2 c3
    go_wp2_with (refine wpList_loadB rfl _ rfl _ _ _ _ rfl t3 ?_)
    refine (HI.out _).mono ?_
    rintro e w2 ⟨rfl, hb2⟩
    have b4 := below_on b3 hb2
    have t5 := t3.step hb2
    have c6 := t5.at hk36
    clear t3 b3 hb2 c4 c5 t4
    go_wp2_with fail
    go_ret
    exact ⟨ret_bool (by rw [HV.out]; rfl), b4⟩
end Go.Proofs.Ytimkknljoeiceaa

/-! Board3 -/
namespace Go.Proofs.Ytimkknljoeiceaa
open Go.RowKit

theorem mod_eqs (i a : Nat) (ha : 1 ≤ a) (hi : i ≤ 36) : Int.tmod (i : Int) (a : Int) = ((i % a : Nat) : Int) ∧ wrap64 ((i : Int) / (a : Int)) = ((i / a : Nat) : Int) ∧ i / a ≤ 36 := by
  have h1 : i / a ≤ i := Nat.div_le_self _ _
  refine ⟨?_, ?_, by omega⟩
  · rw [Int.tmod_eq_emod_of_nonneg (by omega)]; exact (Int.natCast_emod _ _).symm
  · rw [← Int.natCast_ediv]
    generalize i / a = y at *
    exact IntWalk.wrap64_in _ (by omega)
set_option maxRecDepth 100000 in
theorem cellAt_any (a b : Nat) (F : Nat → Bool) (i : Nat) (W : World) (ha : 1 ≤ a) (hi : i ≤ 36) :
    Calls Try.prog 80 #[.agg (bdV a b F), .int .i64 i] W fun e w' => e = .returned (.agg #[.int .i64 ((i % a : Nat) : Int), .int .i64 ((i / a : Nat) : Int)]) ∧ Below W.heap.size W w' := by
  have t1 := (brd_new W a b F).alloc (.cells #[.int .i64 0, .int .i64 0] 54)
  have t2 := at_new (W.alloc (.cells (bdV a b F) 75)) 0 0 54
  rw [size_alloc] at t2
  have b2 := below2 W (.cells (bdV a b F) 75) (.cells #[.int .i64 0, .int .i64 0] 54)
  have c0 := t1.c0
  have k0 := cell_regrown c0
  obtain ⟨e1, e2, e3⟩ := mod_eqs i a ha hi
  have ha0 : ((a : Int) == 0) = false := by simp; omega
  generalize i % a = x at *
  generalize i / a = y at *
  go_enter Try.func80, Try.ntmps80
  go_wp2_with fail
  refine region_tail 9 (by kernel_rfl) (by kernel_rfl) ?_
  simp only [List.take_succ_cons, List.take_zero, List.drop_succ_cons, List.drop_zero]
  repeat (first
    | go_big_quiet_step (fail)
    | quiet_step (fail))
  refine wpQuiet_nil ?_
  rintro _ ⟨⟨dq, osq⟩, rfl⟩
  have hb2 := below_regrown ((W.alloc (.cells (bdV a b F) 75)).alloc (.cells #[.int .i64 0, .int .i64 0] 54)) dq osq
  have t3 := t2.step hb2
  have b3 := below_on b2 hb2
  clear t1 t2 b2 hb2 c0 k0 e1 e2 ha0
  simp only at *
  generalize Go.Sort.grow (redrawn ((W.alloc (.cells (bdV a b F) 75)).alloc (.cells #[.int .i64 0, .int .i64 0] 54)) dq) osq = w2 at *
  have v1 := t3.c0; have v2 := t3.c1
  have f1 := at_frozen t3 0; have f2 := at_frozen t3 1
  have v5 := (at_store t3 x 0).c1
  have z3 := at_store1 (at_store t3 x 0) y
  have d1 := z3.c0; have d2 := z3.c1
  have hsw : W.heap.size ≤ W.heap.size + 1 := Nat.le_succ _
  have b4 := (b3.setCell (p := ⟨W.heap.size + 1, 0, none⟩) hsw (.int .i64 x)).setCell (p := ⟨W.heap.size + 1, 1, none⟩) hsw (.int .i64 y)
  clear t3 b3 z3 hsw
  go_wp2_with fail
  exact bodyPost_ret (v := (.agg #[.int .i64 (x : Int), .int .i64 (y : Int)])) (by simp [results, Try.results80, go_sem, d1, d2]) rfl ⟨rfl, b4⟩
/-- The neighbors of a point, as the program lists them: up, left, right, down. -/
def nbP (x y : Int) (t : Nat) : Int × Int :=
  match t with
  | 0 => (x, y - 1)
  | 1 => (x - 1, y)
  | 2 => (x + 1, y)
  | _ => (x, y + 1)
def nbA (x y : Int) : Array Value := #[.int .i64 x, .int .i64 (y - 1), .int .i64 (x - 1), .int .i64 y, .int .i64 (x + 1), .int .i64 y, .int .i64 x, .int .i64 (y + 1)]
set_option maxRecDepth 100000 in
theorem nbs_any (x y : Int) (W : World) (hx : -100 ≤ x ∧ x ≤ 100) (hy : -100 ≤ y ∧ y ≤ 100) :
    Calls Try.prog 96 #[(.agg #[.int .i64 x, .int .i64 y])] W fun e w' => e = .returned (.agg (nbA x y)) ∧ Below W.heap.size W w' := by
  have t1 := (at_new W x y 54)
  have e1 : wrap64 (x - 1) = x - 1 := IntWalk.wrap64_in _ (by omega)
  have e2 : wrap64 (x + 1) = x + 1 := IntWalk.wrap64_in _ (by omega)
  have e3 : wrap64 (y - 1) = y - 1 := IntWalk.wrap64_in _ (by omega)
  have e4 : wrap64 (y + 1) = y + 1 := IntWalk.wrap64_in _ (by omega)
  go_enter Try.func96, Try.ntmps96
  go_wp2_with fail
  exact bodyPost_ret (v := .agg (nbA x y)) (results_cell_row rfl _ _ (W.heap.size + 1) 99 (nbA x y) (0, 0) _ rfl (heap_alloc2_new W _ _) Try.underlying99 rfl (by kernel_rfl)) rfl ⟨rfl, below2 _ _ _⟩
end Go.Proofs.Ytimkknljoeiceaa

/-! Take -/
namespace Go.Proofs.Ytimkknljoeiceaa
open Go.RowKit

def spot (a b : Nat) (x y : Int) : Option Nat := if covB a b x y = true then some (y * a + x).toNat else none
theorem spot_nat {a b i j : Nat} (hi : i < a) (hj : j < b) : spot a b (i : Int) (j : Int) = some (j * a + i) := by
  have hc : covB a b (i : Int) (j : Int) = true := by
    unfold covB
    simp only [Bool.and_eq_true, inB_spec]
    omega
  unfold spot
  rw [if_pos hc, ← Int.natCast_mul, ← Int.natCast_add, Int.toNat_natCast]
theorem spot_out {a b : Nat} {x y : Int} (h : x < 0 ∨ (a : Int) ≤ x ∨ y < 0 ∨ (b : Int) ≤ y) : spot a b x y = none := by
  have hc : ¬ covB a b x y = true := by
    unfold covB
    simp only [Bool.and_eq_true, inB_spec]
    omega
  unfold spot
  rw [if_neg hc]
theorem nbI_at {a b i j : Nat} (hi : i < a) (hj : j < b) (t : Nat) : spot a b (nbP i j t).1 (nbP i j t).2 = nbI a b (j * a + i) t := by
  obtain ⟨e1, e2⟩ := row_col (by omega) hi (rfl : j * a + i = j * a + i)
  have hs : ∀ u v : Nat, ∀ x y : Int, x = u → y = v → u < a → v < b → spot a b x y = some (v * a + u) := fun u v x y h1 h2 h3 h4 => by
    subst h1; subst h2; exact spot_nat h3 h4
  match t with
  | 0 =>
    simp only [nbP, nbI, e2]
    by_cases h : 0 < j
    · rw [if_pos h, hs i (j - 1) _ _ rfl (by omega) hi (by omega)]
      have : j * a = (j - 1) * a + a := by
        rw [show j = (j - 1) + 1 by omega, Nat.add_mul, Nat.one_mul]; simp
      congr 1; omega
    · rw [if_neg h, spot_out (by omega)]
  | 1 =>
    simp only [nbP, nbI, e1]
    by_cases h : 0 < i
    · rw [if_pos h, hs (i - 1) j _ _ (by omega) rfl (by omega) hj]
      congr 1; omega
    · rw [if_neg h, spot_out (by omega)]
  | 2 =>
    simp only [nbP, nbI, e1]
    by_cases h : i + 1 < a
    · rw [if_pos h, hs (i + 1) j _ _ (by omega) rfl h hj]
      congr 1
    · rw [if_neg h, spot_out (by omega)]
  | t + 3 =>
    simp only [nbP, nbI, e2]
    by_cases h : j + 1 < b
    · rw [if_pos h, hs i (j + 1) _ _ rfl (by omega) hi h]
      congr 1
      rw [Nat.add_mul, Nat.one_mul]; omega
    · rw [if_neg h, spot_out (by omega)]
theorem has_spot {a b : Nat} {F : Nat → Bool} {x y : Int} : hasB a b F x y = true ↔ ∃ i j : Nat, x = i ∧ y = j ∧ i < a ∧ j < b ∧ F (j * a + i) = true := by
  unfold hasB
  constructor
  · intro h
    simp only [Bool.and_eq_true] at h
    obtain ⟨i, j, rfl, rfl, hi, hj, _, e⟩ := covB_nat h.1
    rw [e, Int.toNat_natCast] at h
    exact ⟨i, j, rfl, rfl, hi, hj, h.2⟩
  · rintro ⟨i, j, rfl, rfl, hi, hj, hF⟩
    have hc : covB a b (i : Int) (j : Int) = true := by
      unfold covB
      simp only [Bool.and_eq_true, inB_spec]
      omega
    rw [hc, ← Int.natCast_mul, ← Int.natCast_add, Int.toNat_natCast, hF]; rfl
theorem took_no {a b : Nat} {F : Nat → Bool} {x y : Int} (h : hasB a b F x y = false) : Took (Adj a b) F (spot a b x y) 0 := by
  unfold hasB at h
  unfold spot
  cases hc : covB a b x y
  · rw [if_neg (by simp)]; exact Took.none
  · rw [hc, Bool.true_and] at h
    rw [if_pos rfl]; exact Took.off h
theorem upd_rem (F : Nat → Bool) (k : Nat) : updF F k false = rem1 F k := by
  funext j
  by_cases e : j = k
  · subst e; simp [updF, rem1]
  · simp [updF, rem1, e]
theorem took_lt {A : Nat → Nat → Prop} {F : Nat → Bool} {o : Option Nat} {P n : Nat} (hF : ∀ j, n ≤ j → F j = false) (h : Took A F o P) : P < 2 ^ n := by
  apply Nat.lt_pow_two_of_testBit
  intro j hj
  rw [← Bool.not_eq_true, h j]
  rintro ⟨k, _, r⟩
  have := r.mem
  rw [hF j hj] at this; cases this
theorem taking_lt {A : Nat → Nat → Prop} {F : Nat → Bool} {i P n : Nat} {os : List (Option Nat)} (hF : ∀ j, n ≤ j → F j = false) (hi : i < n) (h : Taking A F i os P) : P < 2 ^ n := by
  apply Nat.lt_pow_two_of_testBit
  intro j hj
  rw [← Bool.not_eq_true, h j]
  rintro (rfl | ⟨k, _, r⟩)
  · omega
  · have := r.mem
    simp [rem1, hF j hj] at this
theorem less_cnt {A : Nat → Nat → Prop} {F : Nat → Bool} {i P n : Nat} {os : List (Option Nat)} (hF : F i = true) (hi : i < n) (h : Taking A F i os P) : cntF (less F P) n < cntF F n := by
  refine Nat.lt_of_le_of_lt (cntF_mono (G := rem1 F i) fun j hj => ?_) (cntF_rem hi hF)
  simp only [less, rem1, Bool.and_eq_true, Bool.not_eq_true', decide_eq_false_iff_not] at hj ⊢
  refine ⟨hj.1, fun e => ?_⟩
  have := (h j).2 (.inl e)
  rw [hj.2] at this; cases this
theorem less_off {F : Nat → Bool} {P n : Nat} (hF : ∀ j, n ≤ j → F j = false) : ∀ j, n ≤ j → less F P j = false := fun j hj => by simp [less, hF j hj]
theorem range_snoc {α : Type} (f : Nat → α) (t : Nat) : (List.range (t + 1)).map f = (List.range t).map f ++ [f t] := by rw [List.range_succ, List.map_append]; rfl

theorem gb_trans {a w w' : World} {r : Option Nat} (h : a.grownBy w r) (h2 : w.grownBy w' r) : a.grownBy w' r :=
  ⟨h2.os.trans h.os, h2.tape.trans h.tape, h2.output.trans h.output, Nat.le_trans h.size h2.size, fun k hk hr => (h2.block k (Nat.lt_of_lt_of_le hk h.size) hr).trans (h.block k hk hr)⟩
theorem gb_below {a w w' : World} {r : Option Nat} (h : a.grownBy w r) (h2 : Below w.heap.size w w') : a.grownBy w' r :=
  ⟨h2.os.trans h.os, h2.tape.trans h.tape, h2.output.trans h.output, Nat.le_trans h.size h2.size, fun k hk hr => (h2.block k (Nat.lt_of_lt_of_le hk h.size)).trans (h.block k hk hr)⟩
theorem gb_set {a w : World} {g : Nat} (h : a.grownBy w (some g)) (j : Nat) (u : Value) : a.grownBy (w.setCell ⟨g, j, none⟩ u) (some g) :=
  ⟨h.os, h.tape, h.output, by simpa [World.setCell] using h.size, fun k hk hr => (Below.heap_setCell w ⟨g, j, none⟩ u k (by
    intro e; exact hr (by rw [e]))).trans (h.block k hk hr)⟩
def TookP (a b g : Nat) (F : Nat → Bool) (o : Option Nat) (W : World) (e : Ending) (w' : World) : Prop :=
  ∃ P : Nat, e = .returned (.int .i64 P) ∧ Took (Adj a b) F o P ∧ Brd w' g a b (less F P) ∧ W.grownBy w' (some g)
theorem idx_nb (x y : Int) (t : Nat) (ht : t < 4) (w : World) : (Instr.index 99 (.agg (nbA x y)) (.int .i64 (t : Int))).run Try.prog w = .ok (.agg #[.int .i64 (nbP x y t).1, .int .i64 (nbP x y t).2]) w := by
  match t, ht with
  | 0, _ => simp [go_sem, Instr.index, nbA, nbP]
  | 1, _ => simp [go_sem, Instr.index, nbA, nbP]
  | 2, _ => simp [go_sem, Instr.index, nbA, nbP]
  | 3, _ => simp [go_sem, Instr.index, nbA, nbP]
  | t + 4, h => omega
theorem nbP_bd {x y : Int} (h : 0 ≤ x ∧ x ≤ 6 ∧ 0 ≤ y ∧ y ≤ 6) (t : Nat) : -2 ≤ (nbP x y t).1 ∧ (nbP x y t).1 ≤ 7 ∧ -2 ≤ (nbP x y t).2 ∧ (nbP x y t).2 ≤ 7 := by
  match t with
  | 0 => simp only [nbP]; omega
  | 1 => simp only [nbP]; omega
  | 2 => simp only [nbP]; omega
  | t + 3 => simp only [nbP]; omega
theorem wpQuiet_loadB {ops : Array Oper} {rest : List Oper} {o : Oper} {a : Act} {w : World} {Q : Act → Prop} (hw : Region.wanted o (yielded ops a.tmps) = true) (x : Operand) (ho : o.op = .load 75 x) (g p q : Nat) (F : Nat → Bool) (hx : a.eval x = .pointer (some ⟨g, 0, none⟩)) (hg : Brd w g p q F)
    (h : wpQuiet Try.prog ops (fun w' => ∃ p : Regrown, w' = Go.Sort.grow (redrawn w p.d) p.os) Q rest (a.put o.dst (.agg (bdV p q F)))) : wpQuiet Try.prog ops (fun w' => ∃ p : Regrown, w' = Go.Sort.grow (redrawn w p.d) p.os) Q (o :: rest) a :=
  wpQuiet_step fun K hK => by
    rw [if_pos hw]
    refine ⟨.agg (bdV p q F), fun w' hC => ?_, hK _ h⟩
    obtain ⟨r, rfl⟩ := hC
    have hl := run_loadVar_row (P := Try.prog) _ g 75 75 _ (0, 0) _ (hg.step (below_regrown w r.d r.os)) Try.underlying75 rfl (infoB' _ _ _)
    unfold Oper.quietAt execOp
    simp only [ho, hx, Instr.loadAt, Instr.sureAddr, Sem.run_bind, Sem.run_pure, Result.andThen_ok, hl]
    exact ⟨rfl, rfl⟩
set_option maxRecDepth 100000 in
set_option maxHeartbeats 2000000 in
theorem take_any (a b : Nat) (ha : 1 ≤ a ∧ a ≤ 6) (hb : 1 ≤ b ∧ b ≤ 6) (hab : a * b ≤ 36) : ∀ (N : Nat) (F : Nat → Bool) (x y : Int) (g : Nat) (W : World), cntF F (a * b) ≤ N → (∀ j, a * b ≤ j → F j = false) → Brd W g a b F → (-2 ≤ x ∧ x ≤ 7 ∧ -2 ≤ y ∧ y ≤ 7) →
    Calls Try.prog 79 #[.pointer (some ⟨g, 0, none⟩), (.agg #[.int .i64 x, .int .i64 y])] W (TookP a b g F (spot a b x y) W)
  | N, F, x, y, g, W, hN, hF, hg, hxy => by
    have HH := Lib.hid (fun w => hasCell_any a b F x y w ha hb hab)
    have t1 := hg.alloc (.cells #[.int .i64 x, .int .i64 y] 54)
    have t2 := at_new W x y 54
    have b1 := below1 W (.cells #[.int .i64 x, .int .i64 y] 54)
    have c2 := t2.c0; have c3 := t2.c1
    have k2 := cell_regrown c2; have k3 := cell_regrown c3
    cases hh : hasB a b F x y
    · have HT : Hid (Took (Adj a b) F (spot a b x y) 0) := took_no hh
      rw [hh] at HH
      clear hN hF hh hxy
      generalize spot a b x y = o at *
      go_enter Try.func79, Try.ntmps79
      go_wp2_with fail
      refine wp_region_quiet_below (by kernel_rfl) (by kernel_rfl) ?_
      repeat (first
        | refine wpQuiet_loadB rfl _ rfl _ _ _ _ rfl t1 ?_
        | go_big_quiet_step (first | exact Calls.regrown_of (HH.out _))
        | quiet_step (first | exact Calls.regrown_of (HH.out _)))
      refine wpQuiet_nil ?_
      rintro _ ⟨⟨dq, osq⟩, rfl⟩
      have hb2 := below_on b1 (below_regrown (W.alloc (.cells #[.int .i64 x, .int .i64 y] 54)) dq osq)
      clear t1 t2 b1 c2 c3 k2 k3
      simp only at *
      generalize Go.Sort.grow (redrawn (W.alloc (.cells #[.int .i64 x, .int .i64 y] 54)) dq) osq = w2 at *
      have R : Hid (TookP a b g F o W (.returned (.int .i64 0)) w2) := ⟨0, rfl, HT.out, by rw [less_zero]; exact hg.step hb2, gb_below (World.grownBy.refl W _) hb2⟩
      clear hg hb2 HH HT
      go_wp2_with fail
      go_ret
      exact R.out
    · obtain ⟨i, j, rfl, rfl, hi, hj, hFk⟩ := has_spot.1 hh
      rw [hh] at HH
      clear hh
      have HO := Lib.hid (spot_nat (a := a) (b := b) hi hj)
      have HI := Lib.hid (fun w => indexOf_any a b F i j w ha.2 hb.2 hi hj)
      have hk := in_tab (h := b) hi hj
      have HN := Lib.hid (nbI_at (a := a) (b := b) hi hj)
      rw [HO.out]
      obtain ⟨k, hkk⟩ : ∃ k, k = j * a + i := ⟨_, rfl⟩
      rw [← hkk] at HO HI hk HN hFk ⊢
      clear hkk
      obtain ⟨N, rfl⟩ : ∃ N', N = N' + 1 := ⟨N - 1, by have := cntF_rem hk hFk; omega⟩
      have HIH := Lib.hid (fun F x y g W h1 h2 h3 h4 => take_any a b ha hb hab N F x y g W h1 h2 h3 h4)
      have HNB := Lib.hid (fun w => nbs_any (i : Int) (j : Int) w (by omega) (by omega))
      have HX : ∀ w (t : Nat), t < 4 → (Instr.index 99 (.agg (nbA i j)) (.int .i64 (t : Int))).run Try.prog w = .ok (.agg #[.int .i64 (nbP i j t).1, .int .i64 (nbP i j t).2]) w := fun w t ht => idx_nb i j t ht w
      have HXX := Lib.hid HX
      have HBD := Lib.hid (nbP_bd (x := (i : Int)) (y := (j : Int)) (by omega))
      have hk36 : k < 36 := by omega
      have HF0 := Lib.hid (And.intro hN (And.intro hF hFk))
      have HDN := Lib.hid (fun P (T : Taking (Adj a b) F k ((List.range 4).map (nbI a b k)) P) => Taking.done hFk (nbI_adj (by omega) hk) T)
      clear hN hF HX hFk
      go_enter Try.func79, Try.ntmps79
      go_wp2_with fail
      refine wp_region_quiet_below (by kernel_rfl) (by kernel_rfl) ?_
      repeat (first
        | refine wpQuiet_loadB rfl _ rfl _ _ _ _ rfl t1 ?_
        | go_big_quiet_step (first | exact Calls.regrown_of (HH.out _))
        | quiet_step (first | exact Calls.regrown_of (HH.out _)))
      refine wpQuiet_nil ?_
      rintro _ ⟨⟨dq, osq⟩, rfl⟩
      have hr2 := below_regrown (W.alloc (.cells #[.int .i64 i, .int .i64 j] 54)) dq osq
      have b2 := below_on b1 hr2
      replace t1 := t1.step hr2
      replace t2 := t2.step hr2
      clear b1 c2 c3 k2 k3 hr2 HH
      simp only at *
      generalize Go.Sort.grow (redrawn (W.alloc (.cells #[.int .i64 i, .int .i64 j] 54)) dq) osq = w2 at *
      have c2 := t2.c0; have c3 := t2.c1
      have k2 := cell_regrown c2; have k3 := cell_regrown c3
      go_wp2_with fail
      refine wp_region_quiet_below (by kernel_rfl) (by kernel_rfl) ?_
      repeat (first
        | refine wpQuiet_loadB rfl _ rfl _ _ _ _ rfl t1 ?_
        | go_big_quiet_step (first | exact Calls.regrown_of (HI.out _))
        | quiet_step (first | exact Calls.regrown_of (HI.out _)))
      refine wpQuiet_nil ?_
      rintro _ ⟨⟨dq, osq⟩, rfl⟩
      have hr2 := below_regrown w2 dq osq
      replace b2 := below_on b2 hr2
      replace t1 := t1.step hr2
      replace t2 := t2.step hr2
      clear c2 c3 k2 k3 hr2 HI
      simp only at *
      generalize Go.Sort.grow (redrawn w2 dq) osq = w3 at *
      have c2 := t2.c0; have c3 := t2.c1
      have f1 := t1.frozen (2 + k)
      have v1 := t1.at hk36
      have hgW := hg.lt
      have n2 : W.heap.size ≠ g := by omega
      have s1 := t1.set hk36 false
      rw [upd_rem, ← less_pow] at s1
      have s2 := at_set t2 (b := g) n2 (2 + k) (.bool false)
      have g2 := gb_set (gb_below (World.grownBy.refl W (some g)) b2) (2 + k) (.bool false)
      have e5 : (w3.setCell ⟨g, 2 + k, none⟩ (.bool false)).heap.size = w3.heap.size := by simp
      obtain ⟨p, hp, hp2, hp3⟩ := pow_nat k hk36
      rw [← hp2] at s1
      have HP : Hid (Taking (Adj a b) F k ((List.range 0).map (nbI a b k)) p) := by
        show Taking _ _ _ _ _
        rw [hp2]; exact Taking.start
      clear hp2 c2 c3
      have c2 := s2.c0; have c3 := s2.c1
      clear t1 t2 b2 hg
      go_wp2_with fail
      generalize w3.setCell ⟨g, 2 + k, none⟩ (.bool false) = w4 at *
      refine (HNB.out _).mono ?_
      rintro e w5 ⟨rfl, hb5⟩
      replace s1 := s1.step hb5
      replace g2 := gb_below g2 hb5
      clear hb5 c2 c3 s2 f1 v1 e5 HNB hp
      go_wp2_with fail
      go_loopw [6, 29] (fun s i wr => ∃ t P : Nat, t ≤ 4 ∧ i = .int .i64 t ∧ s = .int .i64 P ∧ Hid (Taking (Adj a b) F k ((List.range t).map (nbI a b k)) P) ∧ Brd wr g a b (less F P) ∧ W.grownBy wr (some g)) (fun _ i _ => 4 - (intOf i).toNat)
      case atStart => exact ⟨0, p, by omega, rfl, rfl, HP, s1, g2⟩
      case round =>
        clear s1 g2 HP
        obtain ⟨wo, rfl⟩ : ∃ wo : World, wo = wr := ⟨_, rfl⟩
        obtain ⟨t, P, ht, rfl, rfl, HT, hg, hgr⟩ := hrel
        have hP := Nat.lt_of_lt_of_le (taking_lt HF0.out.2.1 hk HT.out) (two_le36 hab)
        by_cases hlt : t < 4
        · have hx := HXX.out
          have hx1 : (Instr.index 99 (.agg (nbA i j)) (.int .i64 (t : Int))).run Try.prog wo = .ok (.agg #[.int .i64 (nbP i j t).1, .int .i64 (nbP i j t).2]) wo := hx wo t hlt
          clear hx
          have hbd := HBD.out t
          have hnb := HN.out t
          have hcn : cntF (less F P) (a * b) ≤ N := by
            have := less_cnt HF0.out.2.2 hk HT.out
            have := HF0.out.1
            omega
          have hoff := less_off (P := P) HF0.out.2.1
          have HC := Lib.hid (fun w hw => HIH.out (less F P) (nbP i j t).1 (nbP i j t).2 g w hcn hoff hw hbd)
          rw [hnb] at HC
          clear hnb hcn
          have HFO := Lib.hid hoff
          clear hoff
          generalize (nbP (i : Int) (j : Int) t).1 = u at *
          generalize (nbP (i : Int) (j : Int) t).2 = v at *
          have a1 := at_new wo u v 54
          have c2 := a1.c0; have c3 := a1.c1
          have hg1 := hg.alloc (.cells #[.int .i64 u, .int .i64 v] 54)
          have hgr1 := gb_below hgr (below1 wo (.cells #[.int .i64 u, .int .i64 v] 54))
          have HCC := Lib.hid (HC.out _ hg1)
          clear HC hg hgr hg1 a1 hbd
          go_wp2_with fail
          refine HCC.out.mono ?_
          rintro e w6 ⟨Q, rfl, hQ, hg6, hgr6⟩
          have hQ2 := Nat.lt_of_lt_of_le (took_lt HFO.out hQ) (two_le36 hab)
          have hor := or_nat (a := P) (b := Q) (by omega) (by omega)
          have HT2 : Hid (Taking (Adj a b) F k ((List.range (t + 1)).map (nbI a b k)) (P ||| Q)) := by
            show Taking _ _ _ _ _
            rw [range_snoc]
            exact HT.out.next (fun _ _ h => h.symm) hQ
          rw [less_or] at hg6
          have R := Lib.hid (And.intro hg6 (gb_trans hgr1 hgr6))
          clear hQ hg6 hgr6 hgr1 HT HCC c2 c3 hx1
          generalize P ||| Q = P2 at *
          go_wp2_with fail
          go_roundw
          case rel => exact ⟨t + 1, P2, by omega, by go_num, rfl, HT2, R.out.1, R.out.2⟩
          case measure => simp [intOf]; omega
        · obtain rfl : t = 4 := by omega
          have R : Hid (TookP a b g F (some k) W (.returned (.int .i64 P)) wo) := ⟨P, rfl, HDN.out P HT.out, hg, hgr⟩
          clear HT hg hgr
          go_wp2_with fail
          go_ret
          exact R.out
end Go.Proofs.Ytimkknljoeiceaa

/-! Cells -/
namespace Go.Proofs.Ytimkknljoeiceaa
open Go.RowKit
attribute [local go_sem] quietB uponB

def ptI (a i : Nat) : Int × Int := (((i % a : Nat) : Int), ((i / a : Nat) : Int))
def cellsL (a : Nat) (F : Nat → Bool) (n : Nat) : List (Int × Int) := ((List.range n).filter F).map (ptI a)
theorem cellsL_zero (a : Nat) (F : Nat → Bool) : cellsL a F 0 = [] := rfl
theorem cellsL_yes {a k : Nat} {F : Nat → Bool} (h : F k = true) : cellsL a F (k + 1) = cellsL a F k ++ [(((k % a : Nat) : Int), ((k / a : Nat) : Int))] := by
  unfold cellsL
  rw [List.range_succ, List.filter_append, List.map_append]
  simp [h, ptI]
theorem cellsL_no {a k : Nat} {F : Nat → Bool} (h : F k = false) : cellsL a F (k + 1) = cellsL a F k := by
  unfold cellsL
  rw [List.range_succ, List.filter_append, List.map_append]
  simp [h]
theorem cellsL_len (a : Nat) (F : Nat → Bool) (n : Nat) : (cellsL a F n).length ≤ n := by
  unfold cellsL
  rw [List.length_map]
  exact Nat.le_trans (List.length_filter_le _ _) (by simp)
theorem cellsL_more {a : Nat} {F : Nat → Bool} {k : Nat} (h : ∀ j, k ≤ j → F j = false) : ∀ d, cellsL a F (k + d) = cellsL a F k
  | 0 => rfl
  | d + 1 => by rw [← Nat.add_assoc, cellsL_no (h (k + d) (by omega)), cellsL_more h d]
theorem testBit_off {M k : Nat} (h : M < 2 ^ k) : ∀ j, k ≤ j → M.testBit j = false := fun j hj => Nat.testBit_lt_two_pow (Nat.lt_of_lt_of_le h (Nat.pow_le_pow_right (by omega) hj))
/-- All cells of a mask below 2 to the 36. -/
def cellsC (a M : Nat) : List (Int × Int) := cellsL a M.testBit 36
theorem cellsC_of {a M k : Nat} (h : M < 2 ^ k) (hk : k ≤ 36) : cellsL a M.testBit k = cellsC a M := by
  unfold cellsC
  have := cellsL_more (a := a) (testBit_off h) (36 - k)
  rw [show k + (36 - k) = 36 by omega] at this
  exact this.symm
theorem cellsC_len (a M : Nat) : (cellsC a M).length ≤ 36 := cellsL_len _ _ _
theorem shr_pos {M k : Nat} : 0 < M >>> k ↔ ¬ M < 2 ^ k := by
  rw [Nat.shiftRight_eq_div_pow, Nat.div_pos_iff]
  have := Nat.two_pow_pos k
  omega
theorem bit_at2 (M k : Nat) (hM : M < 2 ^ 36) : ∃ z : Nat, (M : Int) / 2 ^ k = (z : Int) ∧ (bits BinOp.and IntKind.i64 (z : Int) 1 = if M.testBit k then 1 else 0) ∧ (0 < z ↔ ¬ M < 2 ^ k) :=
  ⟨M >>> k, shr_cast M k, bit_eq M k hM, shr_pos⟩
set_option maxRecDepth 100000 in
set_option maxHeartbeats 2000000 in
theorem cellsS_any (a M : Nat) (W : World) (ha : 1 ≤ a) (hM : M < 2 ^ 36) :
    Calls Try.prog 82 #[.int .i64 a, .int .i64 M] W (Lists W (cellsC a M)) := by
  obtain ⟨i0, hi0, hz0, hz1, hz2⟩ := info_parts infoPt
  have own0 := World.ownsRow_lit (base := W.heap.size) (e := 54) (size := 2) W #[] 0 (Nat.le_refl _) (by unfold maxLen; omega) (by rfl)
  have b0 := below1 W (.cells #[] 54)
  have HB := Lib.hid (fun k => bit_at2 M k hM)
  have HE := Lib.hid (fun k (h : M < 2 ^ k) hk => cellsC_of (a := a) h hk)
  have HLT : Hid (M < 2 ^ 36) := hM
  go_enter Try.func82, Try.ntmps82
  go_wp2_with fail
  go_loopw [5, 6] (fun o i wr => ∃ (k : Nat) (L : List (Int × Int)), k ≤ 36 ∧ i = .int .i64 k ∧ L.length ≤ k ∧ Hid (L = cellsL a M.testBit k) ∧ wr.ownsRow W.heap.size 54 2 o L.length (flat L) ∧ Below W.heap.size W wr) (fun _ i _ => 36 - (intOf i).toNat)
  case atStart => exact ⟨0, [], by omega, rfl, Nat.le_refl _, rfl, own0, b0⟩
  case round =>
    clear own0 b0
    obtain ⟨wo, rfl⟩ : ∃ wo : World, wo = wr := ⟨_, rfl⟩
    obtain ⟨k, L, hk, rfl, hLk, HL, own, hb⟩ := hrel
    obtain ⟨z, hz, hbit, hzp⟩ := HB.out k
    by_cases h0 : 0 < z
    · have hk36 : k < 36 := by
        rcases Nat.lt_or_ge k 36 with h | h
        · exact h
        · obtain rfl : k = 36 := by omega
          exact absurd HLT.out (hzp.1 h0)
      clear hzp
      cases ht : M.testBit k
      · rw [ht] at hbit
        simp only [Bool.false_eq_true, if_false] at hbit
        have HL2 : Hid (L = cellsL a M.testBit (k + 1)) := by
          show _ = _
          rw [cellsL_no ht]; exact HL.out
        have R := Lib.hid (And.intro own hb)
        clear ht HL own hb
        go_wp2_with fail
        go_roundw
        case rel => exact ⟨k + 1, L, by omega, by go_num, by omega, HL2, R.out.1, R.out.2⟩
        case measure => simp [intOf]; omega
      · rw [ht] at hbit
        simp only [if_true] at hbit
        have HL2 : Hid (L ++ [(((k % a : Nat) : Int), ((k / a : Nat) : Int))] = cellsL a M.testBit (k + 1)) := by
          show _ = _
          rw [cellsL_yes ht, HL.out]
        obtain ⟨e1, e2, e3⟩ := mod_eqs k a ha (by omega)
        have ha0 : ((a : Int) == 0) = false := by simp; omega
        have ha2 : ¬ a = 0 := by omega
        have hs6 := hb.size
        clear ht HL
        generalize k % a = x at *
        generalize k / a = y at *
        go_wp2_with fail
        refine region_move1 8 _ _ (by rfl) (by rfl) (by rfl) (fun _ _ d _ _ h => by cases d <;> exact h) (by kernel_rfl) (by kernel_rfl) ?_
        simp only [List.take_succ_cons, List.take_zero, List.drop_succ_cons, List.drop_zero]
        repeat (
          refine wpQuietB_step (fun K hK => ?_)
          go_simp
          first
            | (refine hK _ ?_; clear hK K)
            | (apply Exists.intro
               refine ⟨fun _ => ?_, hK _ ?_⟩
               ((fail))
               clear hK K))
        refine wpQuietB_nil ?_
        intro w6 hr
        replace hb := below_on hb hr
        replace own := own_below own hr
        replace hs6 := hb.size
        clear hr e1 ha0 ha2 hbit
        go_wp2_with (at_builtin; refine wpList_append_own _ rfl _ _ 27 rfl W.heap.size 54 i0 (.agg #[.int .i64 0, .int .i64 0]) 2 16 Try.underlying27 hi0 hz0 hz1 hz2 rfl (by decide) _ _ _ rfl (own.alloc _) ⟨w6.heap.size, 0, none⟩ 1 1 [.int .i64 (x : Int), .int .i64 (y : Int)] rfl rfl ?d1 ?d2 ?d3 ?d4 ?d5 ?_)
        case d1 => (simp only [e2]; exact World.news_of_block (cs := #[.int .i64 (x : Int), .int .i64 (y : Int)]) (t := 54) (fr := (0, 0)) (heap_alloc_new w6 _))
        case d2 => simp [Value.oneCell']
        case d3 => unfold maxLen; omega
        case d4 => omega
        case d5 => simp; omega
        intro v' w7 own7 hgrow _
        have hrw := fun k hk => (own.lt k hk).1
        have R : Hid (w7.ownsRow W.heap.size 54 2 v' (L ++ [((x : Int), (y : Int))]).length (flat (L ++ [((x : Int), (y : Int))])) ∧ Below W.heap.size W w7) :=
          ⟨by rw [flat_append, List.length_append]; exact own7, (hb.alloc hs6 _).grown hgrow (by simp; omega) hrw⟩
        clear own own7 hgrow hb hrw
        go_wp2_with fail
        go_roundw
        case rel => exact ⟨k + 1, L ++ [((x : Int), (y : Int))], by omega, by go_num, by simp; omega, HL2, R.out.1, R.out.2⟩
        case measure => simp [intOf]; omega
    · have hM2 : M < 2 ^ k := by
        rcases Nat.lt_or_ge M (2 ^ k) with h | h
        · exact h
        · exact absurd (hzp.2 (by omega)) h0
      have HQ : Hid (L = cellsC a M) := by
        show _ = _
        rw [HL.out]; exact HE.out k hM2 hk
      obtain rfl : z = 0 := by omega
      have R := Lib.hid (And.intro own hb)
      clear hzp HL hM2 own hb hbit
      go_wp2_with fail
      go_ret
      rw [← HQ.out]
      exact ⟨_, rfl, R.out.1, R.out.2⟩
set_option maxRecDepth 100000 in
set_option maxHeartbeats 2000000 in
theorem cellsB_any (a b M : Nat) (W : World) (ha : 1 ≤ a) (hab : a * b ≤ 36) (hM : M < 2 ^ (a * b)) :
    Calls Try.prog 86 #[.agg (bdV a b M.testBit)] W (Lists W (cellsC a M)) := by
  obtain ⟨i0, hi0, hz0, hz1, hz2⟩ := info_parts infoPt
  obtain ⟨n, hn⟩ : ∃ n, n = a * b := ⟨_, rfl⟩
  have hN : ((a : Int) * (b : Int) = (n : Int)) := by rw [hn, Int.natCast_mul]
  rw [← hn] at hab hM
  have HE := Lib.hid (cellsC_of (a := a) hM hab)
  have t1 := brd_new W a b M.testBit
  have c0 := t1.c0; have c1 := t1.c1
  have b1 := below1 W (.cells (bdV a b M.testBit) 75)
  have hsz : (W.alloc (.cells (bdV a b M.testBit) 75)).heap.size = W.heap.size + 1 := by simp
  clear hM hn
  go_enter Try.func86, Try.ntmps86
  go_wp2_with fail
  generalize W.alloc (.cells (bdV a b M.testBit) 75) = w1 at *
  have hsz1 : W.heap.size + 1 ≤ w1.heap.size := by omega
  clear hsz c0 c1
  go_loopw [3, 4, 10] (fun o _ i wr => ∃ (k : Nat) (L : List (Int × Int)), k ≤ n ∧ i = .int .i64 k ∧ L.length ≤ k ∧ Hid (L = cellsL a M.testBit k) ∧ wr.ownsRow (W.heap.size + 1) 54 2 o L.length (flat L) ∧ Brd wr W.heap.size a b M.testBit ∧ W.heap.size + 1 ≤ wr.heap.size ∧ Below W.heap.size W wr) (fun _ _ i _ => n - (intOf i).toNat)
  case atStart => exact ⟨0, [], by omega, rfl, Nat.le_refl _, rfl, World.ownsRow_nil _ _ _ _, t1, hsz1, b1⟩
  case round =>
    clear t1 b1 hsz1
    obtain ⟨wo, rfl⟩ : ∃ wo : World, wo = wr := ⟨_, rfl⟩
    obtain ⟨k, L, hk, rfl, hLk, HL, own, hg, hsz, hb⟩ := hrel
    by_cases hlt : k < n
    · have hk36 : k < 36 := by omega
      have c1 := hg.at hk36
      cases ht : M.testBit k
      · rw [ht] at c1
        have HL2 : Hid (L = cellsL a M.testBit (k + 1)) := by
          show _ = _
          rw [cellsL_no ht]; exact HL.out
        have R := Lib.hid (And.intro own (And.intro hg hb))
        clear ht HL own hb hg
        go_wp2_with fail
        go_roundw
        case rel => exact ⟨k + 1, L, by omega, by go_num, by omega, HL2, R.out.1, R.out.2.1, hsz, R.out.2.2⟩
        case measure => simp [intOf]; omega
      · rw [ht] at c1
        have HL2 : Hid (L ++ [(((k % a : Nat) : Int), ((k / a : Nat) : Int))] = cellsL a M.testBit (k + 1)) := by
          show _ = _
          rw [cellsL_yes ht, HL.out]
        have HC := Lib.hid (fun w => cellAt_any a b M.testBit k w ha (by omega))
        clear ht HL
        generalize k % a = x at *
        generalize k / a = y at *
        go_wp2_with (refine wpList_loadB rfl _ rfl _ _ _ _ rfl hg ?_)
        refine (HC.out _).mono ?_
        rintro e w6 ⟨rfl, hb6⟩
        replace hb := below_on hb hb6
        replace own := own_below own hb6
        replace hg := hg.step hb6
        replace hsz : W.heap.size + 1 ≤ w6.heap.size := Nat.le_trans hsz hb6.size
        have hs6 := hb.size
        clear hb6 HC c1
        go_wp2_with (at_builtin; refine wpList_append_own _ rfl _ _ 27 rfl (W.heap.size + 1) 54 i0 (.agg #[.int .i64 0, .int .i64 0]) 2 16 Try.underlying27 hi0 hz0 hz1 hz2 rfl (by decide) _ _ _ rfl (own.alloc _) ⟨w6.heap.size, 0, none⟩ 1 1 [.int .i64 (x : Int), .int .i64 (y : Int)] rfl rfl ?d1 ?d2 ?d3 ?d4 ?d5 ?_)
        case d1 => exact World.news_of_block (cs := #[.int .i64 (x : Int), .int .i64 (y : Int)]) (t := 54) (fr := (0, 0)) (heap_alloc_new w6 _)
        case d2 => simp [Value.oneCell']
        case d3 => unfold maxLen; omega
        case d4 => omega
        case d5 => simp; omega
        intro v' w7 own7 hgrow _
        have hrw := fun k hk => (own.lt k hk).1
        have R : Hid (w7.ownsRow (W.heap.size + 1) 54 2 v' (L ++ [((x : Int), (y : Int))]).length (flat (L ++ [((x : Int), (y : Int))])) ∧ Brd w7 W.heap.size a b M.testBit ∧ W.heap.size + 1 ≤ w7.heap.size ∧ Below W.heap.size W w7) :=
          ⟨by rw [flat_append, List.length_append]; exact own7, (hgrow.block _ (hg.alloc _).lt (fun e => by have := hrw _ e.symm; omega)).trans (hg.alloc _), Nat.le_trans hsz (by have := hgrow.size; simp at this; omega), (hb.alloc hs6 _).grown hgrow (by simp; omega) (fun k hk => by have := hrw k hk; omega)⟩
        clear own own7 hgrow hb hrw hg
        go_wp2_with fail
        go_roundw
        case rel => exact ⟨k + 1, L ++ [((x : Int), (y : Int))], by omega, by go_num, by simp; omega, HL2, R.out.1, R.out.2.1, R.out.2.2.1, R.out.2.2.2⟩
        case measure => simp [intOf]; omega
    · obtain rfl : k = n := by omega
      have HQ : Hid (L = cellsC a M) := by
        show _ = _
        rw [HL.out]; exact HE.out
      have R := Lib.hid (And.intro (own_base own (show W.heap.size ≤ W.heap.size + 1 by omega)) hb)
      clear HL own hb hg
      go_wp2_with fail
      go_ret
      rw [← HQ.out]
      exact ⟨_, rfl, R.out.1, R.out.2⟩
end Go.Proofs.Ytimkknljoeiceaa

/-! Rim8 -/
namespace Go.Proofs.Ytimkknljoeiceaa
open Go.RowKit

def outN (a b M : Nat) (x y : Int) : Nat := if hasB a b M.testBit x y = true then 0 else 1
/-- The sides of a cell that no other has, in the program's order, and in the model's. -/
def rimP8 (a b M : Nat) (x y : Int) : Nat → Nat
  | 0 => 0
  | t + 1 => rimP8 a b M x y t + outN a b M (nbP x y t).1 (nbP x y t).2
def dirS (t : Nat) : Int × Int :=
  match t with
  | 0 => (1, 0)
  | 1 => (-1, 0)
  | 2 => (0, 1)
  | _ => (0, -1)
def rimS8 (a b M : Nat) (x y : Int) : Nat → Nat
  | 0 => 0
  | t + 1 => rimS8 a b M x y t + outN a b M (x + (dirS t).1) (y + (dirS t).2)
theorem rim8_eq (a b M : Nat) (x y : Int) : rimS8 a b M x y 4 = rimP8 a b M x y 4 := by
  simp only [rimS8, rimP8, nbP, dirS, Int.add_zero, ← Int.sub_eq_add_neg]
  omega
theorem outN_le (a b M : Nat) (x y : Int) : outN a b M x y ≤ 1 := by unfold outN; split <;> omega
theorem rimP8_le (a b M : Nat) (x y : Int) : ∀ t, rimP8 a b M x y t ≤ t
  | 0 => Nat.le_refl _
  | t + 1 => by have := rimP8_le a b M x y t; have := outN_le a b M (nbP x y t).1 (nbP x y t).2; simp only [rimP8]; omega
theorem rimS8_le (a b M : Nat) (x y : Int) : ∀ t, rimS8 a b M x y t ≤ t
  | 0 => Nat.le_refl _
  | t + 1 => by have := rimS8_le a b M x y t; have := outN_le a b M (x + (dirS t).1) (y + (dirS t).2); simp only [rimS8]; omega
def rimT8 (a b M : Nat) (L : List (Int × Int)) : Nat → Nat
  | 0 => 0
  | k + 1 => rimT8 a b M L k + rimP8 a b M (gt L k).1 (gt L k).2 4
theorem rimT8_le (a b M : Nat) (L : List (Int × Int)) : ∀ k, rimT8 a b M L k ≤ 4 * k
  | 0 => Nat.le_refl _
  | k + 1 => by have := rimT8_le a b M L k; have := rimP8_le a b M (gt L k).1 (gt L k).2 4; simp only [rimT8]; omega
def rimV8 (w h M : Int) : Int := bif shapeB w h M then (rimT8 w.toNat h.toNat M.toNat (cellsC w.toNat M.toNat) (cellsC w.toNat M.toNat).length : Int) else -1
theorem rimV8_no {w h M : Int} (hB : shapeB w h M = false) : rimV8 w h M = -1 := by unfold rimV8; rw [hB]; rfl
theorem rimV8_yes {a b m : Nat} (hB : shapeB a b m = true) : rimV8 a b m = (rimT8 a b m (cellsC a m) (cellsC a m).length : Nat) := by unfold rimV8; rw [hB]; rfl
/-- The cells lie in the table. -/
theorem cellsL_bd {a b n : Nat} {F : Nat → Bool} (ha : 0 < a) (hn : n ≤ a * b) : ∀ p ∈ cellsL a F n, 0 ≤ p.1 ∧ p.1 < a ∧ 0 ≤ p.2 ∧ p.2 < b := by
  intro p hp
  unfold cellsL at hp
  obtain ⟨i, hi, rfl⟩ := List.mem_map.1 hp
  have hi2 : i < n := by simpa using (List.mem_filter.1 hi).1
  have h1 := Nat.mod_lt i ha
  have h2 : i / a < b := by rw [Nat.div_lt_iff_lt_mul ha, Nat.mul_comm]; omega
  simp only [ptI]
  generalize i % a = x at *
  generalize i / a = y at *
  omega
theorem cellsC_bd {a b m : Nat} (ha : 0 < a) (hab : a * b ≤ 36) (hm : m < 2 ^ (a * b)) {k : Nat} (hk : k < (cellsC a m).length) :
    0 ≤ (gt (cellsC a m) k).1 ∧ (gt (cellsC a m) k).1 < a ∧ 0 ≤ (gt (cellsC a m) k).2 ∧ (gt (cellsC a m) k).2 < b := by
  refine cellsL_bd (F := m.testBit) (n := a * b) ha (Nat.le_refl _) _ ?_
  rw [cellsC_of hm hab, gt_at hk]
  exact List.getElem_mem hk
set_option maxRecDepth 100000 in
set_option maxHeartbeats 2000000 in
theorem impl_rim (w h M : Int) (W : World) : Calls Try.prog 46 #[.int .i64 w, .int .i64 h, .int .i64 M] W fun e w' => e = .returned (.int .i64 (rimV8 w h M)) ∧ Below W.heap.size W w' := by
  have HS := Lib.hid (fun W => impl_shape w h M W)
  cases hB : shapeB w h M
  · rw [hB] at HS
    have HV := Lib.hid (rimV8_no hB)
    rw [HV.out]
    clear hB
    go_enter Try.func46, Try.ntmps46
    go_wp2_with fail
    refine (HS.out _).mono ?_
    rintro e w1 ⟨rfl, rfl⟩
    go_wp2_with fail
    go_ret
    exact ⟨rfl, Below.refl _ _⟩
  · rw [hB] at HS
    obtain ⟨a, b, m, rfl, rfl, rfl, ha1, ha2, hb1, hb2, hm, hab⟩ := mask_nat hB
    have HV := Lib.hid (rimV8_yes hB)
    rw [HV.out]
    have HBO := Lib.hid (fun W => boardOf_any a b m W hm hab)
    have HCE := Lib.hid (fun W => cellsB_any a b m W ha1 hab hm)
    unfold Lists at HCE
    have HHA := Lib.hid (fun x y W => hasCell_any a b m.testBit x y W ⟨ha1, ha2⟩ ⟨hb1, hb2⟩ hab)
    have HBD := Lib.hid (fun k hk => cellsC_bd (a := a) (b := b) (m := m) ha1 hab hm (k := k) hk)
    have hlen := cellsC_len a m
    have HTL := Lib.hid (rimT8_le a b m (cellsC a m))
    have HPL := Lib.hid (rimP8_le a b m)
    have HOU : Hid (∀ x y, outN a b m x y = if hasB a b m.testBit x y = true then 0 else 1) := fun _ _ => rfl
    generalize cellsC a m = L at *
    clear hB hm hab
    go_enter Try.func46, Try.ntmps46
    go_wp2_with fail
    refine (HS.out _).mono ?_
    rintro e w1 ⟨rfl, rfl⟩
    go_wp2_with fail
    refine (HBO.out _).mono ?_
    rintro e w2 ⟨rfl, hb2'⟩
    have hw2 := hb2'.size
    have t2 := brd_new w2 0 0 fun _ => false
    go_wp2_with (first
      | (refine wpList_allocB rfl rfl ?_; try simp only [size_alloc])
      | refine wpList_storeB rfl _ _ rfl w2.heap.size a b _ _ m.testBit _ rfl rfl t2 ?_
      | refine wpList_loadB rfl _ rfl w2.heap.size a b m.testBit rfl (brd_setRow t2 a b m.testBit) ?_)
    have t1 := brd_setRow t2 a b m.testBit
    have bb := below_rowB (hb2'.alloc hw2 (.cells (bdV 0 0 fun _ => false) 75)) hw2 (bdV a b m.testBit)
    generalize (w2.alloc (.cells (bdV 0 0 fun _ => false) 75)).setRow w2.heap.size (bdV a b m.testBit) = w3 at *
    clear t2 hb2' HBO HS
    refine (HCE.out _).mono ?_
    rintro e w4 ⟨v4, rfl, own4, hb4⟩
    replace bb := below_on bb hb4
    replace t1 := t1.step hb4
    obtain ⟨_, A4, c4, rfl, p4⟩ := own_pts own4
    have HA := Lib.hid p4
    clear hb4 own4 p4 HCE hw2
    go_wp2_with fail
    go_loopw [8, 25] (fun s i wr => ∃ k c : Nat, k ≤ L.length ∧ i = .int .i64 k ∧ s = .int .i64 c ∧ Hid (c = rimT8 a b m L k) ∧ Brd wr w2.heap.size a b m.testBit ∧ Below w4.heap.size w4 wr) (fun _ i _ => L.length - (intOf i).toNat)
    case atStart => exact ⟨0, 0, Nat.zero_le _, rfl, rfl, rfl, t1, Below.refl _ _⟩
    case round =>
      clear t1
      obtain ⟨wo, rfl⟩ : ∃ wo : World, wo = wr := ⟨_, rfl⟩
      obtain ⟨k, c, hk, rfl, rfl, HC, hg, hb⟩ := hrel
      by_cases hlt : k < L.length
      · obtain ⟨g4, rfl, -⟩ := HA.out k hlt
        obtain ⟨d1, d2⟩ := gt_cells (ptsA_on HA.out hb) hlt
        have hbd := HBD.out k hlt
        have hc : c ≤ 4 * 36 := by
          rw [HC.out]
          have := HTL.out k
          omega
        have HC2 : Hid (c + rimP8 a b m (gt L k).1 (gt L k).2 4 = rimT8 a b m L (k + 1)) := by
          show _ = _
          rw [HC.out]; rfl
        clear HC
        generalize (gt L k).1 = x at *
        generalize (gt L k).2 = y at *
        have a1 := at_new wo x y 54
        have v1 := a1.c0; have v2 := a1.c1
        have hg1 := hg.alloc (.cells #[.int .i64 x, .int .i64 y] 54)
        have hb1 := hb.alloc hb.size (.cells #[.int .i64 x, .int .i64 y] 54)
        have HNB := Lib.hid (fun w => nbs_any x y w (by omega) (by omega))
        have HXX : Hid (∀ w (t : Nat), t < 4 → (Instr.index 99 (.agg (nbA x y)) (.int .i64 (t : Int))).run Try.prog w = .ok (.agg #[.int .i64 (nbP x y t).1, .int .i64 (nbP x y t).2]) w) := fun w t ht => idx_nb x y t ht w
        clear hg hb a1 hbd
        go_wp2_with fail
        refine (HNB.out _).mono ?_
        rintro e w5 ⟨rfl, hb5⟩
        replace hg1 := hg1.step hb5
        replace hb1 := below_on hb1 hb5
        have H0 : Hid (c = c + rimP8 a b m x y 0) := rfl
        clear hb5 v1 v2 HNB d1 d2
        go_wp2_with fail
        go_loopw [8, 31] (fun s i wr => ∃ t d : Nat, t ≤ 4 ∧ i = .int .i64 t ∧ s = .int .i64 d ∧ Hid (d = c + rimP8 a b m x y t) ∧ Brd wr w2.heap.size a b m.testBit ∧ Below w4.heap.size w4 wr) (fun _ i _ => 4 - (intOf i).toNat)
        case atStart => exact ⟨0, c, by omega, rfl, rfl, H0, hg1, hb1⟩
        case round =>
          clear hg1 hb1 H0
          obtain ⟨wi, rfl⟩ : ∃ wi : World, wi = wr := ⟨_, rfl⟩
          obtain ⟨t, d, ht, rfl, rfl, HD, hg, hb⟩ := hrel
          by_cases hlt4 : t < 4
          · have hx1 := HXX.out wi t hlt4
            have hd : d ≤ 4 * 36 + 4 := by
              rw [HD.out]
              have := HPL.out x y t
              omega
            have HD2 : Hid (d + outN a b m (nbP x y t).1 (nbP x y t).2 = c + rimP8 a b m x y (t + 1)) := by
              show _ = _
              rw [HD.out]
              simp only [rimP8]; omega
            clear HD
            generalize (nbP x y t).1 = u at *
            generalize (nbP x y t).2 = v at *
            have a1 := at_new wi u v 54
            have v1 := a1.c0; have v2 := a1.c1
            have hg1 := hg.alloc (.cells #[.int .i64 u, .int .i64 v] 54)
            have hb1 := hb.alloc hb.size (.cells #[.int .i64 u, .int .i64 v] 54)
            have HH := Lib.hid (fun W => HHA.out u v W)
            have hou := HOU.out u v
            clear hg hb a1
            cases hh : hasB a b m.testBit u v
            all_goals
              rw [hh] at hou HH
              simp only [Bool.false_eq_true, if_true, if_false] at hou
              rw [hou] at HD2
              clear hh hou
              go_wp2_with (refine wpList_loadB rfl _ rfl _ _ _ _ rfl hg1 ?_)
              refine (HH.out _).mono ?_
              rintro e w6 ⟨rfl, hb6⟩
              have R := Lib.hid (And.intro (hg1.step hb6) (below_on hb1 hb6))
              clear hg1 hb1 hb6 v1 v2 hx1 HH
              go_wp2_with fail
              go_roundw
            case rel => exact ⟨t + 1, _, by omega, by go_num, by go_num, HD2, R.out.1, R.out.2⟩
            case measure => simp [intOf]; omega
            case rel => exact ⟨t + 1, _, by omega, by go_num, by go_num, HD2, R.out.1, R.out.2⟩
            case measure => simp [intOf]; omega
          · obtain rfl : t = 4 := by omega
            rw [← HD.out] at HC2
            have R := Lib.hid (And.intro hg hb)
            clear hg hb HD
            go_wp2_with fail
            go_roundw
            case rel => exact ⟨k + 1, d, by omega, by go_num, rfl, HC2, R.out.1, R.out.2⟩
            case measure => simp [intOf]; omega
      · obtain rfl : k = L.length := by omega
        have hE := HC.out
        have R := Lib.hid (below_on bb hb)
        clear HC hg hb bb
        have HE := Lib.hid hE
        clear hE
        go_wp2_with fail
        go_ret
        rw [← HE.out]
        exact ⟨rfl, R.out⟩
end Go.Proofs.Ytimkknljoeiceaa

/-! Put8 -/
namespace Go.Proofs.Ytimkknljoeiceaa
open Go.RowKit

/-- Is place j one of the cells? -/
def idxIn (a : Nat) (C : List (Int × Int)) (j : Nat) : Bool := C.any fun c => decide (c.2 * (a : Int) + c.1 = (j : Int))
def fitB (a b : Nat) (C : List (Int × Int)) : Bool := C.all fun c => covB a b c.1 c.2
def putM (a b : Nat) (L : List (Int × Int)) : Nat := if fitB a b (cornL L) = true then ofF (idxIn a (cornL L)) (a * b) else 0
def putB (a b : Nat) (L : List (Int × Int)) : Bool := fitB a b (cornL L)
theorem idxIn_nil (a j : Nat) : idxIn a [] j = false := rfl
theorem take_gt {L : List (Int × Int)} {k : Nat} (h : k < L.length) : L.take (k + 1) = L.take k ++ [gt L k] := by
  rw [List.take_succ_eq_append_getElem h, gt_at h]
theorem idxIn_step {a b : Nat} {C : List (Int × Int)} {k i j : Nat} (h : k < C.length) (hi : (gt C k).1 = i) (hj : (gt C k).2 = j) : updF (idxIn a (C.take k)) (j * a + i) true = idxIn a (C.take (k + 1)) := by
  funext q
  unfold idxIn
  rw [take_gt h, List.any_append]
  simp only [List.any_cons, List.any_nil, Bool.or_false, hi, hj]
  have e : decide ((j : Int) * (a : Int) + (i : Int) = (q : Int)) = decide (q = j * a + i) := by
    rw [decide_eq_decide, ← Int.natCast_mul]; omega
  rw [e]
  by_cases hq : q = j * a + i
  · simp [updF, hq]
  · simp [updF, hq]
theorem fit_at {a b : Nat} {C : List (Int × Int)} (h : fitB a b C = true) {k : Nat} (hk : k < C.length) : covB a b (gt C k).1 (gt C k).2 = true := by
  unfold fitB at h
  rw [gt_at hk]
  exact List.all_eq_true.1 h _ (List.getElem_mem hk)
theorem fit_not {a b : Nat} {C : List (Int × Int)} {k : Nat} (hk : k < C.length) (h : covB a b (gt C k).1 (gt C k).2 = false) : fitB a b C = false := by
  cases hf : fitB a b C
  · rfl
  · rw [fit_at hf hk] at h; cases h
theorem fit_all {a b : Nat} {C : List (Int × Int)} (h : ∀ k, k < C.length → covB a b (gt C k).1 (gt C k).2 = true) : fitB a b C = true := by
  unfold fitB
  rw [List.all_eq_true]
  intro c hc
  obtain ⟨k, hk, rfl⟩ := List.getElem_of_mem hc
  have := h k hk
  rw [gt_at hk] at this
  exact this
theorem putM_yes {a b : Nat} {L : List (Int × Int)} (h : fitB a b (cornL L) = true) : putM a b L = ofF (idxIn a (cornL L)) (a * b) := by unfold putM; rw [if_pos h]
theorem putM_no {a b : Nat} {L : List (Int × Int)} (h : fitB a b (cornL L) = false) : putM a b L = 0 := by unfold putM; rw [if_neg (by simp [h])]
theorem ofF_none (n : Nat) : ofF (fun _ => false) n = 0 := by
  apply Nat.eq_of_testBit_eq
  intro j
  rw [testBit_ofF]; simp
theorem put_nil (a b : Nat) : putM a b [] = 0 ∧ putB a b [] = true := by
  have h : cornL [] = [] := rfl
  refine ⟨?_, rfl⟩
  rw [putM_yes (by rfl), h]
  have : idxIn a [] = fun _ => false := by funext j; rfl
  rw [this, ofF_none]
/-- A bit that is not there is added. -/
theorem ofF_add {F : Nat → Bool} {i n : Nat} (hi : i < n) (h : F i = false) : ofF (updF F i true) n = ofF F n + 2 ^ i := by
  have hb : (ofF F n).testBit i = false := by rw [testBit_ofF, h]; simp
  rw [add_two_pow hb]
  apply Nat.eq_of_testBit_eq
  intro j
  rw [Nat.testBit_or, testBit_ofF, testBit_ofF, Nat.testBit_two_pow]
  by_cases e : j = i
  · subst e; simp [updF, hi]
  · have : ¬ i = j := fun h => e h.symm
    simp [updF, e, this]
theorem idx_inj {a b : Nat} {c d : Int × Int} (hc : covB a b c.1 c.2 = true) (hd : covB a b d.1 d.2 = true) (h : c.2 * (a : Int) + c.1 = d.2 * (a : Int) + d.1) : c = d := by
  obtain ⟨i, j, e1, e2, hi, hj, _, e3⟩ := covB_nat hc
  obtain ⟨i', j', e1', e2', hi', hj', _, e3'⟩ := covB_nat hd
  rw [e3, e3'] at h
  have h' : j * a + i = j' * a + i' := by omega
  obtain ⟨q1, q2⟩ := row_col (show 0 < a by omega) hi (rfl : j * a + i = j * a + i)
  obtain ⟨q1', q2'⟩ := row_col (show 0 < a by omega) hi' h'
  exact Prod.ext (by rw [e1, e1']; omega) (by rw [e2, e2']; omega)
/-- All different. -/
def Diff (C : List (Int × Int)) : Prop := ∀ i j, i < j → j < C.length → gt C i ≠ gt C j
theorem idxIn_new {a b : Nat} {C : List (Int × Int)} {k i j : Nat} (hD : Diff C) (hk : k < C.length) (hf : ∀ q, q ≤ k → covB a b (gt C q).1 (gt C q).2 = true) (hi : (gt C k).1 = i) (hj : (gt C k).2 = j) : idxIn a (C.take k) (j * a + i) = false := by
  cases h : idxIn a (C.take k) (j * a + i)
  · rfl
  · exfalso
    unfold idxIn at h
    obtain ⟨c, hc, he⟩ := List.any_eq_true.1 h
    obtain ⟨q, hq, e⟩ := List.getElem_of_mem hc
    rw [List.length_take] at hq
    have hqk : q < k := by omega
    have e2 : gt C q = c := by rw [gt_at (by omega)]; rw [← e]; simp
    have he' : c.2 * (a : Int) + c.1 = ((j * a + i : Nat) : Int) := by simpa using he
    refine hD q k hqk hk (idx_inj (hf q (by omega)) (hf k (Nat.le_refl _)) ?_)
    rw [e2, hi, hj, he', Int.natCast_add, Int.natCast_mul]
theorem diff_of_pairwise {C : List (Int × Int)} (h : C.Pairwise (· ≠ ·)) : Diff C := fun i j hij hj => by
  rw [gt_at (by omega), gt_at hj]
  exact List.pairwise_iff_getElem.1 h i j (by omega) hj hij
theorem mot_inj {m : Nat} {p q : Int × Int} (h : mot m p = mot m q) : p = q := by
  obtain ⟨x, y⟩ := p
  obtain ⟨u, v⟩ := q
  unfold mot at h
  split at h <;> simp only [Prod.mk.injEq] at h ⊢ <;> omega
theorem dn_inj {b p q : Int × Int} (h : dn b p = dn b q) : p = q := by
  obtain ⟨x, y⟩ := p
  obtain ⟨u, v⟩ := q
  unfold dn at h
  simp only [Prod.mk.injEq] at h ⊢
  omega
theorem ptI_inj {a i j : Nat} (h : ptI a i = ptI a j) : i = j := by
  unfold ptI at h
  simp only [Prod.mk.injEq] at h
  have h1 : i % a = j % a := by omega
  have h2 : i / a = j / a := by
    have := h.2
    generalize i / a = x at *
    generalize j / a = y at *
    omega
  rw [← Nat.div_add_mod i a, ← Nat.div_add_mod j a, h1, h2]
theorem cells_pw (a M : Nat) : (cellsC a M).Pairwise (· ≠ ·) := by
  unfold cellsC cellsL
  exact List.Pairwise.map _ (fun i j h e => h (ptI_inj e)) (List.Pairwise.filter _ List.nodup_range)
theorem moved_pw (a M m : Nat) : ((cellsC a M).map (mot m)).Pairwise (· ≠ ·) := List.Pairwise.map _ (fun p q h e => h (mot_inj e)) (cells_pw a M)
theorem corn_pw {L : List (Int × Int)} (h : L.Pairwise (· ≠ ·)) : (cornL L).Pairwise (· ≠ ·) := List.Pairwise.map _ (fun p q h e => h (dn_inj e)) h

/-! ### the least numbers, begun at 6 -/
def lowS (L : List (Int × Int)) : Nat → Int × Int
  | 0 => (6, 6)
  | k + 1 => (minI (lowS L k).1 (gt L k).1, minI (lowS L k).2 (gt L k).2)
theorem lowS_box {L : List (Int × Int)} (h : ∀ k, k < L.length → (gt L k).1 ≤ 6 ∧ (gt L k).2 ≤ 6) (h0 : 0 < L.length) : ∀ k, k ≤ L.length → (boxTill L k).1 = (min (gt L 0).1 (lowS L k).1, min (gt L 0).2 (lowS L k).2)
  | 0, _ => by
    have := h 0 h0
    simp only [boxTill, lowS]
    exact Prod.ext (by simp only; omega) (by simp only; omega)
  | k + 1, hk => by
    have ih := lowS_box h h0 k (by omega)
    simp only [boxTill, boxStep, lowS, ih, minI_eq]
    exact Prod.ext (by simp only; omega) (by simp only; omega)
theorem lowS_le {L : List (Int × Int)} : ∀ k, ∀ i, i < k → (lowS L k).1 ≤ (gt L i).1 ∧ (lowS L k).2 ≤ (gt L i).2
  | 0, i, hi => by omega
  | k + 1, i, hi => by
    simp only [lowS, minI_eq]
    rcases Nat.lt_or_ge i k with h | h
    · have := lowS_le (L := L) k i h; omega
    · obtain rfl : i = k := by omega
      omega
theorem lowS_eq {L : List (Int × Int)} (h : ∀ k, k < L.length → (gt L k).1 ≤ 6 ∧ (gt L k).2 ≤ 6) (h0 : 0 < L.length) : lowS L L.length = lowL L := by
  have h1 := lowS_box h h0 L.length (Nat.le_refl _)
  have h2 := lowS_le (L := L) L.length 0 h0
  unfold lowL
  rw [h1]
  exact Prod.ext (by simp only; omega) (by simp only; omega)
theorem cornS {L : List (Int × Int)} (h : ∀ k, k < L.length → (gt L k).1 ≤ 6 ∧ (gt L k).2 ≤ 6) : L.map (dn (lowS L L.length)) = cornL L := by
  rcases Nat.eq_zero_or_pos L.length with h0 | h0
  · have : L = [] := List.length_eq_zero_iff.1 h0
    subst this; rfl
  · rw [lowS_eq h h0]; rfl
theorem lowS_bd {L : List (Int × Int)} {B : Int} (hB : 0 ≤ B) (h : ∀ k, k < L.length → -B ≤ (gt L k).1 ∧ -B ≤ (gt L k).2) : ∀ k, k ≤ L.length → -B ≤ (lowS L k).1 ∧ (lowS L k).1 ≤ 6 ∧ -B ≤ (lowS L k).2 ∧ (lowS L k).2 ≤ 6
  | 0, _ => by simp only [lowS]; omega
  | k + 1, hk => by
    have := lowS_bd hB h k (by omega)
    have := h k (by omega)
    simp only [lowS, minI_eq]; omega
/-- Cells of the table fit when they are moved into the corner. -/
theorem fit_zero {a b m : Nat} (ha : 0 < a) (hab : a * b ≤ 36) (hm : m < 2 ^ (a * b)) : fitB a b (cornL (cellsC a m)) = true := by
  refine fit_all fun k hk => ?_
  have hk' : k < (cellsC a m).length := by simpa [cornL] using hk
  have h1 := cellsC_bd ha hab hm hk'
  have h2 := low_le hk'
  obtain ⟨⟨i, hi, e1⟩, ⟨j, hj, e2⟩⟩ := box_at (L := cellsC a m) (cellsC a m).length (Nat.le_refl _) (by omega)
  have h3 := cellsC_bd ha hab hm hi
  have h4 := cellsC_bd ha hab hm hj
  unfold cornL
  rw [gt_map hk']
  unfold covB dn
  simp only [Bool.and_eq_true, inB_spec]
  unfold lowL at h2 ⊢
  omega
end Go.Proofs.Ytimkknljoeiceaa

/-! PutS8 -/
namespace Go.Proofs.Ytimkknljoeiceaa
open Go.RowKit

def PutP (a b : Nat) (L : List (Int × Int)) (W : World) (e : Ending) (w' : World) : Prop := e = .returned (.tuple #[.int .i64 (putM a b L : Nat), .bool (putB a b L)]) ∧ Below W.heap.size W w'
theorem corn_bd {B : Int} {L : List (Int × Int)} (h : Bd B L) (h0 : 0 < L.length) {k : Nat} (hk : k < L.length) : 0 ≤ (gt (cornL L) k).1 ∧ (gt (cornL L) k).1 ≤ 2 * B ∧ 0 ≤ (gt (cornL L) k).2 ∧ (gt (cornL L) k).2 ≤ 2 * B := by
  have h1 := low_le hk
  have h2 := bd_low h h0 L.length (Nat.le_refl _)
  have h3 := h k hk
  unfold cornL
  rw [gt_map hk]
  unfold dn
  unfold lowL at h1 ⊢
  simp only
  omega
theorem covB_of {a b : Nat} {x y : Int} (hx : 0 ≤ x) (hy : 0 ≤ y) : covB a b x y = (!decide ((a : Int) ≤ x) && !decide ((b : Int) ≤ y)) := by
  rw [Bool.eq_iff_iff]
  unfold covB
  simp only [Bool.and_eq_true, inB_spec, Bool.not_eq_true', decide_eq_false_iff_not]
  omega
set_option maxRecDepth 100000 in
set_option maxHeartbeats 2000000 in
theorem putS_any8 (a b : Nat) (A : Option Addr) (c : Nat) (L : List (Int × Int)) (W : World) (ha : 1 ≤ a ∧ a ≤ 6) (hb : 1 ≤ b ∧ b ≤ 6) (hab : a * b ≤ 36) (hA : PtsA W A L) (hL : L.length ≤ 36) (hbd : Bd 6 L) (hpw : L.Pairwise (· ≠ ·)) :
    Calls Try.prog 81 #[.int .i64 a, .int .i64 b, .slice A L.length c] W (PutP a b L W) := by
  rcases Nat.eq_zero_or_pos L.length with h0 | h0
  · have hE : L = [] := List.length_eq_zero_iff.1 h0
    subst hE
    have R : Hid (PutP a b [] W (.returned (.tuple #[.int .i64 (0 : Nat), .bool true])) W) := by
      have := put_nil a b
      show PutP _ _ _ _ _ _
      unfold PutP
      rw [this.1, this.2]
      exact ⟨rfl, Below.refl _ _⟩
    clear hA hbd hpw h0
    go_enter Try.func81, Try.ntmps81
    go_wp2_with fail
    go_ret2
    exact R.out
  have hbd40 : Bd 40 L := fun i hi => by have := hbd i hi; omega
  have HCN := Lib.hid (corner_any A c L W hA (by omega) (by omega) hbd40)
  unfold Lists at HCN
  have HCB := Lib.hid (fun k (hk : k < L.length) => corn_bd hbd h0 hk)
  have HD := Lib.hid (diff_of_pairwise (corn_pw hpw))
  have hlen : (cornL L).length = L.length := cornL_len L
  have HPM : Hid (PutP a b L W = fun e w' => e = .returned (.tuple #[.int .i64 (putM a b L : Nat), .bool (putB a b L)]) ∧ Below W.heap.size W w') := by
    show _ = _
    funext e w'
    rfl
  have HY := Lib.hid (fun (h : fitB a b (cornL L) = true) => putM_yes h)
  have HNO := Lib.hid (fun (h : fitB a b (cornL L) = false) => putM_no h)
  have HBV : Hid (putB a b L = fitB a b (cornL L)) := rfl
  have hn1 : ((L.length : Int) == 0) = false := by rw [beq_eq_false_iff_ne]; omega
  generalize cornL L = C at *
  generalize putM a b L = pm at *
  generalize putB a b L = pb at *
  have HAB := Lib.hid hab
  clear hA hbd hbd40 hpw hab
  go_enter Try.func81, Try.ntmps81
  go_wp2_with fail
  refine HCN.out.mono ?_
  rintro e w4 ⟨v4, rfl, own4, bb⟩
  obtain ⟨_, A4, c4, rfl, p4⟩ := own_pts own4
  have HA := Lib.hid p4
  clear own4 p4 HCN hn1
  go_wp2_with fail
  go_loopw [8, 10, 17] (fun s _ i wr => ∃ k m : Nat, k ≤ C.length ∧ i = .int .i64 k ∧ s = .int .i64 m ∧ m < 68719476736 ∧ Hid (m = ofF (idxIn a (C.take k)) (a * b) ∧ ∀ q, q < k → covB a b (gt C q).1 (gt C q).2 = true) ∧ Below w4.heap.size w4 wr) (fun _ _ i _ => C.length - (intOf i).toNat)
  case atStart => exact ⟨0, 0, Nat.zero_le _, rfl, rfl, by omega, ⟨by
    have : idxIn a (C.take 0) = fun _ => false := by funext j; rfl
    rw [this, ofF_none], fun q hq => by omega⟩, Below.refl _ _⟩
  case round =>
    obtain ⟨wo, rfl⟩ : ∃ wo : World, wo = wr := ⟨_, rfl⟩
    obtain ⟨k, m, hk, rfl, rfl, hm, HM, hb⟩ := hrel
    by_cases hlt : k < C.length
    · obtain ⟨g4, rfl, -⟩ := HA.out k hlt
      obtain ⟨d1, d2⟩ := gt_cells (ptsA_on HA.out hb) hlt
      have hcb := HCB.out k (by omega)
      have hcv := covB_of (a := a) (b := b) hcb.1 hcb.2.2.1
      have HFN := Lib.hid (fun h => fit_not (a := a) (b := b) hlt h)
      obtain ⟨x, hx⟩ : ∃ x, x = (gt C k).1 := ⟨_, rfl⟩
      obtain ⟨y, hy⟩ : ∃ y, y = (gt C k).2 := ⟨_, rfl⟩
      rw [← hx, ← hy] at hcb hcv
      rw [← hx] at d1
      rw [← hy] at d2
      have HXY := Lib.hid (And.intro hx hy)
      clear hx hy
      have a1 := at_new wo x y 54
      have v1 := a1.c0; have v2 := a1.c1
      have hb1 := hb.alloc hb.size (.cells #[.int .i64 x, .int .i64 y] 54)
      clear hb a1
      by_cases hx : (a : Int) ≤ x
      · have R : Hid (PutP a b L W (.returned (.tuple #[.int .i64 (0 : Nat), .bool false])) (wo.alloc (.cells #[.int .i64 x, .int .i64 y] 54))) := by
          have hf := HFN.out (by rw [← HXY.out.1, ← HXY.out.2, hcv]; simp [hx])
          show PutP _ _ _ _ _ _
          rw [HPM.out, HBV.out, HNO.out hf, hf]
          exact ⟨rfl, below_on bb hb1⟩
        clear hcv HFN hb1 bb HM
        go_wp2_with fail
        go_ret2
        exact R.out
      by_cases hy : (b : Int) ≤ y
      · have R : Hid (PutP a b L W (.returned (.tuple #[.int .i64 (0 : Nat), .bool false])) (wo.alloc (.cells #[.int .i64 x, .int .i64 y] 54))) := by
          have hf := HFN.out (by rw [← HXY.out.1, ← HXY.out.2, hcv]; simp [hy])
          show PutP _ _ _ _ _ _
          rw [HPM.out, HBV.out, HNO.out hf, hf]
          exact ⟨rfl, below_on bb hb1⟩
        clear hcv HFN hb1 bb HM
        go_wp2_with fail
        go_ret2
        exact R.out
      have hcv2 : covB a b x y = true := by rw [hcv]; simp [hx, hy]
      obtain ⟨i, j, e1, e2, hi, hj, hij, hK⟩ := covB_nat hcv2
      subst e1; subst e2
      have HM2 : Hid (m + 2 ^ (j * a + i) = ofF (idxIn a (C.take (k + 1))) (a * b) ∧ ∀ q, q < k + 1 → covB a b (gt C q).1 (gt C q).2 = true) := by
        have hall : ∀ q, q < k + 1 → covB a b (gt C q).1 (gt C q).2 = true := fun q hq => by
          by_cases e : q = k
          · subst e; rw [← HXY.out.1, ← HXY.out.2]; exact hcv2
          · exact HM.out.2 q (by omega)
        refine ⟨?_, hall⟩
        have hnew := idxIn_new (a := a) (b := b) HD.out hlt (fun q hq => hall q (by omega)) HXY.out.1.symm HXY.out.2.symm
        rw [← idxIn_step (b := b) hlt HXY.out.1.symm HXY.out.2.symm, ofF_add hij hnew, ← HM.out.1]
      have hm2 : m + 2 ^ (j * a + i) < 68719476736 := by
        rw [HM2.out.1]
        exact Nat.lt_of_lt_of_le (ofF_lt _ _) (two_le36 HAB.out)
      obtain ⟨q, hq⟩ : ∃ q, q = j * a := ⟨_, rfl⟩
      have hqi : (j : Int) * (a : Int) = (q : Int) := by rw [hq, Int.natCast_mul]
      rw [← hq] at HM2 hm2 hij
      have hq36 : q + i < 36 := by have := HAB.out; omega
      obtain ⟨p, hp, hp2, hp3⟩ := pow_nat (q + i) hq36
      rw [← hp2] at HM2 hm2
      have htn : ((q : Int) + (i : Int)).toNat = q + i := by omega
      clear hq hK hcv hcv2 HFN HM hp2
      generalize q + i = qi at *
      go_wp2_with fail
      go_roundw
      case rel => exact ⟨k + 1, m + p, by omega, by go_num, by go_num, hm2, HM2, hb1⟩
      case measure => simp [intOf]; omega
    · obtain rfl : k = C.length := by omega
      have R : Hid (PutP a b L W (.returned (.tuple #[.int .i64 m, .bool true])) wo) := by
        have hf := fit_all HM.out.2
        show PutP _ _ _ _ _ _
        rw [HPM.out, HBV.out, HY.out hf, hf, HM.out.1, List.take_length]
        exact ⟨rfl, below_on bb hb⟩
      clear HM hb bb
      go_wp2_with fail
      go_ret2
      exact R.out
end Go.Proofs.Ytimkknljoeiceaa

/-! MvS8 -/
namespace Go.Proofs.Ytimkknljoeiceaa
open Go.RowKit

theorem bd_cells {a b m t : Nat} (ha : 1 ≤ a ∧ a ≤ 6) (hb : 1 ≤ b ∧ b ≤ 6) (hab : a * b ≤ 36) (hm : m < 2 ^ (a * b)) (ht : t < 8) : Bd 6 ((cellsC a m).map (mot t)) := fun i hi => by
  have hi' : i < (cellsC a m).length := by simpa using hi
  rw [gt_map hi']
  have := cellsC_bd (by omega) hab hm hi'
  exact mot_bd ht (by omega)
theorem bd_cells0 {a b m : Nat} (ha : 1 ≤ a ∧ a ≤ 6) (hb : 1 ≤ b ∧ b ≤ 6) (hab : a * b ≤ 36) (hm : m < 2 ^ (a * b)) : Bd 6 (cellsC a m) := fun i hi => by
  have := cellsC_bd (by omega) hab hm hi
  omega
set_option maxRecDepth 100000 in
set_option maxHeartbeats 2000000 in
theorem moveS_any8 (a b m t : Nat) (W : World) (ha : 1 ≤ a ∧ a ≤ 6) (hb : 1 ≤ b ∧ b ≤ 6) (hab : a * b ≤ 36) (hm : m < 2 ^ (a * b)) (ht : t < 8) :
    Calls Try.prog 83 #[.int .i64 a, .int .i64 b, .int .i64 m, .int .i64 t] W (PutP a b ((cellsC a m).map (mot t)) W) := by
  obtain ⟨i0, hi0, hz0, hz1, hz2⟩ := info_parts infoPt
  have HCE := Lib.hid (fun W => cellsS_any a m W ha.1 (lt62 hm hab))
  unfold Lists at HCE
  have HAP := Lib.hid (fun (k : Nat) (h : k < (cellsC a m).length) (w : World) => apply_any (gt (cellsC a m) k).1 (gt (cellsC a m) k).2 t w ht (by have := cellsC_bd (by omega) hab hm h; omega))
  have HPU := Lib.hid (fun A c W hA => putS_any8 a b A c ((cellsC a m).map (mot t)) W ha hb hab hA (by have := cellsC_len a m; simpa using this) (bd_cells ha hb hab hm ht) (moved_pw a m t))
  rw [List.length_map] at HPU
  have hlen := cellsC_len a m
  have HPP : Hid (∀ L e w1 w2, Below W.heap.size W w1 → PutP a b L w1 e w2 → PutP a b L W e w2) := fun L e w1 w2 h1 h2 => ⟨h2.1, below_on h1 h2.2⟩
  generalize cellsC a m = L at *
  have own0 := World.ownsRow_lit (base := W.heap.size) (e := 54) (size := 2) W #[] 0 (Nat.le_refl _) (by unfold maxLen; omega) (by rfl)
  have b0 := below1 W (.cells #[] 54)
  clear hm hab
  go_enter Try.func83, Try.ntmps83
  go_wp2_with fail
  generalize W.alloc (.cells #[] 54) = W1 at *
  have ho0 := own0
  refine (HCE.out _).mono ?_
  rintro e w4 ⟨v4, rfl, own4, hb4⟩
  have bb := below_on b0 hb4
  have hap0 := own_apart_g' own0 (Nat.le_refl _) own4
  replace own0 := own_below own0 hb4
  obtain ⟨_, A4, c4, rfl, p4⟩ := own_pts own4
  have HA := Lib.hid p4
  clear p4 HCE hb4 b0 ho0
  go_wp2_with fail
  generalize W1.heap.size = B4 at *
  go_loopw [10, 12, 18] (fun s _ i wr => ∃ (k : Nat) (M : List (Int × Int)), k ≤ L.length ∧ i = .int .i64 k ∧ Hid (M = (L.take k).map (mot t)) ∧ wr.ownsRow W.heap.size 54 2 s M.length (flat M) ∧ wr.ownsRow B4 54 2 (.slice A4 L.length c4) L.length (flat L) ∧ Hid ((Value.slice A4 L.length c4).ownBlock = none ∨ (Value.slice A4 L.length c4).ownBlock ≠ s.ownBlock) ∧ Below W.heap.size W wr) (fun _ _ i _ => L.length - (intOf i).toNat)
  case atStart => exact ⟨0, [], Nat.zero_le _, rfl, rfl, own0, own4, hap0, bb⟩
  case round =>
    clear own0 own4 hap0 bb HA
    obtain ⟨wo, rfl⟩ : ∃ wo : World, wo = wr := ⟨_, rfl⟩
    obtain ⟨k, M, hk, rfl, HM, own, own4, HAP4, hb⟩ := hrel
    have p4 := ptsA_of own4
    by_cases hlt : k < L.length
    · obtain ⟨g4, rfl, -⟩ := p4 k hlt
      obtain ⟨d5, d6⟩ := gt_cells p4 hlt
      have HM2 : Hid (M ++ [((mot t (gt L k)).1, (mot t (gt L k)).2)] = (L.take (k + 1)).map (mot t)) := by
        show _ = _
        rw [map_step hlt, HM.out]
      have hML : M.length ≤ 36 := by rw [HM.out, map_len hk]; omega
      have HP := Lib.hid (HAP.out k hlt)
      have HPE : Hid (((gt L k).1, (gt L k).2) = gt L k) := rfl
      rw [HPE.out] at HP
      clear HPE HM p4
      generalize mot t (gt L k) = q at *
      generalize q.1 = qx at *
      generalize q.2 = qy at *
      generalize (gt L k).1 = x at *
      generalize (gt L k).2 = y at *
      have n6 := at_new wo x y 54
      have c5 := n6.c0; have c6 := n6.c1
      have b6 := hb.alloc hb.size (.cells #[.int .i64 x, .int .i64 y] 54)
      have own6 := own.alloc (.cells #[.int .i64 x, .int .i64 y] 54)
      have own7 := own4.alloc (.cells #[.int .i64 x, .int .i64 y] 54)
      clear hb own own4 n6
      go_wp2_with fail
      refine (HP.out _).mono ?_
      rintro e w6 ⟨rfl, hb6⟩
      replace b6 := below_on b6 hb6
      replace own6 := own_below own6 hb6
      replace own7 := own_below own7 hb6
      have hs6 := b6.size
      clear hb6 c5 c6 d5 d6 HP
      go_wp2_with (at_builtin; refine wpList_append_own_at _ rfl _ _ 27 rfl W.heap.size 54 i0 (.agg #[.int .i64 0, .int .i64 0]) 2 16 Try.underlying27 hi0 hz0 hz1 hz2 rfl (by decide) _ _ _ rfl (own6.alloc _) ⟨w6.heap.size, 0, none⟩ 1 1 [.int .i64 qx, .int .i64 qy] rfl rfl ?d1 ?d2 ?d3 ?d4 ?d5 ?_)
      case d1 => exact World.news_of_block (cs := #[.int .i64 qx, .int .i64 qy]) (t := 54) (fr := (0, 0)) (heap_alloc_new w6 _)
      case d2 => simp [Value.oneCell']
      case d3 => unfold maxLen; omega
      case d4 => omega
      case d5 => simp; omega
      intro v' w7 own8 hgrow _ hat
      have hrw := fun k hk => (own6.lt k hk).1
      have h8 := (own7.alloc (.cells #[.int .i64 qx, .int .i64 qy] 54)).kept hgrow HAP4.out
      have hap : (Value.slice (some ⟨g4, 0, none⟩) L.length c4).ownBlock = none ∨ (Value.slice (some ⟨g4, 0, none⟩) L.length c4).ownBlock ≠ v'.ownBlock := by
        rcases HAP4.out with h | h
        · exact .inl h
        · refine .inr fun e => ?_
          rcases hat with h' | h'
          · exact h (e.trans h')
          · have := (own7.lt _ (e.trans h')).2
            first | omega | (rw [size_alloc] at this; omega)
      have R : Hid (w7.ownsRow W.heap.size 54 2 v' (M ++ [(qx, qy)]).length (flat (M ++ [(qx, qy)])) ∧ Below W.heap.size W w7) :=
        ⟨by rw [flat_append, List.length_append]; exact own8, (b6.alloc hs6 _).grown hgrow (by simp; omega) hrw⟩
      have R2 := Lib.hid (And.intro h8 hap)
      clear own6 own7 own8 hgrow b6 hrw hat h8 hap HAP4
      go_wp2_with fail
      go_roundw
      case rel => exact ⟨k + 1, M ++ [(qx, qy)], by omega, by go_num, HM2, R.out.1, R2.out.1, R2.out.2, R.out.2⟩
      case measure => simp [intOf]; omega
    · have HQ : Hid (M = L.map (mot t)) := by
        have e : k = L.length := by omega
        show _ = _
        rw [HM.out, e, List.take_length]
      have hMl : M.length = L.length := by rw [HQ.out, List.length_map]
      obtain ⟨_, A1, c1, rfl, p1⟩ := own_pts own
      rw [HQ.out] at p1
      have HC := Lib.hid (HPU.out A1 c1 wo p1)
      rw [hMl]
      clear HM own hMl p1 p4 own4 HAP4
      go_wp2_with fail
      refine HC.out.mono ?_
      rintro e w8 h8
      have R := Lib.hid (HPP.out _ _ _ _ hb h8)
      obtain ⟨rfl, hb8⟩ := h8
      clear hb hb8 HQ
      go_wp2_with fail
      go_ret2
      exact R.out
end Go.Proofs.Ytimkknljoeiceaa

/-! MvT8 -/
namespace Go.Proofs.Ytimkknljoeiceaa
open Go.RowKit

/-- What MovedShape answers. -/
def movM (w h M t : Int) : Nat := if shapeB w h M = true ∧ inB t 0 7 = true then putM w.toNat h.toNat ((cellsC w.toNat M.toNat).map (mot t.toNat)) else 0
def movK (w h M t : Int) : Bool := shapeB w h M && (inB t 0 7 && putB w.toNat h.toNat ((cellsC w.toNat M.toNat).map (mot t.toNat)))
theorem mov_yes {a b m t : Nat} (hB : shapeB a b m = true) (ht : t < 8) : movM a b m t = putM a b ((cellsC a m).map (mot t)) ∧ movK a b m t = putB a b ((cellsC a m).map (mot t)) := by
  have h1 : inB (t : Int) 0 7 = true := inB_spec.2 (by omega)
  constructor
  · unfold movM; rw [if_pos ⟨hB, h1⟩]; simp
  · unfold movK; rw [hB, h1]; simp
theorem mov_noS {w h M t : Int} (hB : shapeB w h M = false) : movM w h M t = 0 ∧ movK w h M t = false := by
  constructor
  · unfold movM; rw [if_neg (by simp [hB])]
  · unfold movK; rw [hB]; rfl
theorem mov_noT {w h M t : Int} (hB : inB t 0 7 = false) : movM w h M t = 0 ∧ movK w h M t = false := by
  constructor
  · unfold movM; rw [if_neg (by simp [hB])]
  · unfold movK; rw [hB]; simp
theorem mot_zero (L : List (Int × Int)) : L.map (mot 0) = L := by
  have : mot 0 = id := by funext p; rfl
  rw [this, List.map_id]
def cornerV (w h M : Int) : Int := bif shapeB w h M then (movM w h M 0 : Int) else -1
theorem corner_yes {a b m : Nat} (hB : shapeB a b m = true) : cornerV a b m = (putM a b (cellsC a m) : Nat) := by
  unfold cornerV
  rw [hB]
  have := (mov_yes (t := 0) hB (by omega)).1
  rw [mot_zero] at this
  show ((movM a b m 0 : Nat) : Int) = _
  exact congrArg _ this
theorem corner_no {w h M : Int} (hB : shapeB w h M = false) : cornerV w h M = -1 := by unfold cornerV; rw [hB]; rfl
theorem fit_first {a b m : Nat} (ha : 0 < a) (hab : a * b ≤ 36) (hm : m < 2 ^ (a * b)) : putB a b ((cellsC a m).map (mot 0)) = true := by
  rw [mot_zero]; exact fit_zero ha hab hm
/-- The least mask of the first k motions that fit: as the model finds it, and as the program does. -/
def nameS (f : Nat → Nat) (g : Nat → Bool) : Nat → Int
  | 0 => -1
  | k + 1 => if g k = true ∧ (nameS f g k < 0 ∨ (f k : Int) < nameS f g k) then (f k : Int) else nameS f g k
def nameP (c : Int) (f : Nat → Nat) (g : Nat → Bool) : Nat → Int
  | 0 => c
  | k + 1 => if g k = true then min (nameP c f g k) (f k : Int) else nameP c f g k
theorem name_eq {f : Nat → Nat} {g : Nat → Bool} (h0 : g 0 = true) : ∀ k, nameS f g (k + 1) = nameP (f 0 : Nat) f g (k + 1) ∧ 0 ≤ nameS f g (k + 1)
  | 0 => by simp [nameS, nameP, h0]
  | k + 1 => by
    obtain ⟨h1, h2⟩ := name_eq h0 k
    rw [nameS, nameP, ← h1]
    cases hg : g (k + 1)
    · simp [h2]
    · simp only [true_and, if_true]
      split <;> omega
theorem nameS_bd (f : Nat → Nat) (g : Nat → Bool) (hf : ∀ k, f k < 68719476736) : ∀ k, -1 ≤ nameS f g k ∧ nameS f g k < 68719476736
  | 0 => by simp [nameS]
  | k + 1 => by
    have := nameS_bd f g hf k
    have := hf k
    rw [nameS]
    split <;> omega
theorem putM_lt {a b : Nat} (hab : a * b ≤ 36) (L : List (Int × Int)) : putM a b L < 68719476736 := by
  unfold putM
  split
  · exact Nat.lt_of_lt_of_le (ofF_lt _ _) (two_le36 hab)
  · omega
def nameV (w h M : Int) : Int := bif shapeB w h M then nameS (fun t : Nat => movM w h M (t : Int)) (fun t : Nat => movK w h M (t : Int)) 8 else -1
theorem name_yes {w h M : Int} (hB : shapeB w h M = true) : nameV w h M = nameS (fun t : Nat => movM w h M (t : Int)) (fun t : Nat => movK w h M (t : Int)) 8 := by unfold nameV; rw [hB]; rfl
theorem name_no {w h M : Int} (hB : shapeB w h M = false) : nameV w h M = -1 := by unfold nameV; rw [hB]; rfl
theorem movM_lt {w h M t : Int} : movM w h M t < 68719476736 := by
  unfold movM
  split
  · rename_i hc
    obtain ⟨a, b, m, rfl, rfl, rfl, ha1, ha2, hb1, hb2, hm, hab⟩ := mask_nat hc.1
    exact putM_lt (by simpa using hab) _
  · omega
def MovP (w h M t : Int) (W : World) (e : Ending) (w' : World) : Prop := e = .returned (.tuple #[.int .i64 (movM w h M t : Nat), .bool (movK w h M t)]) ∧ Below W.heap.size W w'
set_option maxRecDepth 100000 in
theorem spec_corner (w h M : Int) (W : World) : Calls Try.prog 35 #[.int .i64 w, .int .i64 h, .int .i64 M] W fun e w' => e = .returned (.int .i64 (cornerV w h M)) ∧ Below W.heap.size W w' := by
  have HS := Lib.hid (fun W => spec_shape w h M W)
  cases hB : shapeB w h M
  · rw [hB] at HS
    have HV := Lib.hid (corner_no hB)
    rw [HV.out]
    clear hB
    go_enter Try.func35, Try.ntmps35
    go_wp2_with fail
    refine (HS.out _).mono ?_
    rintro e w1 ⟨rfl, rfl⟩
    go_wp2_with fail
    go_ret
    exact ⟨rfl, Below.refl _ _⟩
  · rw [hB] at HS
    obtain ⟨a, b, m, rfl, rfl, rfl, ha1, ha2, hb1, hb2, hm, hab⟩ := mask_nat hB
    have HV := Lib.hid (corner_yes hB)
    rw [HV.out]
    have HCE := Lib.hid (fun W => cellsS_any a m W ha1 (lt62 hm hab))
    unfold Lists at HCE
    have HPU := Lib.hid (fun A c W hA => putS_any8 a b A c (cellsC a m) W ⟨ha1, ha2⟩ ⟨hb1, hb2⟩ hab hA (cellsC_len a m) (bd_cells0 ⟨ha1, ha2⟩ ⟨hb1, hb2⟩ hab hm) (cells_pw a m))
    unfold PutP at HPU
    generalize cellsC a m = L at *
    generalize putM a b L = pm at *
    generalize putB a b L = pb at *
    clear hB hm hab
    go_enter Try.func35, Try.ntmps35
    go_wp2_with fail
    refine (HS.out _).mono ?_
    rintro e w1 ⟨rfl, rfl⟩
    go_wp2_with fail
    refine (HCE.out _).mono ?_
    rintro e w4 ⟨v4, rfl, own4, hb4⟩
    obtain ⟨_, A4, c4, rfl, p4⟩ := own_pts own4
    clear own4
    go_wp2_with fail
    refine (HPU.out A4 c4 w4 p4).mono ?_
    rintro e w5 ⟨rfl, hb5⟩
    have b5 := below_on hb4 hb5
    clear p4 hb4 hb5
    go_wp2_with fail
    go_ret
    exact ⟨rfl, b5⟩
set_option maxRecDepth 100000 in
theorem spec_moved (w h M t : Int) (W : World) : Calls Try.prog 37 #[.int .i64 w, .int .i64 h, .int .i64 M, .int .i64 t] W (MovP w h M t W) := by
  have HS := Lib.hid (fun W => spec_shape w h M W)
  have HMP : Hid (MovP w h M t W = fun e w' => e = .returned (.tuple #[.int .i64 (movM w h M t : Nat), .bool (movK w h M t)]) ∧ Below W.heap.size W w') := by
    show _ = _
    funext e w'; rfl
  cases hB : shapeB w h M
  · rw [hB] at HS
    have R : Hid (∀ w', Below W.heap.size W w' → MovP w h M t W (.returned (.tuple #[.int .i64 (0 : Nat), .bool false])) w') := fun w' hb => by
      rw [HMP.out, (mov_noS (t := t) hB).1, (mov_noS (t := t) hB).2]
      exact ⟨rfl, hb⟩
    clear hB HMP
    go_enter Try.func37, Try.ntmps37
    go_wp2_with fail
    refine (HS.out _).mono ?_
    rintro e w1 ⟨rfl, rfl⟩
    go_wp2_with fail
    go_ret2
    exact R.out _ (Below.refl _ _)
  rw [hB] at HS
  cases ht : inB t 0 7
  · have R : Hid (∀ w', Below W.heap.size W w' → MovP w h M t W (.returned (.tuple #[.int .i64 (0 : Nat), .bool false])) w') := fun w' hb => by
      rw [HMP.out, (mov_noT (w := w) (h := h) (M := M) ht).1, (mov_noT (w := w) (h := h) (M := M) ht).2]
      exact ⟨rfl, hb⟩
    clear hB HMP
    go_enter Try.func37, Try.ntmps37
    go_wp2_with fail
    refine (HS.out _).mono ?_
    rintro e w1 ⟨rfl, rfl⟩
    go_wp2_with fail
    refine (in_any _ _ _ _).mono ?_
    rintro e w1 ⟨rfl, rfl⟩
    rw [ht]
    go_wp2_with fail
    go_ret2
    exact R.out _ (Below.refl _ _)
  obtain ⟨a, b, m, rfl, rfl, rfl, ha1, ha2, hb1, hb2, hm, hab⟩ := mask_nat hB
  have htt := inB_spec.1 ht
  obtain ⟨t, rfl⟩ : ∃ k : Nat, t = k := ⟨t.toNat, by omega⟩
  have HMV := Lib.hid (fun W => moveS_any8 a b m t W ⟨ha1, ha2⟩ ⟨hb1, hb2⟩ hab hm (by omega))
  unfold PutP at HMV
  have HYE := Lib.hid (mov_yes hB (show t < 8 by omega))
  rw [← HYE.out.1, ← HYE.out.2] at HMV
  have R : Hid (∀ w', Below W.heap.size W w' → MovP a b m t W (.returned (.tuple #[.int .i64 (movM a b m t : Nat), .bool (movK a b m t)])) w') := fun w' hb => ⟨rfl, hb⟩
  generalize MovP (a : Int) (b : Int) (m : Int) (t : Int) W = PP at *
  generalize movM (a : Int) (b : Int) (m : Int) (t : Int) = pm at *
  generalize movK (a : Int) (b : Int) (m : Int) (t : Int) = pb at *
  clear hB hm hab HMP
  go_enter Try.func37, Try.ntmps37
  go_wp2_with fail
  refine (HS.out _).mono ?_
  rintro e w1 ⟨rfl, rfl⟩
  go_wp2_with fail
  refine (in_any _ _ _ _).mono ?_
  rintro e w1 ⟨rfl, rfl⟩
  rw [ht]
  go_wp2_with fail
  refine (HMV.out _).mono ?_
  rintro e w2 ⟨rfl, hb2⟩
  go_wp2_with fail
  exact R.out _ hb2
set_option maxRecDepth 100000 in
set_option maxHeartbeats 1000000 in
theorem nameS_any (a b m : Nat) (W : World) (hB : shapeB a b m = true) :
    Calls Try.prog 88 #[.int .i64 a, .int .i64 b, .int .i64 m] W fun e w' => e = .returned (.int .i64 (nameS (fun t : Nat => movM a b m (t : Int)) (fun t : Nat => movK a b m (t : Int)) 8)) ∧ Below W.heap.size W w' := by
  obtain ⟨a', b', m', e1, e2, e3, ha1, ha2, hb1, hb2, hm, hab⟩ := mask_nat hB
  have e1 := Int.ofNat.inj e1; have e2 := Int.ofNat.inj e2; have e3 := Int.ofNat.inj e3
  subst e1; subst e2; subst e3
  have HMV := Lib.hid (fun t W (ht : t < 8) => moveS_any8 a b m t W ⟨ha1, ha2⟩ ⟨hb1, hb2⟩ hab hm ht)
  unfold PutP at HMV
  have HYE := Lib.hid (fun t (ht : t < 8) => mov_yes hB ht)
  have HF := Lib.hid (fun t => @movM_lt a b m t)
  obtain ⟨f, hf⟩ : ∃ f : Nat → Nat, f = fun t : Nat => movM a b m (t : Int) := ⟨_, rfl⟩
  obtain ⟨g, hg⟩ : ∃ g : Nat → Bool, g = fun t : Nat => movK a b m (t : Int) := ⟨_, rfl⟩
  rw [← hf, ← hg]
  have HFG : Hid (∀ t, t < 8 → putM a b ((cellsC a m).map (mot t)) = f t ∧ putB a b ((cellsC a m).map (mot t)) = g t) := fun t ht => by
    rw [hf, hg]
    exact ⟨(HYE.out t ht).1.symm, (HYE.out t ht).2.symm⟩
  have HFB : Hid (∀ k, f k < 68719476736) := fun k => by rw [hf]; exact HF.out _
  have HNB := Lib.hid (nameS_bd f g HFB.out)
  have HN : Hid (∀ k, nameS f g (k + 1) = if g k = true ∧ (nameS f g k < 0 ∨ (f k : Int) < nameS f g k) then (f k : Int) else nameS f g k) := fun _ => rfl
  clear hB hm hab hf hg HYE HF
  go_enter Try.func88, Try.ntmps88
  go_wp2_with fail
  go_loopw [7, 8, 9, 10] (fun s i _ _ wr => ∃ (k : Nat) (v : Int), k ≤ 8 ∧ i = .int .i64 k ∧ s = .int .i64 v ∧ Hid (v = nameS f g k) ∧ Below W.heap.size W wr) (fun _ i _ _ _ => 8 - (intOf i).toNat)
  case atStart => exact ⟨0, -1, by omega, rfl, rfl, rfl, Below.refl _ _⟩
  case round =>
    obtain ⟨wo, rfl⟩ : ∃ wo : World, wo = wr := ⟨_, rfl⟩
    obtain ⟨k, v, hk, rfl, rfl, HV, hb⟩ := hrel
    by_cases hlt : k < 8
    · have HC := Lib.hid (HMV.out k wo hlt)
      rw [(HFG.out k hlt).1, (HFG.out k hlt).2] at HC
      have hv := HNB.out k
      rw [← HV.out] at hv
      have hfk := HFB.out k
      have hn := HN.out k
      rw [← HV.out] at hn
      clear HV
      generalize f k = u at *
      cases hgk : g k
      · rw [hgk] at hn HC
        have HV2 : Hid (v = nameS f g (k + 1)) := by
          show _ = _
          rw [hn]; simp
        clear hn hgk
        go_wp2_with fail
        refine HC.out.mono ?_
        rintro e w2 ⟨rfl, hb2⟩
        have R := Lib.hid (below_on hb hb2)
        clear hb hb2
        go_wp2_with fail
        go_roundw
        case rel => exact ⟨k + 1, v, by omega, by go_num, rfl, HV2, R.out⟩
        case measure => simp [intOf]; omega
      rw [hgk] at hn HC
      by_cases hv0 : v < 0
      · have HV2 : Hid ((u : Int) = nameS f g (k + 1)) := by
          show _ = _
          rw [hn, if_pos ⟨rfl, .inl hv0⟩]
        clear hn hgk
        go_wp2_with fail
        refine HC.out.mono ?_
        rintro e w2 ⟨rfl, hb2⟩
        have R := Lib.hid (below_on hb hb2)
        clear hb hb2
        go_wp2_with fail
        go_roundw
        case rel => exact ⟨k + 1, _, by omega, by go_num, rfl, HV2, R.out⟩
        case measure => simp [intOf]; omega
      by_cases hv1 : (u : Int) < v
      · have HV2 : Hid ((u : Int) = nameS f g (k + 1)) := by
          show _ = _
          rw [hn, if_pos ⟨rfl, .inr hv1⟩]
        clear hn hgk
        go_wp2_with fail
        refine HC.out.mono ?_
        rintro e w2 ⟨rfl, hb2⟩
        have R := Lib.hid (below_on hb hb2)
        clear hb hb2
        go_wp2_with fail
        go_roundw
        case rel => exact ⟨k + 1, _, by omega, by go_num, rfl, HV2, R.out⟩
        case measure => simp [intOf]; omega
      · have HV2 : Hid (v = nameS f g (k + 1)) := by
          show _ = _
          rw [hn, if_neg (by simp [hv0, hv1])]
        clear hn hgk
        go_wp2_with fail
        refine HC.out.mono ?_
        rintro e w2 ⟨rfl, hb2⟩
        have R := Lib.hid (below_on hb hb2)
        clear hb hb2
        go_wp2_with fail
        go_roundw
        case rel => exact ⟨k + 1, v, by omega, by go_num, rfl, HV2, R.out⟩
        case measure => simp [intOf]; omega
    · obtain rfl : k = 8 := by omega
      have R := Lib.hid hb
      clear hb
      go_wp2_with fail
      go_ret
      rw [← HV.out]
      exact ⟨rfl, R.out⟩
theorem spec_name (w h M : Int) (W : World) : Calls Try.prog 39 #[.int .i64 w, .int .i64 h, .int .i64 M] W fun e w' => e = .returned (.int .i64 (nameV w h M)) ∧ Below W.heap.size W w' := by
  have HS := Lib.hid (fun W => spec_shape w h M W)
  cases hB : shapeB w h M
  · rw [hB] at HS
    have HV := Lib.hid (name_no hB)
    rw [HV.out]
    clear hB
    go_enter Try.func39, Try.ntmps39
    go_wp2_with fail
    refine (HS.out _).mono ?_
    rintro e w1 ⟨rfl, rfl⟩
    go_wp2_with fail
    go_ret
    exact ⟨rfl, Below.refl _ _⟩
  · rw [hB] at HS
    have HV := Lib.hid (name_yes hB)
    obtain ⟨a, b, m, rfl, rfl, rfl, -⟩ := mask_nat hB
    rw [HV.out]
    have HN := Lib.hid (fun W => nameS_any a b m W hB)
    generalize nameS (fun t : Nat => movM a b m (t : Int)) (fun t : Nat => movK a b m (t : Int)) 8 = r at *
    clear hB
    go_enter Try.func39, Try.ntmps39
    go_wp2_with fail
    refine (HS.out _).mono ?_
    rintro e w1 ⟨rfl, rfl⟩
    go_wp2_with fail
    refine (HN.out _).mono ?_
    rintro e w2 ⟨rfl, hb2⟩
    go_wp2_with fail
    go_ret
    exact ⟨rfl, hb2⟩
end Go.Proofs.Ytimkknljoeiceaa

/-! MaskI8 -/
namespace Go.Proofs.Ytimkknljoeiceaa
open Go.RowKit

set_option maxRecDepth 100000 in
set_option maxHeartbeats 4000000 in
theorem maskI_any (a b : Nat) (A : Option Addr) (c : Nat) (L : List (Int × Int)) (W : World) (ha : 1 ≤ a ∧ a ≤ 6) (hb : 1 ≤ b ∧ b ≤ 6) (hab : a * b ≤ 36) (hA : PtsA W A L) (hL : L.length ≤ 36) (hbd : Bd 6 L) :
    Calls Try.prog 87 #[.int .i64 a, .int .i64 b, .slice A L.length c] W (PutP a b L W) := by
  have hle6 : ∀ k, k < L.length → (gt L k).1 ≤ 6 ∧ (gt L k).2 ≤ 6 := fun k hk => by have := hbd k hk; omega
  have HCO := Lib.hid (cornS hle6)
  have HLB := Lib.hid (lowS_bd (L := L) (B := 6) (by omega) (fun k hk => by have := hbd k hk; omega))
  have HBD := Lib.hid hbd
  have HPM : Hid (PutP a b L W = fun e w' => e = .returned (.tuple #[.int .i64 (putM a b L : Nat), .bool (putB a b L)]) ∧ Below W.heap.size W w') := by
    show _ = _
    funext e w'
    rfl
  have HY := Lib.hid (fun (h : fitB a b (cornL L) = true) => putM_yes h)
  have HNO := Lib.hid (fun (h : fitB a b (cornL L) = false) => putM_no h)
  have HBV : Hid (putB a b L = fitB a b (cornL L)) := rfl
  have HS : Hid (∀ k, lowS L (k + 1) = (minI (lowS L k).1 (gt L k).1, minI (lowS L k).2 (gt L k).2)) := fun _ => rfl
  have HCV := Lib.hid (fun F x y W => covers_any a b F x y W ha hb)
  have HIX := Lib.hid (fun F i j W hi hj => indexOf_any a b F i j W ha.2 hb.2 hi hj)
  have HMB := Lib.hid (fun F W => maskB_any a b F W hab)
  have hmin : ∀ (w : World) (x y : Int) (ts : Array TypeId) (t : TypeId), (Builtin.min_ ts t #[.int .i64 x, .int .i64 y]).run Try.prog w = .ok (.int .i64 (minI x y)) w := run_minI
  have HA := Lib.hid hA
  have HAB := Lib.hid hab
  have a0 := at_new W 6 6 54
  have b0 := below1 W (.cells #[.int .i64 6, .int .i64 6] 54)
  clear hA hbd hle6 hab
  go_enter Try.func87, Try.ntmps87
  go_wp2_with fail
  generalize W.alloc (.cells #[.int .i64 6, .int .i64 6] 54) = w1 at *
  go_loopw [10, 17] (fun _ i wr => ∃ k : Nat, k ≤ L.length ∧ i = .int .i64 k ∧ At wr W.heap.size (lowS L k).1 (lowS L k).2 54 ∧ Below W.heap.size W wr) (fun _ i _ => L.length - (intOf i).toNat)
  case atStart => exact ⟨0, Nat.zero_le _, rfl, a0, b0⟩
  case round =>
    clear a0 b0
    obtain ⟨wo, rfl⟩ : ∃ wo : World, wo = wr := ⟨_, rfl⟩
    obtain ⟨k, hk, rfl, a0, hb0⟩ := hrel
    by_cases hlt : k < L.length
    · obtain ⟨g4, rfl, -⟩ := HA.out k hlt
      obtain ⟨d1, d2⟩ := gt_cells (ptsA_on HA.out hb0) hlt
      have hs := HS.out k
      have HE : Hid (∀ wr, At wr W.heap.size (minI (lowS L k).1 (gt L k).1) (minI (lowS L k).2 (gt L k).2) 54 → At wr W.heap.size (lowS L (k + 1)).1 (lowS L (k + 1)).2 54) := fun wr h => by rw [hs]; exact h
      clear hs
      generalize (lowS L k).1 = u at *
      generalize (lowS L k).2 = v at *
      generalize (gt L k).1 = x at *
      generalize (gt L k).2 = y at *
      have n6 := at_new wo x y 54
      have a6 := a0.alloc (.cells #[.int .i64 x, .int .i64 y] 54)
      have c5 := n6.c0; have c6 := n6.c1; have c7 := a6.c0; have c8 := a6.c1
      have f1 := at_frozen a6 0; have f2 := at_frozen a6 1
      obtain ⟨u', hu⟩ : ∃ u', u' = minI u x := ⟨_, rfl⟩
      obtain ⟨v', hv⟩ : ∃ v', v' = minI v y := ⟨_, rfl⟩
      rw [← hu, ← hv] at HE
      have hmu : ∀ (w : World) (ts : Array TypeId) (t : TypeId), (Builtin.min_ ts t #[.int .i64 u, .int .i64 x]).run Try.prog w = .ok (.int .i64 u') w := fun w ts t => by rw [hu]; exact hmin w u x ts t
      have hmv : ∀ (w : World) (ts : Array TypeId) (t : TypeId), (Builtin.min_ ts t #[.int .i64 v, .int .i64 y]).run Try.prog w = .ok (.int .i64 v') w := fun w ts t => by rw [hv]; exact hmin w v y ts t
      have v5 := (at_store a6 u' 0).c1
      have s6 := at_store1 (at_store a6 u' 0) v'
      have b6 := hb0.alloc hb0.size (.cells #[.int .i64 x, .int .i64 y] 54)
      have b7 := (b6.setCell (p := ⟨W.heap.size, 0, none⟩) (Nat.le_refl _) (.int .i64 u')).setCell (p := ⟨W.heap.size, 1, none⟩) (Nat.le_refl _) (.int .i64 v')
      have R := Lib.hid (And.intro (HE.out _ s6) b7)
      clear n6 a6 a0 hb0 b6 b7 s6 hu hv HE
      clear hmin
      go_wp2_with fail
      go_roundw
      case rel => exact ⟨k + 1, by omega, by go_num, R.out.1, R.out.2⟩
      case measure => simp [intOf]; omega
    · obtain rfl : k = L.length := by omega
      have hlb := HLB.out L.length (Nat.le_refl _)
      have hco := HCO.out
      have HCL := Lib.hid hco
      have HLD : Hid (∀ k, k < L.length → (gt (cornL L) k).1 = (gt L k).1 - (lowS L L.length).1 ∧ (gt (cornL L) k).2 = (gt L k).2 - (lowS L L.length).2) := fun k hk => by
        rw [← HCL.out, gt_map hk]; exact ⟨rfl, rfl⟩
      have hlen : (cornL L).length = L.length := cornL_len L
      clear hco HCO HCL HLB HS
      generalize (lowS L L.length).1 = u at *
      generalize (lowS L L.length).2 = v at *
      generalize cornL L = C at *
      generalize putM a b L = pm at *
      generalize putB a b L = pb at *
      have t2 := brd_new wo 0 0 fun _ => false
      have hs0 := hb0.size
      go_wp2_with (first
        | (refine wpList_allocB rfl rfl ?_; try simp only [size_alloc])
        | refine wpList_buildB rfl _ _ rfl _ _ rfl rfl ?_
        | refine wpList_storeB rfl _ _ rfl wo.heap.size a b _ _ (fun _ => false) _ rfl rfl t2 ?_)
      have t1 := brd_setRow t2 a b (fun _ => false)
      have a1 := At.step a0 (below_rowB (below1 wo (.cells (bdV 0 0 fun _ => false) 75)) (Nat.le_refl _) (bdV a b fun _ => false))
      have b1 := below_rowB (hb0.alloc hs0 (.cells (bdV 0 0 fun _ => false) 75)) hs0 (bdV a b fun _ => false)
      have hlt8 := a0.lt
      generalize hw3 : (wo.alloc (.cells (bdV 0 0 fun _ => false) 75)).setRow wo.heap.size (bdV a b fun _ => false) = w3 at *
      have H0 : Hid (Brd w3 wo.heap.size a b (idxIn a (C.take 0))) := by
        have : idxIn a (C.take 0) = fun _ => false := by funext j; rfl
        show Brd _ _ _ _ _
        rw [this]; exact t1
      clear t2 t1 hw3 hb0 a0 hmin
      go_loopw [13, 38] (fun _ i wr => ∃ k : Nat, k ≤ L.length ∧ i = .int .i64 k ∧ Brd wr wo.heap.size a b (idxIn a (C.take k)) ∧ At wr W.heap.size u v 54 ∧ Hid (∀ q, q < k → covB a b (gt C q).1 (gt C q).2 = true) ∧ Below W.heap.size W wr) (fun _ i _ => L.length - (intOf i).toNat)
      case atStart => exact ⟨0, Nat.zero_le _, rfl, H0.out, a1, fun q hq => by omega, b1⟩
      case round =>
        clear H0 a1 b1
        obtain ⟨wi, rfl⟩ : ∃ wi : World, wi = wr := ⟨_, rfl⟩
        obtain ⟨k, hk, rfl, hg, a1, HQ, hb⟩ := hrel
        by_cases hlt : k < L.length
        · obtain ⟨g4, rfl, -⟩ := HA.out k hlt
          obtain ⟨d1, d2⟩ := gt_cells (ptsA_on HA.out hb) hlt
          have hbdk := HBD.out k hlt
          have hld := HLD.out k hlt
          have HFN := Lib.hid (fun h => fit_not (a := a) (b := b) (C := C) (k := k) (by omega) h)
          generalize (gt L k).1 = x at *
          generalize (gt L k).2 = y at *
          obtain ⟨x', hx⟩ : ∃ x', x' = (gt C k).1 := ⟨_, rfl⟩
          obtain ⟨y', hy⟩ : ∃ y', y' = (gt C k).2 := ⟨_, rfl⟩
          rw [← hx, ← hy] at hld
          have HXY := Lib.hid (And.intro hx hy)
          have e1 : wrap64 (x - u) = x' := by rw [hld.1]; exact IntWalk.wrap64_in _ (by omega)
          have e2 : wrap64 (y - v) = y' := by rw [hld.2]; exact IntWalk.wrap64_in _ (by omega)
          have HMN := Lib.hid (fun w => minus_any x y u v w)
          rw [e1, e2] at HMN
          clear hx hy hld e1 e2 hbdk
          have n6 := at_new wi x y 54
          have a6 := a1.alloc (.cells #[.int .i64 x, .int .i64 y] 54)
          have g6 := hg.alloc (.cells #[.int .i64 x, .int .i64 y] 54)
          have b6 := hb.alloc hb.size (.cells #[.int .i64 x, .int .i64 y] 54)
          have c5 := n6.c0; have c6 := n6.c1; have c7 := a6.c0; have c8 := a6.c1
          have hwi := hb.size
          have hglt := hg.lt
          have h8lt := a1.lt
          clear hg a1 hb
          go_wp2_with fail
          refine (HMN.out _).mono ?_
          rintro e w5 ⟨rfl, hb5⟩
          replace n6 := n6.step hb5
          replace a6 := a6.step hb5
          replace g6 := g6.step hb5
          replace b6 := below_on b6 hb5
          have f1 := at_frozen n6 0; have f2 := at_frozen n6 1
          have d3 := n6.c0; have d4 := n6.c1
          have v5 := (at_store n6 x' 0).c1
          have s6 := at_store1 (at_store n6 x' 0) y'
          have a7 := at_set (at_set a6 (b := wi.heap.size) (by omega) 0 (.int .i64 x')) (b := wi.heap.size) (by omega) 1 (.int .i64 y')
          have g7 := (g6.other (k := wi.heap.size) (by omega) 0 (.int .i64 x')).other (k := wi.heap.size) (by omega) 1 (.int .i64 y')
          have b7 := (b6.setCell (p := ⟨wi.heap.size, 0, none⟩) hwi (.int .i64 x')).setCell (p := ⟨wi.heap.size, 1, none⟩) hwi (.int .i64 y')
          have c1 := s6.c0; have c2 := s6.c1
          have HC := Lib.hid (fun W => HCV.out (idxIn a (C.take k)) x' y' W)
          clear c5 c6 c7 c8 hb5 HMN n6 a6 g6 b6 d1 d2
          cases hcv : covB a b x' y'
          · rw [hcv] at HC
            have hf := HFN.out (by rw [← HXY.out.1, ← HXY.out.2]; exact hcv)
            have R : Hid (∀ w', Below W.heap.size W w' → PutP a b L W (.returned (.tuple #[.int .i64 (0 : Nat), .bool false])) w') := fun w' hb' => by
              rw [HPM.out, HBV.out, HNO.out hf, hf]
              exact ⟨rfl, hb'⟩
            clear hf hcv
            go_wp2_with (refine wpList_loadB rfl _ rfl _ _ _ _ rfl g7 ?_)
            refine (HC.out _).mono ?_
            rintro e w6 ⟨rfl, hb6⟩
            have R2 := Lib.hid (R.out _ (below_on b7 hb6))
            clear R b7 hb6 g7 a7 s6 c1 c2 v5 f1 f2 d3 d4
            go_wp2_with fail
            go_ret2
            exact R2.out
          · rw [hcv] at HC
            obtain ⟨i, j, q1, q2, hi, hj, hij, hK⟩ := covB_nat hcv
            subst q1; subst q2
            have HQ2 : Hid (∀ q, q < k + 1 → covB a b (gt C q).1 (gt C q).2 = true) := fun q hq => by
              by_cases e : q = k
              · subst e; rw [← HXY.out.1, ← HXY.out.2]; exact hcv
              · exact HQ.out q (by omega)
            have HI := Lib.hid (fun W => HIX.out (idxIn a (C.take k)) i j W hi hj)
            have hst := idxIn_step (a := a) (b := b) (C := C) (k := k) (i := i) (j := j) (by omega) HXY.out.1.symm HXY.out.2.symm
            obtain ⟨q, hq⟩ : ∃ q, q = j * a + i := ⟨_, rfl⟩
            rw [← hq] at HI hst hij
            have hq36 : q < 36 := by have := HAB.out; omega
            clear hq hK hcv HFN HQ
            have HST := Lib.hid hst
            clear hst
            go_wp2_with (refine wpList_loadB rfl _ rfl _ _ _ _ rfl g7 ?_)
            refine (HC.out _).mono ?_
            rintro e w6 ⟨rfl, hb6⟩
            replace g7 := g7.step hb6
            replace s6 := s6.step hb6
            replace a7 := a7.step hb6
            replace b7 := below_on b7 hb6
            clear c1 c2 v5 f1 f2 d3 d4 hb6 HC
            have c1 := s6.c0; have c2 := s6.c1
            go_wp2_with (refine wpList_loadB rfl _ rfl _ _ _ _ rfl g7 ?_)
            refine (HI.out _).mono ?_
            rintro e w8 ⟨rfl, hb8⟩
            replace g7 := g7.step hb8
            replace a7 := a7.step hb8
            replace b7 := below_on b7 hb8
            clear c1 c2 hb8 HI s6
            have c1 := g7.at hq36
            have f1 := g7.frozen (2 + q)
            have g8 := g7.set hq36 true
            rw [HST.out] at g8
            have a8 := at_set a7 (b := wo.heap.size) (by omega) (2 + q) (.bool true)
            have b8 := b7.setCell (p := ⟨wo.heap.size, 2 + q, none⟩) hs0 (.bool true)
            have R := Lib.hid (And.intro g8 (And.intro a8 b8))
            clear g7 g8 a7 a8 b7 b8
            go_wp2_with fail
            go_roundw
            case rel => exact ⟨k + 1, by omega, by go_num, R.out.1, R.out.2.1, HQ2, R.out.2.2⟩
            case measure => simp [intOf]; omega
        · obtain rfl : k = L.length := by omega
          have hf := fit_all (a := a) (b := b) (C := C) (by rw [hlen]; exact HQ.out)
          have hmk := HY.out hf
          have htk : C.take L.length = C := by rw [← hlen, List.take_length]
          rw [htk] at hg
          have HM := Lib.hid (fun W => HMB.out (idxIn a C) W)
          rw [← hmk] at HM
          have R : Hid (∀ w', Below W.heap.size W w' → PutP a b L W (.returned (.tuple #[.int .i64 (pm : Nat), .bool true])) w') := fun w' hb' => by
            rw [HPM.out, HBV.out, hf]
            exact ⟨rfl, hb'⟩
          clear hf hmk htk HQ a1
          go_wp2_with (refine wpList_loadB rfl _ rfl _ _ _ _ rfl hg ?_)
          refine (HM.out _).mono ?_
          rintro e w6 ⟨rfl, hb6⟩
          have R2 := Lib.hid (R.out _ (below_on hb hb6))
          clear R hb hb6 hg
          go_wp2_with fail
          go_ret2
          exact R2.out
end Go.Proofs.Ytimkknljoeiceaa

/-! MvI8 -/
namespace Go.Proofs.Ytimkknljoeiceaa
open Go.RowKit

theorem motF_enter (m : Nat) (hm : m < 8) (x : Value) (w : World) : Sem.run Try.prog (callFunc (motF m) #[x]) w = .ok (.enter (motF m) #[x]) w := enter_mot m hm x w
set_option maxRecDepth 100000 in
set_option maxHeartbeats 2000000 in
theorem impl_moved (w h M t : Int) (W : World) : Calls Try.prog 38 #[.int .i64 w, .int .i64 h, .int .i64 M, .int .i64 t] W (MovP w h M t W) := by
  have HS := Lib.hid (fun W => impl_shape w h M W)
  have HMP : Hid (MovP w h M t W = fun e w' => e = .returned (.tuple #[.int .i64 (movM w h M t : Nat), .bool (movK w h M t)]) ∧ Below W.heap.size W w') := by
    show _ = _
    funext e w'; rfl
  cases hB : shapeB w h M
  · rw [hB] at HS
    have R : Hid (∀ w', Below W.heap.size W w' → MovP w h M t W (.returned (.tuple #[.int .i64 (0 : Nat), .bool false])) w') := fun w' hb => by
      rw [HMP.out, (mov_noS (t := t) hB).1, (mov_noS (t := t) hB).2]
      exact ⟨rfl, hb⟩
    clear hB HMP
    go_enter Try.func38, Try.ntmps38
    go_wp2_with fail
    refine (HS.out _).mono ?_
    rintro e w1 ⟨rfl, rfl⟩
    go_wp2_with fail
    go_ret2
    exact R.out _ (Below.refl _ _)
  rw [hB] at HS
  cases ht : inB t 0 7
  · have R : Hid (∀ w', Below W.heap.size W w' → MovP w h M t W (.returned (.tuple #[.int .i64 (0 : Nat), .bool false])) w') := fun w' hb => by
      rw [HMP.out, (mov_noT (w := w) (h := h) (M := M) ht).1, (mov_noT (w := w) (h := h) (M := M) ht).2]
      exact ⟨rfl, hb⟩
    clear hB HMP
    go_enter Try.func38, Try.ntmps38
    go_wp2_with fail
    refine (HS.out _).mono ?_
    rintro e w1 ⟨rfl, rfl⟩
    go_wp2_with fail
    refine (isMotion_any _ _).mono ?_
    rintro e w1 ⟨rfl, rfl⟩
    rw [ht]
    go_wp2_with fail
    go_ret2
    exact R.out _ (Below.refl _ _)
  obtain ⟨a, b, m, rfl, rfl, rfl, ha1, ha2, hb1, hb2, hm, hab⟩ := mask_nat hB
  have htt := inB_spec.1 ht
  obtain ⟨t, rfl⟩ : ∃ k : Nat, t = k := ⟨t.toNat, by omega⟩
  have ht8 : t < 8 := by omega
  obtain ⟨i0, hi0, hz0, hz1, hz2⟩ := info_parts infoPt
  have HYE := Lib.hid (mov_yes hB ht8)
  have HBO := Lib.hid (fun W => boardOf_any a b m W hm hab)
  have HCE := Lib.hid (fun W => cellsB_any a b m W ha1 hab hm)
  unfold Lists at HCE
  have HAP := Lib.hid (fun (k : Nat) (h : k < (cellsC a m).length) (w : World) => motF_any (gt (cellsC a m) k).1 (gt (cellsC a m) k).2 t w ht8 (by have := cellsC_bd (by omega) hab hm h; omega))
  have HPU := Lib.hid (fun A c W hA => maskI_any a b A c ((cellsC a m).map (mot t)) W ⟨ha1, ha2⟩ ⟨hb1, hb2⟩ hab hA (by have := cellsC_len a m; simpa using this) (bd_cells ⟨ha1, ha2⟩ ⟨hb1, hb2⟩ hab hm ht8))
  unfold PutP at HPU
  rw [List.length_map, ← HYE.out.1, ← HYE.out.2] at HPU
  have hlen := cellsC_len a m
  have R : Hid (∀ w', Below W.heap.size W w' → MovP a b m t W (.returned (.tuple #[.int .i64 (movM a b m t : Nat), .bool (movK a b m t)])) w') := fun w' hb => ⟨rfl, hb⟩
  have HFN : ∀ x w, Sem.run Try.prog (callFunc (motF t) #[x]) w = .ok (.enter (motF t) #[x]) w := fun x w => motF_enter t ht8 x w
  have HIX : ∀ w, (Instr.index 85 (.agg motA) (.int .i64 (t : Int))).run Try.prog w = .ok (.func (.func (motF t)) #[] #[]) w := fun w => idx_mot t ht8 w
  clear HMP HYE
  generalize cellsC a m = L at *
  generalize MovP (a : Int) (b : Int) (m : Int) (t : Int) W = PP at *
  generalize movM (a : Int) (b : Int) (m : Int) (t : Int) = pm at *
  generalize movK (a : Int) (b : Int) (m : Int) (t : Int) = pb at *
  generalize motF t = F at *
  clear hB hm hab
  go_enter Try.func38, Try.ntmps38
  go_wp2_with fail
  refine (HS.out _).mono ?_
  rintro e w1 ⟨rfl, rfl⟩
  go_wp2_with fail
  refine (isMotion_any _ _).mono ?_
  rintro e w1 ⟨rfl, rfl⟩
  rw [ht]
  go_wp2_with fail
  refine (motions_any _).mono ?_
  rintro e w2 ⟨rfl, hb2'⟩
  go_wp2_with fail
  refine (HBO.out _).mono ?_
  rintro e w3 ⟨rfl, hb3⟩
  have b3 := below_on hb2' hb3
  clear hb2' hb3 HBO HS HIX
  go_wp2_with fail
  refine (HCE.out _).mono ?_
  rintro e w4 ⟨v4, rfl, own4, hb4⟩
  have bb := below_on b3 hb4
  obtain ⟨_, A4, c4, rfl, p4⟩ := own_pts own4
  have HA := Lib.hid p4
  have hsb := bb.size
  clear p4 own4 HCE hb4 b3
  go_wp2_with fail
  go_loopw [11, 13, 33] (fun s _ i wr => ∃ (k : Nat) (N : List (Int × Int)), k ≤ L.length ∧ i = .int .i64 k ∧ Hid (N = (L.take k).map (mot t)) ∧ wr.ownsRow w4.heap.size 54 2 s N.length (flat N) ∧ Below w4.heap.size w4 wr) (fun _ _ i _ => L.length - (intOf i).toNat)
  case atStart => exact ⟨0, [], Nat.zero_le _, rfl, rfl, World.ownsRow_nil _ _ _ _, Below.refl _ _⟩
  case round =>
    obtain ⟨wo, rfl⟩ : ∃ wo : World, wo = wr := ⟨_, rfl⟩
    obtain ⟨k, N, hk, rfl, HM, own, h4⟩ := hrel
    by_cases hlt : k < L.length
    · obtain ⟨g4, rfl, -⟩ := HA.out k hlt
      obtain ⟨d5, d6⟩ := gt_cells (ptsA_on HA.out h4) hlt
      have HM2 : Hid (N ++ [((mot t (gt L k)).1, (mot t (gt L k)).2)] = (L.take (k + 1)).map (mot t)) := by
        show _ = _
        rw [map_step hlt, HM.out]
      have hML : N.length ≤ 36 := by rw [HM.out, map_len hk]; omega
      have HP := Lib.hid (HAP.out k hlt)
      have HPE : Hid (((gt L k).1, (gt L k).2) = gt L k) := rfl
      rw [HPE.out] at HP
      clear HPE HM
      generalize mot t (gt L k) = q at *
      generalize q.1 = qx at *
      generalize q.2 = qy at *
      generalize (gt L k).1 = x at *
      generalize (gt L k).2 = y at *
      have n6 := at_new wo x y 54
      have c5 := n6.c0; have c6 := n6.c1
      have h6 := h4.alloc h4.size (.cells #[.int .i64 x, .int .i64 y] 54)
      have own6 := own.alloc (.cells #[.int .i64 x, .int .i64 y] 54)
      clear h4 own n6
      go_wp2_with fail
      refine (HP.out _).mono ?_
      rintro e w6 ⟨rfl, hb6⟩
      replace h6 := below_on h6 hb6
      replace own6 := own_below own6 hb6
      have hs6 := h6.size
      clear hb6 c5 c6 d5 d6 HP
      go_wp2_with (at_builtin; refine wpList_append_own _ rfl _ _ 27 rfl w4.heap.size 54 i0 (.agg #[.int .i64 0, .int .i64 0]) 2 16 Try.underlying27 hi0 hz0 hz1 hz2 rfl (by decide) _ _ _ rfl (own6.alloc _) ⟨w6.heap.size, 0, none⟩ 1 1 [.int .i64 qx, .int .i64 qy] rfl rfl ?d1 ?d2 ?d3 ?d4 ?d5 ?_)
      case d1 => exact World.news_of_block (cs := #[.int .i64 qx, .int .i64 qy]) (t := 54) (fr := (0, 0)) (heap_alloc_new w6 _)
      case d2 => simp [Value.oneCell']
      case d3 => unfold maxLen; omega
      case d4 => omega
      case d5 => simp; omega
      intro v' w7 own8 hgrow _
      have hrw := fun k hk => (own6.lt k hk).1
      have R9 : Hid (w7.ownsRow w4.heap.size 54 2 v' (N ++ [(qx, qy)]).length (flat (N ++ [(qx, qy)])) ∧ Below w4.heap.size w4 w7) :=
        ⟨by rw [flat_append, List.length_append]; exact own8, (h6.alloc hs6 _).grown hgrow (by simp; omega) hrw⟩
      clear own6 own8 hgrow h6 hrw
      go_wp2_with fail
      go_roundw
      case rel => exact ⟨k + 1, N ++ [(qx, qy)], by omega, by go_num, HM2, R9.out.1, R9.out.2⟩
      case measure => simp [intOf]; omega
    · have HQ : Hid (N = L.map (mot t)) := by
        have e : k = L.length := by omega
        show _ = _
        rw [HM.out, e, List.take_length]
      have hMl : N.length = L.length := by rw [HQ.out, List.length_map]
      obtain ⟨_, A1, c1, rfl, p1⟩ := own_pts own
      rw [HQ.out] at p1
      have HC := Lib.hid (HPU.out A1 c1 wo p1)
      rw [hMl]
      have hb9 := below_on bb h4
      clear HM own hMl p1 h4 bb
      go_wp2_with fail
      refine HC.out.mono ?_
      rintro e w8 ⟨rfl, hb8⟩
      have R2 := Lib.hid (R.out _ (below_on hb9 hb8))
      clear hb9 hb8 HQ
      go_wp2_with fail
      exact R2.out
set_option maxRecDepth 100000 in
theorem impl_corner (w h M : Int) (W : World) : Calls Try.prog 36 #[.int .i64 w, .int .i64 h, .int .i64 M] W fun e w' => e = .returned (.int .i64 (cornerV w h M)) ∧ Below W.heap.size W w' := by
  have HM := Lib.hid (fun W => impl_moved w h M 0 W)
  unfold MovP at HM
  cases hB : shapeB w h M
  · have HV := Lib.hid (corner_no hB)
    rw [HV.out]
    have h1 := mov_noS (t := 0) hB
    rw [h1.1, h1.2] at HM
    clear hB h1
    go_enter Try.func36, Try.ntmps36
    go_wp2_with fail
    refine (HM.out _).mono ?_
    rintro e w1 ⟨rfl, b1⟩
    go_wp2_with fail
    go_ret
    exact ⟨rfl, b1⟩
  · obtain ⟨a, b, m, rfl, rfl, rfl, ha1, ha2, hb1, hb2, hm, hab⟩ := mask_nat hB
    have HV := Lib.hid (corner_yes hB)
    rw [HV.out]
    have h1 := mov_yes (t := 0) hB (by omega)
    have h2 := fit_first (a := a) (b := b) (m := m) (by omega) hab hm
    rw [h2] at h1
    rw [mot_zero] at h1
    have h3 : movM a b m 0 = putM a b (cellsC a m) := h1.1
    have h4 : movK a b m 0 = true := h1.2
    rw [h3, h4] at HM
    generalize putM a b (cellsC a m) = pm at *
    clear hB hm hab h1 h2 h3 h4
    go_enter Try.func36, Try.ntmps36
    go_wp2_with fail
    refine (HM.out _).mono ?_
    rintro e w1 ⟨rfl, b1⟩
    go_wp2_with fail
    go_ret
    exact ⟨rfl, b1⟩
end Go.Proofs.Ytimkknljoeiceaa

/-! Law8B -/
namespace Go.Proofs.Ytimkknljoeiceaa
open Go.RowKit

theorem nameP_off {c : Int} {f : Nat → Nat} {g : Nat → Bool} (h : ∀ k, g k = false) : ∀ k, nameP c f g k = c
  | 0 => rfl
  | k + 1 => by rw [nameP, h k, if_neg (by simp), nameP_off h k]
theorem name_prog (w h M : Int) : nameV w h M = nameP (cornerV w h M) (fun t : Nat => movM w h M (t : Int)) (fun t : Nat => movK w h M (t : Int)) 8 := by
  cases hB : shapeB w h M
  · rw [name_no hB, corner_no hB, nameP_off (fun k => (mov_noS hB).2)]
  · obtain ⟨a, b, m, rfl, rfl, rfl, ha1, ha2, hb1, hb2, hm, hab⟩ := mask_nat hB
    rw [name_yes hB]
    have h1 := mov_yes (t := 0) hB (by omega)
    have h2 := fit_first (a := a) (b := b) (m := m) (by omega) hab hm
    rw [h2] at h1
    have h3 := (name_eq (f := fun t : Nat => movM a b m (t : Int)) (g := fun t : Nat => movK a b m (t : Int)) h1.2 7).1
    rw [h3]
    have h4 : cornerV a b m = ((movM a b m ((0 : Nat) : Int) : Nat) : Int) := by
      rw [corner_yes hB, h1.1, mot_zero]
    rw [h4]
set_option maxRecDepth 100000 in
set_option maxHeartbeats 1000000 in
theorem impl_name (w h M : Int) (W : World) : Calls Try.prog 40 #[.int .i64 w, .int .i64 h, .int .i64 M] W fun e w' => e = .returned (.int .i64 (nameV w h M)) ∧ Below W.heap.size W w' := by
  have HV := Lib.hid (name_prog w h M)
  rw [HV.out]
  have HC := Lib.hid (fun W => impl_corner w h M W)
  have HM := Lib.hid (fun (t : Nat) W => impl_moved w h M (t : Int) W)
  unfold MovP at HM
  obtain ⟨f, hf⟩ : ∃ f : Nat → Nat, f = fun t : Nat => movM w h M (t : Int) := ⟨_, rfl⟩
  obtain ⟨g, hg⟩ : ∃ g : Nat → Bool, g = fun t : Nat => movK w h M (t : Int) := ⟨_, rfl⟩
  rw [← hf, ← hg]
  have HFG : Hid (∀ t : Nat, movM w h M (t : Int) = f t ∧ movK w h M (t : Int) = g t) := fun t => by rw [hf, hg]; exact ⟨rfl, rfl⟩
  generalize cornerV w h M = c at *
  have HN : Hid (∀ k, nameP c f g (k + 1) = if g k = true then min (nameP c f g k) (f k : Int) else nameP c f g k) := fun _ => rfl
  have hmin : ∀ (w : World) (x y : Int) (ts : Array TypeId) (t : TypeId), (Builtin.min_ ts t #[.int .i64 x, .int .i64 y]).run Try.prog w = .ok (.int .i64 (minI x y)) w := run_minI
  have HI := Lib.hid minI_eq
  clear hf hg HV
  go_enter Try.func40, Try.ntmps40
  go_wp2_with fail
  refine (HC.out _).mono ?_
  rintro e w1 ⟨rfl, b1⟩
  go_wp2_with fail
  go_loopw [7, 8, 9, 10, 15] (fun s _ _ _ i wr => ∃ (k : Nat) (v : Int), k ≤ 8 ∧ i = .int .i64 k ∧ s = .int .i64 v ∧ Hid (v = nameP c f g k) ∧ Below W.heap.size W wr) (fun _ _ _ _ i _ => 8 - (intOf i).toNat)
  case atStart => exact ⟨0, c, by omega, rfl, rfl, rfl, b1⟩
  case round =>
    clear b1
    obtain ⟨wo, rfl⟩ : ∃ wo : World, wo = wr := ⟨_, rfl⟩
    obtain ⟨k, v, hk, rfl, rfl, HV, hb⟩ := hrel
    by_cases hlt : k < 8
    · have HCC := Lib.hid (HM.out k wo)
      rw [(HFG.out k).1, (HFG.out k).2] at HCC
      have hn := HN.out k
      rw [← HV.out] at hn
      clear HV
      generalize f k = u at *
      cases hgk : g k
      · rw [hgk] at hn HCC
        have HV2 : Hid (v = nameP c f g (k + 1)) := by
          show _ = _
          rw [hn]; simp
        clear hn hgk
        go_wp2_with fail
        refine HCC.out.mono ?_
        rintro e w2 ⟨rfl, hb2⟩
        have R := Lib.hid (below_on hb hb2)
        clear hb hb2
        go_wp2_with fail
        go_roundw
        case rel => exact ⟨k + 1, v, by omega, by go_num, rfl, HV2, R.out⟩
        case measure => simp [intOf]; omega
      · rw [hgk] at hn HCC
        have HV2 : Hid (minI v (u : Int) = nameP c f g (k + 1)) := by
          show _ = _
          rw [hn, HI.out]; simp
        clear hn hgk
        go_wp2_with fail
        refine HCC.out.mono ?_
        rintro e w2 ⟨rfl, hb2⟩
        have R := Lib.hid (below_on hb hb2)
        clear hb hb2
        go_wp2_with fail
        go_roundw
        case rel => exact ⟨k + 1, _, by omega, by go_num, rfl, HV2, R.out⟩
        case measure => simp [intOf]; omega
    · obtain rfl : k = 8 := by omega
      have R := Lib.hid hb
      clear hb
      go_wp2_with fail
      go_ret
      rw [← HV.out]
      exact ⟨rfl, R.out⟩
theorem ex_cornerOf (w h M : Int) (W : World) : Calls Try.prog 8 #[.int .i64 w, .int .i64 h, .int .i64 M] W fun e w' => e = .returned (.bool true) ∧ Below W.heap.size W w' := by
  have HS := Lib.hid (fun W => spec_corner w h M W)
  have HI := Lib.hid (fun W => impl_corner w h M W)
  generalize cornerV w h M = r at *
  go_enter Try.func8, Try.ntmps8
  go_wp2_with fail
  refine (HS.out _).mono ?_
  rintro e w1 ⟨rfl, b1⟩
  go_wp2_with fail
  refine (HI.out _).mono ?_
  rintro e w2 ⟨rfl, hb2⟩
  have b2 := below_on b1 hb2
  go_wp2_with fail
  go_ret
  exact ⟨rfl, b2⟩
theorem ex_nameOfShape (w h M : Int) (W : World) : Calls Try.prog 10 #[.int .i64 w, .int .i64 h, .int .i64 M] W fun e w' => e = .returned (.bool true) ∧ Below W.heap.size W w' := by
  have HS := Lib.hid (fun W => spec_name w h M W)
  have HI := Lib.hid (fun W => impl_name w h M W)
  generalize nameV w h M = r at *
  go_enter Try.func10, Try.ntmps10
  go_wp2_with fail
  refine (HS.out _).mono ?_
  rintro e w1 ⟨rfl, b1⟩
  go_wp2_with fail
  refine (HI.out _).mono ?_
  rintro e w2 ⟨rfl, hb2⟩
  have b2 := below_on b1 hb2
  go_wp2_with fail
  go_ret
  exact ⟨rfl, b2⟩
theorem ex_movedShape (w h M t : Int) (W : World) : Calls Try.prog 9 #[.int .i64 w, .int .i64 h, .int .i64 M, .int .i64 t] W fun e w' => e = .returned (.bool true) ∧ Below W.heap.size W w' := by
  have HS := Lib.hid (fun W => spec_moved w h M t W)
  have HI := Lib.hid (fun W => impl_moved w h M t W)
  unfold MovP at HS HI
  generalize movM w h M t = r at *
  generalize movK w h M t = q at *
  go_enter Try.func9, Try.ntmps9
  go_wp2_with fail
  refine (HS.out _).mono ?_
  rintro e w1 ⟨rfl, b1⟩
  go_wp2_with fail
  refine (HI.out _).mono ?_
  rintro e w2 ⟨rfl, hb2⟩
  have b2 := below_on b1 hb2
  go_wp2_with fail
  go_ret
  exact ⟨rfl, b2⟩
end Go.Proofs.Ytimkknljoeiceaa
