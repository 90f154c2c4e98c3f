/-
  Walks for commonDivisor, l02Gcd, l02Steps, StepsOf of both programs.
-/
import Derived.Test.YtoemmaeglhdjnaaCross
namespace Go.Proofs.Ytoemmaeglhdjnaa
open Go.RowKit

theorem tmod_nat (m n : Nat) : Int.tmod (m : Int) (n : Int) = ((m % n : Nat) : Int) := by
  rw [Int.tmod_eq_emod_of_nonneg (by omega)]; simp
theorem gcd_round {m n : Nat} (_ : 0 < n) : Nat.gcd n (m % n) = Nat.gcd m n := by
  rw [Nat.gcd_comm m n, Nat.gcd_rec n m, Nat.gcd_comm]
theorem ab (a : Int) : ∃ m : Nat, a.natAbs = m ∧ ((0 < a ∧ a = m) ∨ (a = 0 ∧ (m : Int) = 0) ∨ (a < 0 ∧ -a = m)) := ⟨_, rfl, by omega⟩
end Go.Proofs.Ytoemmaeglhdjnaa
