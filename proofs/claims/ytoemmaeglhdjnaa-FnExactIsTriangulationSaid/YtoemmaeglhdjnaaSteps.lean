/-
  Walks for l02Steps, StepsOf of both programs.
-/
import Derived.Test.YtoemmaeglhdjnaaGcd
import Derived.Test.YtoemmaeglhdjnaaSquare
namespace Go.Proofs.Ytoemmaeglhdjnaa
open Go.RowKit

theorem gcd_le {dx dy : Int} (hx : dx.natAbs ≤ 40) (hy : dy.natAbs ≤ 40) : Nat.gcd dx.natAbs dy.natAbs ≤ 40 := by
  rcases Nat.eq_zero_or_pos dx.natAbs with h | h
  · rw [h, Nat.gcd_zero_left]; exact hy
  · exact Nat.le_trans (Nat.gcd_le_left _ h) hx
def stepsN (ax ay bx by' : Int) : Nat := Nat.gcd (bx - ax).natAbs (by' - ay).natAbs
def stepsV (ax ay bx by' : Int) : Int := bif okP ax ay && okP bx by' then (stepsN ax ay bx by' : Int) else -1
end Go.Proofs.Ytoemmaeglhdjnaa
