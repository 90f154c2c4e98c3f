/-
  Twice the area of a polygon as a sum along its ring.
-/
import Derived.Test.YtieekeodbflgfaaRing
namespace Go.Proofs.Ytieekeodbflgfaa
open Go.RowKit

def crossT (s : Pt × Pt) : Int := s.1.1 * s.2.2 - s.1.2 * s.2.1
def chainT : List Pt → Int
  | [] => 0
  | [_] => 0
  | a :: b :: l => crossT (a, b) + chainT (b :: l)
theorem chain_snoc (b c : Pt) : ∀ l : List Pt, chainT (l ++ [b] ++ [c]) = chainT (l ++ [b]) + crossT (b, c)
  | [] => by simp [chainT]
  | [a] => by simp [chainT]
  | a :: d :: l => by
    have := chain_snoc b c (d :: l)
    simp only [List.cons_append, chainT] at this ⊢
    omega
theorem chain_sum : ∀ (l : List Pt), chainT l = ((consec l).map crossT).sum
  | [] => rfl
  | [_] => rfl
  | a :: b :: l => by
    have := chain_sum (b :: l)
    simp only [chainT, this, consec, List.tail_cons, List.zip_cons_cons, List.map_cons, List.sum_cons]
theorem sum_range (f : Nat → Int) : ∀ n, ((List.range n).map f).sum = sumT f n
  | 0 => rfl
  | n + 1 => by rw [List.range_succ, List.map_append, List.sum_append, sum_range f n]; simp [sumT]
theorem twice_chain (x : Pt) (xs : List Pt) : twiceI (x :: xs) = chainT (x :: xs ++ [x]) := by
  have h := sides_eq (x :: xs)
  rw [chain_sum]
  have e : consec (x :: xs ++ [x]) = sidesL (x :: xs) := rfl
  rw [e, h, List.map_map, sum_range]
  rfl
end Go.Proofs.Ytieekeodbflgfaa
