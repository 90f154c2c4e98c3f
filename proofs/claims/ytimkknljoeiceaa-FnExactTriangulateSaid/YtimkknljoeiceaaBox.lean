/-
  Walks for BoxOf of both programs.
-/
import Derived.Test.YtimkknljoeiceaaClone
namespace Go.Proofs.Ytimkknljoeiceaa
open Go.RowKit

def minI (x y : Int) : Int := if y < x then y else x
def maxI (x y : Int) : Int := if x < y then y else x
theorem run_minI (w : World) (x y : Int) (ts : Array TypeId) (t : TypeId) : (Builtin.min_ ts t #[.int .i64 x, .int .i64 y]).run Try.prog w = .ok (.int .i64 (minI x y)) w := by
  simp [go_sem, minI]
theorem run_maxI (w : World) (x y : Int) (ts : Array TypeId) (t : TypeId) : (Builtin.max_ ts t #[.int .i64 x, .int .i64 y]).run Try.prog w = .ok (.int .i64 (maxI x y)) w := by
  simp [go_sem, maxI]
def boxStep (s : (Int × Int) × (Int × Int)) (p : Int × Int) : (Int × Int) × (Int × Int) := ((minI s.1.1 p.1, minI s.1.2 p.2), (maxI s.2.1 p.1, maxI s.2.2 p.2))
def boxTill (L : List (Int × Int)) : Nat → (Int × Int) × (Int × Int)
  | 0 => (gt L 0, gt L 0)
  | k + 1 => boxStep (boxTill L k) (gt L k)
def ptV (p : Int × Int) : Value := .agg #[.int .i64 p.1, .int .i64 p.2]
def boxR (L : List (Int × Int)) : Value := bif polyB L then .tuple #[ptV (boxTill L L.length).1, ptV (boxTill L L.length).2, .bool true] else .tuple #[ptV (0, 0), ptV (0, 0), .bool false]


end Go.Proofs.Ytimkknljoeiceaa
