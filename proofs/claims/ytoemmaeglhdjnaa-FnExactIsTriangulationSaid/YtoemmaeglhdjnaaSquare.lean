/-
  Walks for SquareOf of both programs.
-/
import Derived.Test.YtoemmaeglhdjnaaCross
namespace Go.Proofs.Ytoemmaeglhdjnaa
open Go.RowKit

def squareI (ax ay bx by' : Int) : Int := (ax - bx) * (ax - bx) + (ay - by') * (ay - by')
def squareV (ax ay bx by' : Int) : Int := bif okP ax ay && okP bx by' then squareI ax ay bx by' else -1
theorem squareI_flip (ax ay bx by' : Int) : squareI bx by' ax ay = squareI ax ay bx by' := by
  unfold squareI
  rw [← Int.neg_mul_neg (bx - ax), ← Int.neg_mul_neg (by' - ay), Int.neg_sub, Int.neg_sub]
theorem square_wrap {ax ay bx by' : Int} (ha : okP ax ay = true) (hb : okP bx by' = true) :
    wrap64 (wrap64 (wrap64 (ax - bx) * wrap64 (ax - bx)) + wrap64 (wrap64 (ay - by') * wrap64 (ay - by'))) = squareI ax ay bx by' := by
  have := okP_bounds ha; have := okP_bounds hb
  rw [wrap_id (x := ax - bx) (by omega), wrap_id (x := ay - by') (by omega)]
  have h1 := abs_mul (x := ax - bx) (y := ax - bx) (m := 40) (n := 40) (by omega) (by omega)
  have h2 := abs_mul (x := ay - by') (y := ay - by') (m := 40) (n := 40) (by omega) (by omega)
  rw [wrap_id (x := (ax - bx) * (ax - bx)) (by omega), wrap_id (x := (ay - by') * (ay - by')) (by omega)]
  unfold squareI
  generalize (ax - bx) * (ax - bx) = u at *
  generalize (ay - by') * (ay - by') = v at *
  exact wrap_id (by omega)
end Go.Proofs.Ytoemmaeglhdjnaa
