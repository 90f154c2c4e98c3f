/-
  Walks for SquareOf of both programs.
-/
import Derived.Test.YtimkknljoeiceaaCross
namespace Go.Proofs.Ytimkknljoeiceaa
open Go.RowKit

def squareI (ax ay bx by' : Int) : Int := (ax - bx) * (ax - bx) + (ay - by') * (ay - by')
def squareV (ax ay bx by' : Int) : Int := bif okP ax ay && okP bx by' then squareI ax ay bx by' else -1
theorem squareI_flip (ax ay bx by' : Int) : squareI bx by' ax ay = squareI ax ay bx by' := by
  unfold squareI
  rw [← Int.neg_mul_neg (bx - ax), ← Int.neg_mul_neg (by' - ay), Int.neg_sub, Int.neg_sub]
theorem square_wrap {ax ay bx by' : Int} (ha : okP ax ay = true) (hb : okP bx by' = true) :
    wrap64 (wrap64 (wrap64 (ax - bx) * wrap64 (ax - bx)) + wrap64 (wrap64 (ay - by') * wrap64 (ay - by'))) = squareI ax ay bx by' := by
  have := okP_bounds ha; have := okP_bounds hb
  rw [wrap_id (x := ax - bx) (by omega), wrap_id (x := ay - by') (by omega)]
  have h1 := abs_mul (x := ax - bx) (y := ax - bx) (m := 40) (n := 40) (by omega) (by omega)
  have h2 := abs_mul (x := ay - by') (y := ay - by') (m := 40) (n := 40) (by omega) (by omega)
  rw [wrap_id (x := (ax - bx) * (ax - bx)) (by omega), wrap_id (x := (ay - by') * (ay - by')) (by omega)]
  unfold squareI
  generalize (ax - bx) * (ax - bx) = u at *
  generalize (ay - by') * (ay - by') = v at *
  exact wrap_id (by omega)
theorem impl_square (ax ay bx by' : Int) (w : World) :
    Calls Try.prog 60 #[(.agg #[.int .i64 ax, .int .i64 ay]), (.agg #[.int .i64 bx, .int .i64 by'])] w fun e w' => e = .returned (.int .i64 (squareV ax ay bx by')) ∧ Below w.heap.size w w' := by
  have HP := Lib.hid (pts2 w ax ay bx by')
  go_enter Try.func60, Try.ntmps60
  go_wp2_with fail
  refine (all_any _ _ [(ax, ay), (bx, by')] _ HP.out (by simp) (by simp)).mono ?_
  rintro e w1 ⟨rfl, hb1⟩
  have t1 := ((two0 w ax ay bx by' 54).alloc _).step hb1
  have b1 := below_on (below3 w _ _ _) hb1
  clear hb1 HP
  have HO := Lib.hid (all2 ax ay bx by')
  cases hok : allOk [(ax, ay), (bx, by')]
  · go_wp2_with fail
    go_ret
    exact ⟨ret_int (by rw [squareV, ← HO.out, hok]; rfl), b1⟩
  have hok2 := HO.out.symm
  rw [hok] at hok2
  simp only [Bool.and_eq_true] at hok2
  obtain ⟨ha, hb⟩ := hok2
  have c1 := t1.1.c0; have c2 := t1.1.c1; have c3 := t1.2.c0; have c4 := t1.2.c1
  go_wp2_with fail
  refine (minus_any _ _ _ _ _).mono ?_
  rintro e w2 ⟨rfl, hb2⟩
  have b2 := below_on b1 hb2
  clear hb2 t1 b1 c1 c2 c3 c4
  go_wp2_with fail
  go_ret
  exact ⟨ret_int (by rw [square_wrap hb ha, squareI_flip]; simp [squareV, ha, hb]), b2.alloc b2.size _⟩
end Go.Proofs.Ytimkknljoeiceaa
