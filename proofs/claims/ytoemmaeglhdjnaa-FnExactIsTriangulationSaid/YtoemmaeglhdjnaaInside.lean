/-
  A walk for IsInside of the program.
-/
import Derived.Test.YtoemmaeglhdjnaaAround
import Derived.Test.YtoemmaeglhdjnaaIn
namespace Go.Proofs.Ytoemmaeglhdjnaa
open Go.RowKit Go.Shelf Go.Sort
attribute [local go_sem] Oper.semAt_some

def onQ (a b p : Int × Int) : Bool := onV a.1 a.2 b.1 b.2 p.1 p.2
theorem onQ_ok {a b p : Int × Int} (ha : okP a.1 a.2 = true) (hb : okP b.1 b.2 = true) (hp : okP p.1 p.2 = true) : onQ a b p = onP a b p := by
  unfold onQ onV onP
  rw [ha, hb, hp]; rfl
theorem crossV_ok {ax ay bx by' px py : Int} (ha : okP ax ay = true) (hb : okP bx by' = true) (hp : okP px py = true) : crossV ax ay bx by' px py = crossI ax ay bx by' px py := by
  unfold crossV
  rw [ha, hb, hp]; rfl
theorem on_pt (a b p : Int × Int) (w : World) :
    Calls Try.prog 111 #[(.agg #[.int .i64 a.1, .int .i64 a.2]), (.agg #[.int .i64 b.1, .int .i64 b.2]), (.agg #[.int .i64 p.1, .int .i64 p.2])] w fun e w' => e = .returned (.bool (onQ a b p)) ∧ Below w.heap.size w w' := impl_on a.1 a.2 b.1 b.2 p.1 p.2 w
end Go.Proofs.Ytoemmaeglhdjnaa
