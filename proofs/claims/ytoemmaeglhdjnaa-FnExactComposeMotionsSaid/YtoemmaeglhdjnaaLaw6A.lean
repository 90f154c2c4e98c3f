/-
  The laws of ComposeMotions and InverseMotion.
-/
import Derived.Test.YtoemmaeglhdjnaaMotD
namespace Go.Proofs.Ytoemmaeglhdjnaa
open Go.RowKit
theorem ex_composeMotions (a b : Int) (w : World) : Calls Try.prog 7 #[.int .i64 a, .int .i64 b] w fun e w' => e = .returned (.bool true) ∧ Below w.heap.size w w' := by
  have HS := Lib.hid (fun w => spec_comp a b w)
  have HI := Lib.hid (fun w => impl_comp a b w)
  generalize compV a b = r at *
  go_enter Try.func7, Try.ntmps7
  go_wp2_with fail
  refine (HS.out _).mono ?_
  rintro e w1 ⟨rfl, b1⟩
  go_wp2_with fail
  refine (HI.out _).mono ?_
  rintro e w2 ⟨rfl, hb2⟩
  have b2 := below_on b1 hb2
  go_wp2_with fail
  go_ret
  exact ⟨rfl, b2⟩
theorem ex_inverseMotion (a : Int) (w : World) : Calls Try.prog 8 #[.int .i64 a] w fun e w' => e = .returned (.bool true) ∧ Below w.heap.size w w' := by
  have HS := Lib.hid (fun w => spec_inv a w)
  have HI := Lib.hid (fun w => impl_inv a w)
  generalize invV a = r at *
  go_enter Try.func8, Try.ntmps8
  go_wp2_with fail
  refine (HS.out _).mono ?_
  rintro e w1 ⟨rfl, b1⟩
  go_wp2_with fail
  refine (HI.out _).mono ?_
  rintro e w2 ⟨rfl, hb2⟩
  have b2 := below_on b1 hb2
  go_wp2_with fail
  go_ret
  exact ⟨rfl, b2⟩
end Go.Proofs.Ytoemmaeglhdjnaa
