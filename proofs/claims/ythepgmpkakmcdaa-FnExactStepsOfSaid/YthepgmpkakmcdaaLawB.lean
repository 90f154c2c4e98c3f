/-
  Walks for the laws of SquareOf, StepsOf.
-/
import Derived.Test.YthepgmpkakmcdaaSteps
namespace Go.Proofs.Ythepgmpkakmcdaa
open Go.RowKit

set_option maxHeartbeats 1000000 in
theorem law_square (ax ay bx by' : Int) (w : World) : Calls Try.prog 7 #[(.agg #[.int .i64 ax, .int .i64 ay]), (.agg #[.int .i64 bx, .int .i64 by'])] w fun e w' => e = .returned (.bool true) ∧ Below w.heap.size w w' := by
  go_enter Try.func7, Try.ntmps7
  go_wp2_with fail
  obtain ⟨w1, t1, b1, h1⟩ : ∃ w1, Two w1 w.heap.size ax ay bx by' 35 ∧ Below w.heap.size w w1 ∧ w1 = _ := ⟨_, two0 w ax ay bx by' 35, below2 w _ _, rfl⟩
  rw [← h1]
  clear h1
  have c1 := t1.1.c0; have c2 := t1.1.c1; have c3 := t1.2.c0; have c4 := t1.2.c1
  have k1 := cell_regrown c1; have k2 := cell_regrown c2; have k3 := cell_regrown c3; have k4 := cell_regrown c4
  refine wp_region_quiet_below (by kernel_rfl) (by kernel_rfl) ?_
  repeat (first
    | go_big_quiet_step (first | exact Calls.regrown_of (to_any _ _ _) | exact Calls.regrown_of (spec_square _ _ _ _ _))
    | quiet_step (first | exact Calls.regrown_of (to_any _ _ _) | exact Calls.regrown_of (spec_square _ _ _ _ _)))
  refine wpQuiet_nil ?_
  rintro _ ⟨⟨dq, osq⟩, rfl⟩
  have b2 := b1.trans ((below_regrown w1 dq osq).mono b1.size)
  have t2 := t1.step (below_regrown w1 dq osq)
  clear k1 k2 k3 k4 c1 c2 c3 c4 t1 b1
  simp only at *
  generalize Go.Sort.grow (redrawn w1 dq) osq = w2 at *
  have c1 := t2.1.c0; have c2 := t2.1.c1; have c3 := t2.2.c0; have c4 := t2.2.c1
  have k1 := cell_regrown c1; have k2 := cell_regrown c2; have k3 := cell_regrown c3; have k4 := cell_regrown c4
  go_wp2_with fail
  refine wp_region_quiet_below (by kernel_rfl) (by kernel_rfl) ?_
  repeat (first
    | go_big_quiet_step (first | exact Calls.regrown_of (to_any _ _ _) | exact Calls.regrown_of (impl_square _ _ _ _ _))
    | quiet_step (first | exact Calls.regrown_of (to_any _ _ _) | exact Calls.regrown_of (impl_square _ _ _ _ _)))
  refine wpQuiet_nil ?_
  rintro _ ⟨⟨dq, osq⟩, rfl⟩
  have b3 := b2.trans ((below_regrown w2 dq osq).mono b2.size)
  clear k1 k2 k3 k4 c1 c2 c3 c4 t2 b2
  simp only at *
  generalize Go.Sort.grow (redrawn w2 dq) osq = w3 at *
  go_wp2_with fail
  go_ret
  exact ⟨rfl, b3⟩
set_option maxHeartbeats 1000000 in
theorem law_steps (ax ay bx by' : Int) (w : World) : Calls Try.prog 9 #[(.agg #[.int .i64 ax, .int .i64 ay]), (.agg #[.int .i64 bx, .int .i64 by'])] w fun e w' => e = .returned (.bool true) ∧ Below w.heap.size w w' := by
  go_enter Try.func9, Try.ntmps9
  go_wp2_with fail
  obtain ⟨w1, t1, b1, h1⟩ : ∃ w1, Two w1 w.heap.size ax ay bx by' 35 ∧ Below w.heap.size w w1 ∧ w1 = _ := ⟨_, two0 w ax ay bx by' 35, below2 w _ _, rfl⟩
  rw [← h1]
  clear h1
  have c1 := t1.1.c0; have c2 := t1.1.c1; have c3 := t1.2.c0; have c4 := t1.2.c1
  have k1 := cell_regrown c1; have k2 := cell_regrown c2; have k3 := cell_regrown c3; have k4 := cell_regrown c4
  refine wp_region_quiet_below (by kernel_rfl) (by kernel_rfl) ?_
  repeat (first
    | go_big_quiet_step (first | exact Calls.regrown_of (to_any _ _ _) | exact Calls.regrown_of (spec_steps _ _ _ _ _))
    | quiet_step (first | exact Calls.regrown_of (to_any _ _ _) | exact Calls.regrown_of (spec_steps _ _ _ _ _)))
  refine wpQuiet_nil ?_
  rintro _ ⟨⟨dq, osq⟩, rfl⟩
  have b2 := b1.trans ((below_regrown w1 dq osq).mono b1.size)
  have t2 := t1.step (below_regrown w1 dq osq)
  clear k1 k2 k3 k4 c1 c2 c3 c4 t1 b1
  simp only at *
  generalize Go.Sort.grow (redrawn w1 dq) osq = w2 at *
  have c1 := t2.1.c0; have c2 := t2.1.c1; have c3 := t2.2.c0; have c4 := t2.2.c1
  have k1 := cell_regrown c1; have k2 := cell_regrown c2; have k3 := cell_regrown c3; have k4 := cell_regrown c4
  go_wp2_with fail
  refine wp_region_quiet_below (by kernel_rfl) (by kernel_rfl) ?_
  repeat (first
    | go_big_quiet_step (first | exact Calls.regrown_of (to_any _ _ _) | exact Calls.regrown_of (impl_steps _ _ _ _ _))
    | quiet_step (first | exact Calls.regrown_of (to_any _ _ _) | exact Calls.regrown_of (impl_steps _ _ _ _ _)))
  refine wpQuiet_nil ?_
  rintro _ ⟨⟨dq, osq⟩, rfl⟩
  have b3 := b2.trans ((below_regrown w2 dq osq).mono b2.size)
  clear k1 k2 k3 k4 c1 c2 c3 c4 t2 b2
  simp only at *
  generalize Go.Sort.grow (redrawn w2 dq) osq = w3 at *
  go_wp2_with fail
  go_ret
  exact ⟨rfl, b3⟩
end Go.Proofs.Ythepgmpkakmcdaa
