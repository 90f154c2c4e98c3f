/-
  Walks for the laws of IsOn.
-/
import Derived.Test.YthepgmpkakmcdaaOn
namespace Go.Proofs.Ythepgmpkakmcdaa
open Go.RowKit

set_option maxHeartbeats 1000000 in
theorem law_on (ax ay bx by' px py : Int) (w : World) : Calls Try.prog 8 #[(.agg #[.int .i64 ax, .int .i64 ay]), (.agg #[.int .i64 bx, .int .i64 by']), (.agg #[.int .i64 px, .int .i64 py])] w fun e w' => e = .returned (.bool true) ∧ Below w.heap.size w w' := by
  go_enter Try.func8, Try.ntmps8
  go_wp2_with fail
  obtain ⟨w1, t1, b1, h1⟩ : ∃ w1, Three w1 w.heap.size ax ay bx by' px py 35 ∧ Below w.heap.size w w1 ∧ w1 = _ := ⟨_, three0 w ax ay bx by' px py 35, below3 w _ _ _, rfl⟩
  rw [← h1]
  clear h1
  have c1 := t1.1.c0; have c2 := t1.1.c1; have c3 := t1.2.1.c0; have c4 := t1.2.1.c1; have c5 := t1.2.2.c0; have c6 := t1.2.2.c1
  have k1 := cell_regrown c1; have k2 := cell_regrown c2; have k3 := cell_regrown c3; have k4 := cell_regrown c4; have k5 := cell_regrown c5; have k6 := cell_regrown c6
  refine wp_region_quiet_below (by kernel_rfl) (by kernel_rfl) ?_
  repeat (first
    | go_big_quiet_step (first | exact Calls.regrown_of (to_any _ _ _) | exact Calls.regrown_of (spec_on _ _ _ _ _ _ _))
    | quiet_step (first | exact Calls.regrown_of (to_any _ _ _) | exact Calls.regrown_of (spec_on _ _ _ _ _ _ _)))
  refine wpQuiet_nil ?_
  rintro _ ⟨⟨dq, osq⟩, rfl⟩
  have b2 := b1.trans ((below_regrown w1 dq osq).mono b1.size)
  have t2 := t1.step (below_regrown w1 dq osq)
  clear k1 k2 k3 k4 k5 k6 c1 c2 c3 c4 c5 c6 t1 b1
  simp only at *
  generalize Go.Sort.grow (redrawn w1 dq) osq = w2 at *
  have c1 := t2.1.c0; have c2 := t2.1.c1; have c3 := t2.2.1.c0; have c4 := t2.2.1.c1; have c5 := t2.2.2.c0; have c6 := t2.2.2.c1
  have k1 := cell_regrown c1; have k2 := cell_regrown c2; have k3 := cell_regrown c3; have k4 := cell_regrown c4; have k5 := cell_regrown c5; have k6 := cell_regrown c6
  go_wp2_with fail
  refine wp_region_quiet_below (by kernel_rfl) (by kernel_rfl) ?_
  repeat (first
    | go_big_quiet_step (first | exact Calls.regrown_of (to_any _ _ _) | exact Calls.regrown_of (impl_on _ _ _ _ _ _ _))
    | quiet_step (first | exact Calls.regrown_of (to_any _ _ _) | exact Calls.regrown_of (impl_on _ _ _ _ _ _ _)))
  refine wpQuiet_nil ?_
  rintro _ ⟨⟨dq, osq⟩, rfl⟩
  have b3 := b2.trans ((below_regrown w2 dq osq).mono b2.size)
  clear k1 k2 k3 k4 k5 k6 c1 c2 c3 c4 c5 c6 t2 b2
  simp only at *
  generalize Go.Sort.grow (redrawn w2 dq) osq = w3 at *
  go_wp2_with fail
  go_ret
  exact ⟨rfl, b3⟩
end Go.Proofs.Ythepgmpkakmcdaa
