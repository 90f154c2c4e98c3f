/-
  Walks for the laws of PointOk, CrossOf, SideOf, BeforePoint.
-/
import Derived.Test.YthepgmpkakmcdaaSide
namespace Go.Proofs.Ythepgmpkakmcdaa
open Go.RowKit

theorem law_ok (x y : Int) (w : World) : Calls Try.prog 4 #[(.agg #[.int .i64 x, .int .i64 y])] w fun e w' => e = .returned (.bool true) ∧ Below w.heap.size w w' := by
  go_enter Try.func4, Try.ntmps4
  go_wp2_with fail
  refine (to_any _ _ _).mono ?_
  rintro e w1 ⟨rfl, hb1⟩
  have t1 := (at_new w x y 35).step hb1
  have b1 := below_on (below1 w _) hb1
  clear hb1
  go_wp2_with fail
  refine (spec_ok _ _ _).mono ?_
  rintro e w2 ⟨rfl, hb2⟩
  have t2 := t1.step hb2
  have b2 := below_on b1 hb2
  clear hb2 t1 b1
  have c1 := t2.c0; have c2 := t2.c1
  go_wp2_with fail
  refine (to_any _ _ _).mono ?_
  rintro e w3 ⟨rfl, hb3⟩
  have b3 := below_on b2 hb3
  clear hb3 t2 b2 c1 c2
  go_wp2_with fail
  refine (impl_ok _ _ _).mono ?_
  rintro e w4 ⟨rfl, hb4⟩
  have b4 := below_on b3 hb4
  clear hb4 b3
  go_wp2_with fail
  go_ret
  exact ⟨rfl, b4⟩
set_option maxHeartbeats 1000000 in
theorem law_cross (ax ay bx by' px py : Int) (w : World) : Calls Try.prog 5 #[(.agg #[.int .i64 ax, .int .i64 ay]), (.agg #[.int .i64 bx, .int .i64 by']), (.agg #[.int .i64 px, .int .i64 py])] w fun e w' => e = .returned (.bool true) ∧ Below w.heap.size w w' := by
  go_enter Try.func5, Try.ntmps5
  go_wp2_with fail
  obtain ⟨w1, t1, b1, h1⟩ : ∃ w1, Three w1 w.heap.size ax ay bx by' px py 35 ∧ Below w.heap.size w w1 ∧ w1 = _ := ⟨_, three0 w ax ay bx by' px py 35, below3 w _ _ _, rfl⟩
  rw [← h1]
  clear h1
  have c1 := t1.1.c0; have c2 := t1.1.c1; have c3 := t1.2.1.c0; have c4 := t1.2.1.c1; have c5 := t1.2.2.c0; have c6 := t1.2.2.c1
  have k1 := cell_regrown c1; have k2 := cell_regrown c2; have k3 := cell_regrown c3; have k4 := cell_regrown c4; have k5 := cell_regrown c5; have k6 := cell_regrown c6
  refine wp_region_quiet_below (by kernel_rfl) (by kernel_rfl) ?_
  repeat (first
    | go_big_quiet_step (first | exact Calls.regrown_of (to_any _ _ _) | exact Calls.regrown_of (spec_cross _ _ _ _ _ _ _))
    | quiet_step (first | exact Calls.regrown_of (to_any _ _ _) | exact Calls.regrown_of (spec_cross _ _ _ _ _ _ _)))
  refine wpQuiet_nil ?_
  rintro _ ⟨⟨dq, osq⟩, rfl⟩
  have b2 := b1.trans ((below_regrown w1 dq osq).mono b1.size)
  have t2 := t1.step (below_regrown w1 dq osq)
  clear k1 k2 k3 k4 k5 k6 c1 c2 c3 c4 c5 c6 t1 b1
  simp only at *
  generalize Go.Sort.grow (redrawn w1 dq) osq = w2 at *
  have c1 := t2.1.c0; have c2 := t2.1.c1; have c3 := t2.2.1.c0; have c4 := t2.2.1.c1; have c5 := t2.2.2.c0; have c6 := t2.2.2.c1
  have k1 := cell_regrown c1; have k2 := cell_regrown c2; have k3 := cell_regrown c3; have k4 := cell_regrown c4; have k5 := cell_regrown c5; have k6 := cell_regrown c6
  go_wp2_with fail
  refine wp_region_quiet_below (by kernel_rfl) (by kernel_rfl) ?_
  repeat (first
    | go_big_quiet_step (first | exact Calls.regrown_of (to_any _ _ _) | exact Calls.regrown_of (impl_cross _ _ _ _ _ _ _))
    | quiet_step (first | exact Calls.regrown_of (to_any _ _ _) | exact Calls.regrown_of (impl_cross _ _ _ _ _ _ _)))
  refine wpQuiet_nil ?_
  rintro _ ⟨⟨dq, osq⟩, rfl⟩
  have b3 := b2.trans ((below_regrown w2 dq osq).mono b2.size)
  clear k1 k2 k3 k4 k5 k6 c1 c2 c3 c4 c5 c6 t2 b2
  simp only at *
  generalize Go.Sort.grow (redrawn w2 dq) osq = w3 at *
  go_wp2_with fail
  go_ret
  exact ⟨rfl, b3⟩
set_option maxHeartbeats 1000000 in
theorem law_side (ax ay bx by' px py : Int) (w : World) : Calls Try.prog 6 #[(.agg #[.int .i64 ax, .int .i64 ay]), (.agg #[.int .i64 bx, .int .i64 by']), (.agg #[.int .i64 px, .int .i64 py])] w fun e w' => e = .returned (.bool true) ∧ Below w.heap.size w w' := by
  go_enter Try.func6, Try.ntmps6
  go_wp2_with fail
  obtain ⟨w1, t1, b1, h1⟩ : ∃ w1, Three w1 w.heap.size ax ay bx by' px py 35 ∧ Below w.heap.size w w1 ∧ w1 = _ := ⟨_, three0 w ax ay bx by' px py 35, below3 w _ _ _, rfl⟩
  rw [← h1]
  clear h1
  have c1 := t1.1.c0; have c2 := t1.1.c1; have c3 := t1.2.1.c0; have c4 := t1.2.1.c1; have c5 := t1.2.2.c0; have c6 := t1.2.2.c1
  have k1 := cell_regrown c1; have k2 := cell_regrown c2; have k3 := cell_regrown c3; have k4 := cell_regrown c4; have k5 := cell_regrown c5; have k6 := cell_regrown c6
  refine wp_region_quiet_below (by kernel_rfl) (by kernel_rfl) ?_
  repeat (first
    | go_big_quiet_step (first | exact Calls.regrown_of (to_any _ _ _) | exact Calls.regrown_of (spec_side _ _ _ _ _ _ _))
    | quiet_step (first | exact Calls.regrown_of (to_any _ _ _) | exact Calls.regrown_of (spec_side _ _ _ _ _ _ _)))
  refine wpQuiet_nil ?_
  rintro _ ⟨⟨dq, osq⟩, rfl⟩
  have b2 := b1.trans ((below_regrown w1 dq osq).mono b1.size)
  have t2 := t1.step (below_regrown w1 dq osq)
  clear k1 k2 k3 k4 k5 k6 c1 c2 c3 c4 c5 c6 t1 b1
  simp only at *
  generalize Go.Sort.grow (redrawn w1 dq) osq = w2 at *
  have c1 := t2.1.c0; have c2 := t2.1.c1; have c3 := t2.2.1.c0; have c4 := t2.2.1.c1; have c5 := t2.2.2.c0; have c6 := t2.2.2.c1
  have k1 := cell_regrown c1; have k2 := cell_regrown c2; have k3 := cell_regrown c3; have k4 := cell_regrown c4; have k5 := cell_regrown c5; have k6 := cell_regrown c6
  go_wp2_with fail
  refine wp_region_quiet_below (by kernel_rfl) (by kernel_rfl) ?_
  repeat (first
    | go_big_quiet_step (first | exact Calls.regrown_of (to_any _ _ _) | exact Calls.regrown_of (impl_side _ _ _ _ _ _ _))
    | quiet_step (first | exact Calls.regrown_of (to_any _ _ _) | exact Calls.regrown_of (impl_side _ _ _ _ _ _ _)))
  refine wpQuiet_nil ?_
  rintro _ ⟨⟨dq, osq⟩, rfl⟩
  have b3 := b2.trans ((below_regrown w2 dq osq).mono b2.size)
  clear k1 k2 k3 k4 k5 k6 c1 c2 c3 c4 c5 c6 t2 b2
  simp only at *
  generalize Go.Sort.grow (redrawn w2 dq) osq = w3 at *
  go_wp2_with fail
  go_ret
  exact ⟨rfl, b3⟩
set_option maxHeartbeats 1000000 in
theorem law_before (ax ay bx by' : Int) (w : World) : Calls Try.prog 12 #[(.agg #[.int .i64 ax, .int .i64 ay]), (.agg #[.int .i64 bx, .int .i64 by'])] w fun e w' => e = .returned (.bool true) ∧ Below w.heap.size w w' := by
  go_enter Try.func12, Try.ntmps12
  go_wp2_with fail
  obtain ⟨w1, t1, b1, h1⟩ : ∃ w1, Two w1 w.heap.size ax ay bx by' 35 ∧ Below w.heap.size w w1 ∧ w1 = _ := ⟨_, two0 w ax ay bx by' 35, below2 w _ _, rfl⟩
  rw [← h1]
  clear h1
  have c1 := t1.1.c0; have c2 := t1.1.c1; have c3 := t1.2.c0; have c4 := t1.2.c1
  have k1 := cell_regrown c1; have k2 := cell_regrown c2; have k3 := cell_regrown c3; have k4 := cell_regrown c4
  refine wp_region_quiet_below (by kernel_rfl) (by kernel_rfl) ?_
  repeat (first
    | go_big_quiet_step (first | exact Calls.regrown_of (to_any _ _ _) | exact Calls.regrown_of (spec_before _ _ _ _ _))
    | quiet_step (first | exact Calls.regrown_of (to_any _ _ _) | exact Calls.regrown_of (spec_before _ _ _ _ _)))
  refine wpQuiet_nil ?_
  rintro _ ⟨⟨dq, osq⟩, rfl⟩
  have b2 := b1.trans ((below_regrown w1 dq osq).mono b1.size)
  have t2 := t1.step (below_regrown w1 dq osq)
  clear k1 k2 k3 k4 c1 c2 c3 c4 t1 b1
  simp only at *
  generalize Go.Sort.grow (redrawn w1 dq) osq = w2 at *
  have c1 := t2.1.c0; have c2 := t2.1.c1; have c3 := t2.2.c0; have c4 := t2.2.c1
  have k1 := cell_regrown c1; have k2 := cell_regrown c2; have k3 := cell_regrown c3; have k4 := cell_regrown c4
  go_wp2_with fail
  refine wp_region_quiet_below (by kernel_rfl) (by kernel_rfl) ?_
  repeat (first
    | go_big_quiet_step (first | exact Calls.regrown_of (to_any _ _ _) | exact Calls.regrown_of (impl_before _ _ _ _ _))
    | quiet_step (first | exact Calls.regrown_of (to_any _ _ _) | exact Calls.regrown_of (impl_before _ _ _ _ _)))
  refine wpQuiet_nil ?_
  rintro _ ⟨⟨dq, osq⟩, rfl⟩
  have b3 := b2.trans ((below_regrown w2 dq osq).mono b2.size)
  clear k1 k2 k3 k4 c1 c2 c3 c4 t2 b2
  simp only at *
  generalize Go.Sort.grow (redrawn w2 dq) osq = w3 at *
  go_wp2_with fail
  go_ret
  exact ⟨rfl, b3⟩
end Go.Proofs.Ythepgmpkakmcdaa
