/-
  Walks for HowMeet of the model and its law.
-/
import Derived.Test.YthepgmpkakmcdaaMeet
namespace Go.Proofs.Ythepgmpkakmcdaa
open Go.RowKit

set_option maxHeartbeats 2000000 in
theorem spec_meet (ax ay bx by' cx cy dx dy : Int) (w : World) :
    Calls Try.prog 34 #[(.agg #[.int .i64 ax, .int .i64 ay]), (.agg #[.int .i64 bx, .int .i64 by']), (.agg #[.int .i64 cx, .int .i64 cy]), (.agg #[.int .i64 dx, .int .i64 dy])] w fun e w' => e = .returned (.int .i64 (meetV (ax, ay) (bx, by') (cx, cy) (dx, dy))) ∧ Below w.heap.size w w' := by
  have GP := guard_pt
  have EP := fun w x y x' y' => eql_pt w x y x' y'
  have HV : Hid (meetV (ax, ay) (bx, by') (cx, cy) (dx, dy) = bif okP ax ay && okP bx by' && okP cx cy && okP dx dy && !(ax == bx && ay == by') && !(cx == dx && cy == dy) then meetI (ax, ay) (bx, by') (cx, cy) (dx, dy) else 0) := rfl
  go_enter Try.func34, Try.ntmps34
  go_wp2_with fail
  refine (spec_ok _ _ _).mono ?_
  rintro e w1 ⟨rfl, hb1⟩
  have t1 := (four0 w ax ay bx by' cx cy dx dy 24).step hb1
  have b1 := below_on (below4 w _ _ _ _) hb1
  clear hb1
  cases ha : okP ax ay
  · go_wp2_with fail
    go_ret
    exact ⟨ret_int (by rw [HV.out, ha]; simp), b1⟩
  have c1 := t1.1.c0; have c2 := t1.1.c1; have c3 := t1.2.1.c0; have c4 := t1.2.1.c1; have c5 := t1.2.2.1.c0; have c6 := t1.2.2.1.c1; have c7 := t1.2.2.2.c0; have c8 := t1.2.2.2.c1
  go_wp2_with fail
  refine (spec_ok _ _ _).mono ?_
  rintro e w2 ⟨rfl, hb2⟩
  have t2 := t1.step hb2
  have b2 := below_on b1 hb2
  clear hb2 t1 b1
  clear c1 c2 c3 c4 c5 c6 c7 c8
  cases hb : okP bx by'
  · go_wp2_with fail
    go_ret
    exact ⟨ret_int (by rw [HV.out, ha, hb]; simp), b2⟩
  have c1 := t2.1.c0; have c2 := t2.1.c1; have c3 := t2.2.1.c0; have c4 := t2.2.1.c1; have c5 := t2.2.2.1.c0; have c6 := t2.2.2.1.c1; have c7 := t2.2.2.2.c0; have c8 := t2.2.2.2.c1
  go_wp2_with fail
  refine (spec_ok _ _ _).mono ?_
  rintro e w3 ⟨rfl, hb3⟩
  have t3 := t2.step hb3
  have b3 := below_on b2 hb3
  clear hb3 t2 b2
  clear c1 c2 c3 c4 c5 c6 c7 c8
  cases hc : okP cx cy
  · go_wp2_with fail
    go_ret
    exact ⟨ret_int (by rw [HV.out, ha, hb, hc]; simp), b3⟩
  have c1 := t3.1.c0; have c2 := t3.1.c1; have c3 := t3.2.1.c0; have c4 := t3.2.1.c1; have c5 := t3.2.2.1.c0; have c6 := t3.2.2.1.c1; have c7 := t3.2.2.2.c0; have c8 := t3.2.2.2.c1
  go_wp2_with fail
  refine (spec_ok _ _ _).mono ?_
  rintro e w4 ⟨rfl, hb4⟩
  have t4 := t3.step hb4
  have b4 := below_on b3 hb4
  clear hb4 t3 b3
  clear c1 c2 c3 c4 c5 c6 c7 c8
  cases hd : okP dx dy
  · go_wp2_with fail
    go_ret
    exact ⟨ret_int (by rw [HV.out, ha, hb, hc, hd]; simp), b4⟩
  have c1 := t4.1.c0; have c2 := t4.1.c1; have c3 := t4.2.1.c0; have c4 := t4.2.1.c1; have c5 := t4.2.2.1.c0; have c6 := t4.2.2.1.c1; have c7 := t4.2.2.2.c0; have c8 := t4.2.2.2.c1
  cases hab : (ax == bx && ay == by')
  case true =>
    go_wp2_with fail
    go_ret
    exact ⟨ret_int (by rw [HV.out, hab]; simp), b4⟩
  cases hcd : (cx == dx && cy == dy)
  case true =>
    go_wp2_with fail
    go_ret
    exact ⟨ret_int (by rw [HV.out, hcd]; simp), b4⟩
  have HR : Hid (meetV (ax, ay) (bx, by') (cx, cy) (dx, dy) = meetI (ax, ay) (bx, by') (cx, cy) (dx, dy)) := by
    show _ = _
    rw [HV.out, ha, hb, hc, hd, hab, hcd]; rfl
  have HM := Lib.hid (fun w => meet_any ax ay bx by' cx cy dx dy w ha hb hc hd)
  go_wp2_with fail
  refine (HM.out _).mono ?_
  rintro e w5 ⟨rfl, hb5⟩
  have b5 := below_on b4 hb5
  clear hb5 t4 b4
  clear c1 c2 c3 c4 c5 c6 c7 c8
  go_wp2_with fail
  go_ret
  exact ⟨ret_int HR.out.symm, b5⟩
set_option maxHeartbeats 2000000 in
theorem law_meet (ax ay bx by' cx cy dx dy : Int) (w : World) : Calls Try.prog 11 #[(.agg #[.int .i64 ax, .int .i64 ay]), (.agg #[.int .i64 bx, .int .i64 by']), (.agg #[.int .i64 cx, .int .i64 cy]), (.agg #[.int .i64 dx, .int .i64 dy])] w fun e w' => e = .returned (.bool true) ∧ Below w.heap.size w w' := by
  go_enter Try.func11, Try.ntmps11
  go_wp2_with fail
  obtain ⟨w1, t1, b1, h1⟩ : ∃ w1, Four w1 w.heap.size ax ay bx by' cx cy dx dy 35 ∧ Below w.heap.size w w1 ∧ w1 = _ := ⟨_, four0 w ax ay bx by' cx cy dx dy 35, below4 w _ _ _ _, rfl⟩
  rw [← h1]
  clear h1
  have c1 := t1.1.c0; have c2 := t1.1.c1; have c3 := t1.2.1.c0; have c4 := t1.2.1.c1; have c5 := t1.2.2.1.c0; have c6 := t1.2.2.1.c1; have c7 := t1.2.2.2.c0; have c8 := t1.2.2.2.c1
  have k1 := cell_regrown c1; have k2 := cell_regrown c2; have k3 := cell_regrown c3; have k4 := cell_regrown c4; have k5 := cell_regrown c5; have k6 := cell_regrown c6; have k7 := cell_regrown c7; have k8 := cell_regrown c8
  refine wp_region_quiet_below (by kernel_rfl) (by kernel_rfl) ?_
  repeat (first
    | go_big_quiet_step (first | exact Calls.regrown_of (to_any _ _ _) | exact Calls.regrown_of (spec_meet _ _ _ _ _ _ _ _ _))
    | quiet_step (first | exact Calls.regrown_of (to_any _ _ _) | exact Calls.regrown_of (spec_meet _ _ _ _ _ _ _ _ _)))
  refine wpQuiet_nil ?_
  rintro _ ⟨⟨dq, osq⟩, rfl⟩
  have b2 := b1.trans ((below_regrown w1 dq osq).mono b1.size)
  have t2 := t1.step (below_regrown w1 dq osq)
  clear k1 k2 k3 k4 k5 k6 k7 k8 c1 c2 c3 c4 c5 c6 c7 c8 t1 b1
  simp only at *
  generalize Go.Sort.grow (redrawn w1 dq) osq = w2 at *
  have c1 := t2.1.c0; have c2 := t2.1.c1; have c3 := t2.2.1.c0; have c4 := t2.2.1.c1; have c5 := t2.2.2.1.c0; have c6 := t2.2.2.1.c1; have c7 := t2.2.2.2.c0; have c8 := t2.2.2.2.c1
  have k1 := cell_regrown c1; have k2 := cell_regrown c2; have k3 := cell_regrown c3; have k4 := cell_regrown c4; have k5 := cell_regrown c5; have k6 := cell_regrown c6; have k7 := cell_regrown c7; have k8 := cell_regrown c8
  go_wp2_with fail
  refine wp_region_quiet_below (by kernel_rfl) (by kernel_rfl) ?_
  repeat (first
    | go_big_quiet_step (first | exact Calls.regrown_of (to_any _ _ _) | exact Calls.regrown_of (impl_meet _ _ _ _ _ _ _ _ _))
    | quiet_step (first | exact Calls.regrown_of (to_any _ _ _) | exact Calls.regrown_of (impl_meet _ _ _ _ _ _ _ _ _)))
  refine wpQuiet_nil ?_
  rintro _ ⟨⟨dq, osq⟩, rfl⟩
  have b3 := b2.trans ((below_regrown w2 dq osq).mono b2.size)
  clear k1 k2 k3 k4 k5 k6 k7 k8 c1 c2 c3 c4 c5 c6 c7 c8 t2 b2
  simp only at *
  generalize Go.Sort.grow (redrawn w2 dq) osq = w3 at *
  go_wp2_with fail
  go_ret
  exact ⟨rfl, b3⟩
end Go.Proofs.Ythepgmpkakmcdaa
