/-
  Walks for isInBox, l02On, IsOn of both programs.
-/
import Derived.Test.YtimkknljoeiceaaSide
namespace Go.Proofs.Ytimkknljoeiceaa
open Go.RowKit

/-- p lies in the box of a and b. -/
def boxB (ax ay bx by' px py : Int) : Bool := inB px (min ax bx) (max ax bx) && inB py (min ay by') (max ay by')
theorem mm (a b : Int) : ∃ m M, min a b = m ∧ max a b = M ∧ ((a < b ∧ m = a ∧ M = b) ∨ (a = b ∧ m = a ∧ M = a) ∨ (b < a ∧ m = b ∧ M = a)) := ⟨_, _, rfl, rfl, by omega⟩
set_option maxRecDepth 100000 in
set_option maxHeartbeats 2000000 in
theorem box_any (px py ax ay bx by' : Int) (w : World) :
    Calls Try.prog 156 #[(.agg #[.int .i64 px, .int .i64 py]), (.agg #[.int .i64 ax, .int .i64 ay]), (.agg #[.int .i64 bx, .int .i64 by'])] w fun e w' => e = .returned (.bool (boxB ax ay bx by' px py)) ∧ Below w.heap.size w w' := by
  obtain ⟨m1, m2, e1, e2, hx⟩ := mm ax bx
  obtain ⟨m3, m4, e3, e4, hy⟩ := mm ay by'
  unfold boxB
  rw [e1, e2, e3, e4]
  clear e1 e2 e3 e4
  cases h : inB px m1 m2
  · rcases hx with ⟨hx, rfl, rfl⟩ | ⟨rfl, rfl, rfl⟩ | ⟨hx, rfl, rfl⟩
    all_goals (
      clear hy
      go_enter Try.func156, Try.ntmps156
      go_wp2_with fail
      refine (from_any _ _ _ _).mono ?_
      rintro e w1 ⟨rfl, rfl⟩
      go_wp2_with fail
      go_ret
      exact ⟨ret_bool (by simp only [Bool.false_and]), below3 _ _ _ _⟩)
  · rcases hx with ⟨hx, rfl, rfl⟩ | ⟨rfl, rfl, rfl⟩ | ⟨hx, rfl, rfl⟩ <;> rcases hy with ⟨hy, rfl, rfl⟩ | ⟨rfl, rfl, rfl⟩ | ⟨hy, rfl, rfl⟩
    all_goals (
      go_enter Try.func156, Try.ntmps156
      go_wp2_with fail
      refine (from_any _ _ _ _).mono ?_
      rintro e w1 ⟨rfl, rfl⟩
      go_wp2_with fail
      refine (from_any _ _ _ _).mono ?_
      rintro e w1 ⟨rfl, rfl⟩
      go_wp2_with fail
      go_ret
      exact ⟨ret_bool (by simp only [Bool.true_and]), below3 _ _ _ _⟩)
/-- p lies on the segment from a to b (all points good). -/
def onI (ax ay bx by' px py : Int) : Bool := (crossI ax ay bx by' px py == 0) && boxB ax ay bx by' px py
set_option maxRecDepth 100000 in
set_option maxHeartbeats 4000000 in
theorem on_sm (ax ay bx by' px py : Int) (w : World) (ha : smP ax ay = true) (hb : smP bx by' = true) (hp : smP px py = true) :
    Calls Try.prog 168 #[(.agg #[.int .i64 ax, .int .i64 ay]), (.agg #[.int .i64 bx, .int .i64 by']), (.agg #[.int .i64 px, .int .i64 py])] w fun e w' => e = .returned (.bool (onI ax ay bx by' px py)) ∧ Below w.heap.size w w' := by
  have hC := fun w => crossS_any ax ay bx by' px py w
  rw [cross_wrap_sm ha hb hp] at hC
  unfold onI boxB
  obtain ⟨z, hz⟩ : ∃ z, z = crossI ax ay bx by' px py := ⟨_, rfl⟩
  rw [← hz] at hC ⊢
  have HC := Lib.hid hC; clear hC
  clear ha hb hp hz
  obtain ⟨m1, m2, e1, e2, hx⟩ := mm ax bx
  obtain ⟨m3, m4, e3, e4, hy⟩ := mm ay by'
  rw [e1, e2, e3, e4]
  clear e1 e2 e3 e4
  have hbx : ((z == 0) && (inB px m1 m2 && inB py m3 m4)) = ((z == 0) && (((decide (m1 ≤ px) && decide (px ≤ m2)) && decide (m3 ≤ py)) && decide (py ≤ m4))) := by simp only [inB, Bool.and_assoc]
  rw [hbx]
  clear hbx
  cases h0 : (z == 0)
  · clear hx hy
    go_enter Try.func168, Try.ntmps168
    go_wp2_with fail
    refine (HC.out _).mono ?_
    rintro e w1 ⟨rfl, hb1⟩
    have t1 := (three0 w _ _ _ _ _ _ 54).step hb1
    have b1 := below_on (below3 w _ _ _) hb1
    clear hb1
    have c1 := t1.1.c0; have c2 := t1.1.c1; have c3 := t1.2.1.c0; have c4 := t1.2.1.c1; have c5 := t1.2.2.c0; have c6 := t1.2.2.c1
    clear t1
    go_wp2_with fail
    go_ret
    exact ⟨ret_bool (by simp only [Bool.false_and]), b1⟩
  cases h1 : decide (m1 ≤ px)
  · rcases hx with ⟨hx, rfl, rfl⟩ | ⟨rfl, rfl, rfl⟩ | ⟨hx, rfl, rfl⟩
    all_goals (
      clear hy
      (go_enter Try.func168, Try.ntmps168
       go_wp2_with fail
       refine (HC.out _).mono ?_
       rintro e w1 ⟨rfl, hb1⟩
       have t1 := (three0 w _ _ _ _ _ _ 54).step hb1
       have b1 := below_on (below3 w _ _ _) hb1
       clear hb1
       have c1 := t1.1.c0; have c2 := t1.1.c1; have c3 := t1.2.1.c0; have c4 := t1.2.1.c1; have c5 := t1.2.2.c0; have c6 := t1.2.2.c1
       clear t1
       go_wp2_with fail
       go_ret
       exact ⟨ret_bool (by simp only [Bool.false_and, Bool.and_false]), b1⟩))
  cases h2 : decide (px ≤ m2)
  · rcases hx with ⟨hx, rfl, rfl⟩ | ⟨rfl, rfl, rfl⟩ | ⟨hx, rfl, rfl⟩
    all_goals (
      clear hy
      (go_enter Try.func168, Try.ntmps168
       go_wp2_with fail
       refine (HC.out _).mono ?_
       rintro e w1 ⟨rfl, hb1⟩
       have t1 := (three0 w _ _ _ _ _ _ 54).step hb1
       have b1 := below_on (below3 w _ _ _) hb1
       clear hb1
       have c1 := t1.1.c0; have c2 := t1.1.c1; have c3 := t1.2.1.c0; have c4 := t1.2.1.c1; have c5 := t1.2.2.c0; have c6 := t1.2.2.c1
       clear t1
       go_wp2_with fail
       go_ret
       exact ⟨ret_bool (by simp only [Bool.false_and, Bool.and_false]), b1⟩))
  cases h3 : decide (m3 ≤ py)
  · rcases hx with ⟨hx, rfl, rfl⟩ | ⟨rfl, rfl, rfl⟩ | ⟨hx, rfl, rfl⟩ <;> rcases hy with ⟨hy, rfl, rfl⟩ | ⟨rfl, rfl, rfl⟩ | ⟨hy, rfl, rfl⟩
    all_goals
      (go_enter Try.func168, Try.ntmps168
       go_wp2_with fail
       refine (HC.out _).mono ?_
       rintro e w1 ⟨rfl, hb1⟩
       have t1 := (three0 w _ _ _ _ _ _ 54).step hb1
       have b1 := below_on (below3 w _ _ _) hb1
       clear hb1
       have c1 := t1.1.c0; have c2 := t1.1.c1; have c3 := t1.2.1.c0; have c4 := t1.2.1.c1; have c5 := t1.2.2.c0; have c6 := t1.2.2.c1
       clear t1
       go_wp2_with fail
       go_ret
       exact ⟨ret_bool (by simp only [Bool.false_and, Bool.and_false, Bool.true_and]), b1⟩)
  rcases hx with ⟨hx, rfl, rfl⟩ | ⟨rfl, rfl, rfl⟩ | ⟨hx, rfl, rfl⟩ <;> rcases hy with ⟨hy, rfl, rfl⟩ | ⟨rfl, rfl, rfl⟩ | ⟨hy, rfl, rfl⟩
  all_goals
      (go_enter Try.func168, Try.ntmps168
       go_wp2_with fail
       refine (HC.out _).mono ?_
       rintro e w1 ⟨rfl, hb1⟩
       have t1 := (three0 w _ _ _ _ _ _ 54).step hb1
       have b1 := below_on (below3 w _ _ _) hb1
       clear hb1
       have c1 := t1.1.c0; have c2 := t1.1.c1; have c3 := t1.2.1.c0; have c4 := t1.2.1.c1; have c5 := t1.2.2.c0; have c6 := t1.2.2.c1
       clear t1
       go_wp2_with fail
       go_ret
       exact ⟨ret_bool (by simp only [Bool.true_and]), b1⟩)
theorem on_any (ax ay bx by' px py : Int) (w : World) (ha : okP ax ay = true) (hb : okP bx by' = true) (hp : okP px py = true) :
    Calls Try.prog 168 #[(.agg #[.int .i64 ax, .int .i64 ay]), (.agg #[.int .i64 bx, .int .i64 by']), (.agg #[.int .i64 px, .int .i64 py])] w fun e w' => e = .returned (.bool (onI ax ay bx by' px py)) ∧ Below w.heap.size w w' := on_sm ax ay bx by' px py w (smP_ok ha) (smP_ok hb) (smP_ok hp)
def onV (ax ay bx by' px py : Int) : Bool := okP ax ay && okP bx by' && okP px py && onI ax ay bx by' px py
set_option maxRecDepth 100000 in
set_option maxHeartbeats 400000 in
theorem impl_on (ax ay bx by' px py : Int) (w : World) :
    Calls Try.prog 111 #[(.agg #[.int .i64 ax, .int .i64 ay]), (.agg #[.int .i64 bx, .int .i64 by']), (.agg #[.int .i64 px, .int .i64 py])] w fun e w' => e = .returned (.bool (onV ax ay bx by' px py)) ∧ Below w.heap.size w w' := by
  have HP := Lib.hid (pts3 w ax ay bx by' px py)
  go_enter Try.func111, Try.ntmps111
  go_wp2_with fail
  refine (all_any _ _ [(ax, ay), (bx, by'), (px, py)] _ HP.out (by simp) (by simp)).mono ?_
  rintro e w1 ⟨rfl, hb1⟩
  have t1 := ((three0 w ax ay bx by' px py 54).alloc _).step hb1
  have b1 := below_on (below4 w _ _ _ _) hb1
  clear hb1 HP
  have HO := Lib.hid (all3 ax ay bx by' px py)
  cases hok : allOk [(ax, ay), (bx, by'), (px, py)]
  · go_wp2_with fail
    go_ret
    exact ⟨ret_bool (by rw [onV, ← HO.out, hok, Bool.false_and]), b1⟩
  have hok2 := HO.out.symm
  rw [hok] at hok2
  simp only [Bool.and_eq_true] at hok2
  obtain ⟨⟨ha, hb⟩, hp⟩ := hok2
  have c1 := t1.1.c0; have c2 := t1.1.c1; have c3 := t1.2.1.c0; have c4 := t1.2.1.c1; have c5 := t1.2.2.c0; have c6 := t1.2.2.c1
  go_wp2_with fail
  refine (impl_cross _ _ _ _ _ _ _).mono ?_
  rintro e w2 ⟨rfl, hb2⟩
  have t2 := t1.step hb2
  have b2 := below_on b1 hb2
  clear hb2 t1 b1 c1 c2 c3 c4 c5 c6
  have hcv : crossV ax ay bx by' px py = crossI ax ay bx by' px py := by rw [crossV, ha, hb, hp]; rfl
  rw [hcv]
  have HA := Lib.hid ha; have HB := Lib.hid hb; have HQ := Lib.hid hp
  clear ha hb hp
  cases hz : (crossI ax ay bx by' px py == 0)
  · go_wp2_with fail
    go_ret
    exact ⟨ret_bool (by simp only [onV, onI, hz, Bool.false_and, Bool.and_false]), b2⟩
  have c1 := t2.1.c0; have c2 := t2.1.c1; have c3 := t2.2.1.c0; have c4 := t2.2.1.c1; have c5 := t2.2.2.c0; have c6 := t2.2.2.c1
  go_wp2_with fail
  refine (box_any _ _ _ _ _ _ _).mono ?_
  rintro e w3 ⟨rfl, hb3⟩
  have b3 := below_on b2 hb3
  clear hb3 t2 b2 c1 c2 c3 c4 c5 c6
  go_wp2_with fail
  go_ret
  exact ⟨ret_bool (by rw [onV, ← HO.out, hok, onI, hz, Bool.true_and, Bool.true_and]), b3⟩
end Go.Proofs.Ytimkknljoeiceaa
