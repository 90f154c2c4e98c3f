/-
  comparePoints: the order of points, by value and by walk.
-/
import Derived.Test.YtbmeemmihkedoaaClone
namespace Go.Proofs.Ytbmeemmihkedoaa
open Go.RowKit

def befP (a b : Int × Int) : Bool := beforeB a.1 a.2 b.1 b.2
def cmpI (a b : Int × Int) : Int := bif befP a b then -1 else bif befP b a then 1 else 0
theorem befP_iff (a b : Int × Int) : befP a b = true ↔ a.2 < b.2 ∨ (a.2 = b.2 ∧ a.1 < b.1) := by
  simp [befP, beforeB]
theorem befP_no (a b : Int × Int) : befP a b = false ↔ ¬ (a.2 < b.2 ∨ (a.2 = b.2 ∧ a.1 < b.1)) := by
  rw [← befP_iff, Bool.not_eq_true]
theorem bef_grow (ax ay bx by' : Int) (w : World) :
    Calls Try.prog 59 #[(.agg #[.int .i64 ax, .int .i64 ay]), (.agg #[.int .i64 bx, .int .i64 by'])] w fun e w' => e = .returned (.bool (beforeB ax ay bx by')) ∧ ∃ os, w' = Go.Sort.grow w os := by
  cases h1 : decide (ay < by')
  · cases h2 : (ay == by')
    · go_enter Try.func59, Try.ntmps59
      go_wp2_with fail
      go_ret
      exact ⟨ret_bool (by simp only [beforeB, h1, h2]; rfl), _, by rw [Go.Sort.alloc_eq_grow, Go.Sort.alloc_eq_grow, Go.Sort.grow_grow]⟩
    · go_enter Try.func59, Try.ntmps59
      go_wp2_with fail
      go_ret
      exact ⟨ret_bool (by simp only [beforeB, h1, h2, Bool.false_or, Bool.true_and]), _, by rw [Go.Sort.alloc_eq_grow, Go.Sort.alloc_eq_grow, Go.Sort.grow_grow]⟩
  · go_enter Try.func59, Try.ntmps59
    go_wp2_with fail
    go_ret
    exact ⟨ret_bool (by simp only [beforeB, h1]; rfl), _, by rw [Go.Sort.alloc_eq_grow, Go.Sort.alloc_eq_grow, Go.Sort.grow_grow]⟩
theorem below_grow (w : World) (os : Array Obj) : Below w.heap.size w (Go.Sort.grow w os) := below_regrown w w.drawn os
theorem two_grow (w : World) (o p : Obj) (os : Array Obj) : Go.Sort.grow ((w.alloc o).alloc p) os = Go.Sort.grow w (#[o] ++ #[p] ++ os) := by
  rw [Go.Sort.alloc_eq_grow, Go.Sort.alloc_eq_grow, Go.Sort.grow_grow, Go.Sort.grow_grow, Array.append_assoc]
theorem cmp_any (ax ay bx by' : Int) (w : World) :
    Calls Try.prog 138 #[(.agg #[.int .i64 ax, .int .i64 ay]), (.agg #[.int .i64 bx, .int .i64 by'])] w fun e w' => e = .returned (.int .i64 (cmpI (ax, ay) (bx, by'))) ∧ ∃ os, w' = Go.Sort.grow w os := by
  have hb0 := two_grow w (.cells #[.int .i64 ax, .int .i64 ay] 27) (.cells #[.int .i64 bx, .int .i64 by'] 27)
  have t0 := two0 w ax ay bx by' 27
  have c1 := t0.1.c0; have c2 := t0.1.c1; have c3 := t0.2.c0; have c4 := t0.2.c1
  have HV : Hid (cmpI (ax, ay) (bx, by') = bif beforeB ax ay bx by' then -1 else bif beforeB bx by' ax ay then 1 else 0) := rfl
  have HT := Lib.hid t0
  have HG := Lib.hid hb0
  clear hb0 t0
  cases h1 : beforeB ax ay bx by'
  · have H1 := Lib.hid (fun w => bef_grow ax ay bx by' w)
    rw [h1] at H1 HV
    go_enter Try.func138, Try.ntmps138
    go_wp2_with fail
    refine (H1.out _).mono ?_
    rintro e w1 ⟨rfl, os1, rfl⟩
    have t1 := HT.out.step (below_grow _ os1)
    have d1 := t1.1.c0; have d2 := t1.1.c1; have d3 := t1.2.c0; have d4 := t1.2.c1
    rw [HG.out] at d1 d2 d3 d4 ⊢
    clear c1 c2 c3 c4 t1
    generalize #[Obj.cells #[.int .i64 ax, .int .i64 ay] 27] ++ #[Obj.cells #[.int .i64 bx, .int .i64 by'] 27] ++ os1 = os2 at *
    obtain ⟨w2, hw2⟩ : ∃ w2, w2 = Go.Sort.grow w os2 := ⟨_, rfl⟩
    have HW := Lib.hid hw2
    rw [← hw2] at d1 d2 d3 d4 ⊢
    clear hw2
    cases h2 : beforeB bx by' ax ay
    all_goals (
      have H2 := Lib.hid (fun w => bef_grow bx by' ax ay w)
      rw [h2] at H2 HV
      go_wp2_with fail
      refine (H2.out _).mono ?_
      rintro e w3 ⟨rfl, os3, rfl⟩
      have HW3 : Hid (Go.Sort.grow w2 os3 = Go.Sort.grow w (os2 ++ os3)) := by
        show _ = _
        rw [HW.out, Go.Sort.grow_grow]
      rw [HW3.out]
      clear d1 d2 d3 d4
      generalize os2 ++ os3 = os4 at *
      go_wp2_with fail
      go_ret
      exact ⟨ret_int HV.out.symm, _, rfl⟩)
  · have H1 := Lib.hid (fun w => bef_grow ax ay bx by' w)
    rw [h1] at H1 HV
    go_enter Try.func138, Try.ntmps138
    go_wp2_with fail
    refine (H1.out _).mono ?_
    rintro e w1 ⟨rfl, os1, rfl⟩
    rw [HG.out]
    clear c1 c2 c3 c4
    generalize #[Obj.cells #[.int .i64 ax, .int .i64 ay] 27] ++ #[Obj.cells #[.int .i64 bx, .int .i64 by'] 27] ++ os1 = os2 at *
    go_wp2_with fail
    go_ret
    exact ⟨ret_int HV.out.symm, _, rfl⟩
end Go.Proofs.Ytbmeemmihkedoaa
