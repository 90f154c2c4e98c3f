/-
  slices.Compare at rows of two ints.
-/
import Derived.Test.YtieekeodbflgfaaRowsD
namespace Go.Proofs.Ytieekeodbflgfaa
open Go.RowKit

def cmp1 (a b : Int) : Int := bif decide (a < b) then -1 else bif decide (b < a) then 1 else 0
set_option maxRecDepth 100000 in
theorem cmp_int (a b : Int) (w : World) : Calls Try.prog 119 #[.int .i64 a, .int .i64 b] w fun e w' => e = .returned (.int .i64 (cmp1 a b)) ∧ w' = w := by
  cases h1 : decide (a < b) <;> cases h2 : decide (b < a)
  all_goals (
    have hv : Hid (cmp1 a b = bif decide (a < b) then -1 else bif decide (b < a) then 1 else 0) := rfl
    rw [h1, h2] at hv
    go_enter Try.func119, Try.ntmps119
    go_wp2_with go_in
    go_ret
    exact ⟨by rw [hv.out]; rfl, rfl⟩)
/-- Rows of two, compared. -/
def cmp2 (a b c d : Int) : Int := bif decide (a < c) then -1 else bif decide (c < a) then 1 else cmp1 b d
set_option maxRecDepth 100000 in
set_option maxHeartbeats 1000000 in
theorem cmp_row (g h ca cb : Nat) (a b c d : Int) (w : World) (h1 : w.cell? ⟨g, 0, none⟩ = some (.int .i64 a)) (h2 : w.cell? ⟨g, 1, none⟩ = some (.int .i64 b)) (h3 : w.cell? ⟨h, 0, none⟩ = some (.int .i64 c)) (h4 : w.cell? ⟨h, 1, none⟩ = some (.int .i64 d)) :
    Calls Try.prog 95 #[.slice (some ⟨g, 0, none⟩) 2 ca, .slice (some ⟨h, 0, none⟩) 2 cb] w fun e w' => e = .returned (.int .i64 (cmp2 a b c d)) ∧ w' = w := by
  have C1 := Lib.hid (cmp_int a c w)
  have C2 := Lib.hid (cmp_int b d w)
  by_cases hac : a = c
  · have e1 : cmp1 a c = 0 := by simp [cmp1, hac]
    have ev : Hid (cmp2 a b c d = cmp1 b d) := by show _ = _; simp [cmp2, hac]
    rw [e1] at C1
    clear hac e1
    cases hq : (cmp1 b d == 0)
    · have hq' : ¬ cmp1 b d = 0 := by simpa using hq
      generalize cmp1 b d = z at *
      go_enter Try.func95, Try.ntmps95
      go_wp2_with fail
      refine wp_loop_rounds 2 ?_
      rw [rounds_succ]
      go_wp2_with fail
      refine C1.out.mono ?_
      rintro e w1 ⟨rfl, rfl⟩
      go_wp2_with fail
      rw [rounds_succ]
      go_wp2_with fail
      refine C2.out.mono ?_
      rintro e w1 ⟨rfl, rfl⟩
      go_wp2_with fail
      go_ret
      exact ⟨by rw [ev.out]; rfl, rfl⟩
    · have hq' : cmp1 b d = 0 := by simpa using hq
      rw [hq'] at C2 ev
      clear hq hq'
      go_enter Try.func95, Try.ntmps95
      go_wp2_with fail
      refine wp_loop_rounds 3 ?_
      rw [rounds_succ]
      go_wp2_with fail
      refine C1.out.mono ?_
      rintro e w1 ⟨rfl, rfl⟩
      go_wp2_with fail
      rw [rounds_succ]
      go_wp2_with fail
      refine C2.out.mono ?_
      rintro e w1 ⟨rfl, rfl⟩
      go_wp2_with fail
      rw [rounds_succ]
      go_wp2_with fail
      go_ret
      exact ⟨by rw [ev.out]; rfl, rfl⟩
  · have ev : Hid (cmp2 a b c d = cmp1 a c) := by
      show _ = _
      rcases Int.lt_or_gt_of_ne hac with q | q
      · simp [cmp2, cmp1, q]
      · have q2 : ¬ a < c := by omega
        simp [cmp2, cmp1, q, q2]
    have hz : ¬ cmp1 a c = 0 := by
      rcases Int.lt_or_gt_of_ne hac with q | q
      · simp [cmp1, q]
      · have q2 : ¬ a < c := by omega
        simp [cmp1, q, q2]
    have hz' : (cmp1 a c == 0) = false := by simpa using hz
    generalize cmp1 a c = z at *
    clear hac
    go_enter Try.func95, Try.ntmps95
    go_wp2_with fail
    refine wp_loop_rounds 1 ?_
    rw [rounds_succ]
    go_wp2_with fail
    refine C1.out.mono ?_
    rintro e w1 ⟨rfl, rfl⟩
    go_wp2_with fail
    go_ret
    exact ⟨by rw [ev.out]; rfl, rfl⟩
end Go.Proofs.Ytieekeodbflgfaa
