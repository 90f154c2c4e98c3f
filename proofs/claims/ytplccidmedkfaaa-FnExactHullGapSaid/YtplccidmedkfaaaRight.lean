/-
  A walk for the method isRightOf of a side.
-/
import Derived.Test.YtplccidmedkfaaaKeep
import Derived.RegionTactic
import Derived.ChangeAlike
namespace Go.Proofs.Ytplccidmedkfaaa
open Go.RowKit

def loB (l h p : Int × Int) : Bool := decide (l.2 ≤ p.2) && decide (p.2 < h.2) && decide (0 < sgn (crossV l.1 l.2 h.1 h.2 p.1 p.2))
def rightB (a b p : Int × Int) : Bool := bif decide (b.2 < a.2) then loB b a p else loB a b p
theorem right_below0 (w : World) (o p q r : Obj) : Below w.heap.size w ((((w.alloc o).alloc p).alloc q).alloc r).drew := ((below3 w o p q).alloc (by simp; omega) r).drew
theorem right_below {w w1 : World} {o p q r : Obj} (h : Below ((((w.alloc o).alloc p).alloc q).alloc r).drew.heap.size ((((w.alloc o).alloc p).alloc q).alloc r).drew w1) : Below w.heap.size w w1 :=
  (right_below0 w o p q r).trans (h.mono (by simp; omega))

set_option maxHeartbeats 4000000 in
theorem right_any (ax ay bx by' px py : Int) (w : World) :
    Calls Try.prog 60 #[.agg #[.int .i64 ax, .int .i64 ay, .int .i64 bx, .int .i64 by'], (.agg #[.int .i64 px, .int .i64 py])] w fun e w' => e = .returned (.bool (rightB (ax, ay) (bx, by') (px, py))) ∧ Below w.heap.size w w' := by
  by_cases hsw : by' < ay
  · have HR : Hid (rightB (ax, ay) (bx, by') (px, py) = (decide (by' ≤ py) && decide (py < ay) && decide (0 < sgn (crossV bx by' ax ay px py)))) := by
      show _ = _
      unfold rightB
      simp only [decide_eq_true hsw, cond_true, cond_false]
      rfl
    have HC := Lib.hid (fun W => impl_side bx by' ax ay px py W)
    generalize sgn (crossV bx by' ax ay px py) = s at *
    by_cases h1 : by' ≤ py
    · by_cases h2 : py < ay
      · rw [decide_eq_true h1, decide_eq_true h2] at HR
        go_enter Try.func60, Try.ntmps60
        go_wp2_with fail
        go_region
        all_goals
          go_wp2_with fail
          refine (HC.out _).mono ?_
          rintro e w1 ⟨rfl, hb1⟩
          go_wp2_with fail
          go_ret
          exact ⟨ret_bool (by rw [HR.out]; rfl), right_below hb1⟩
      · rw [decide_eq_true h1, decide_eq_false h2] at HR
        have h2' : ay ≤ py := by omega
        go_enter Try.func60, Try.ntmps60
        go_wp2_with fail
        go_region
        all_goals
          go_wp2_with fail
          go_ret
          exact ⟨ret_bool (by rw [HR.out]; rfl), right_below0 _ _ _ _ _⟩
    · rw [decide_eq_false h1] at HR
      have h1' : py < by' := by omega
      go_enter Try.func60, Try.ntmps60
      go_wp2_with fail
      go_region
      all_goals
        go_wp2_with fail
        go_ret
        exact ⟨ret_bool (by rw [HR.out]; rfl), right_below0 _ _ _ _ _⟩
  · have HR : Hid (rightB (ax, ay) (bx, by') (px, py) = (decide (ay ≤ py) && decide (py < by') && decide (0 < sgn (crossV ax ay bx by' px py)))) := by
      show _ = _
      unfold rightB
      simp only [decide_eq_false hsw, cond_true, cond_false]
      rfl
    have HC := Lib.hid (fun W => impl_side ax ay bx by' px py W)
    generalize sgn (crossV ax ay bx by' px py) = s at *
    by_cases h1 : ay ≤ py
    · by_cases h2 : py < by'
      · rw [decide_eq_true h1, decide_eq_true h2] at HR
        go_enter Try.func60, Try.ntmps60
        go_wp2_with fail
        go_region
        all_goals
          go_wp2_with fail
          refine (HC.out _).mono ?_
          rintro e w1 ⟨rfl, hb1⟩
          go_wp2_with fail
          go_ret
          exact ⟨ret_bool (by rw [HR.out]; rfl), right_below hb1⟩
      · rw [decide_eq_true h1, decide_eq_false h2] at HR
        have h2' : by' ≤ py := by omega
        go_enter Try.func60, Try.ntmps60
        go_wp2_with fail
        go_region
        all_goals
          go_wp2_with fail
          go_ret
          exact ⟨ret_bool (by rw [HR.out]; rfl), right_below0 _ _ _ _ _⟩
    · rw [decide_eq_false h1] at HR
      have h1' : py < ay := by omega
      go_enter Try.func60, Try.ntmps60
      go_wp2_with fail
      go_region
      all_goals
        go_wp2_with fail
        go_ret
        exact ⟨ret_bool (by rw [HR.out]; rfl), right_below0 _ _ _ _ _⟩
end Go.Proofs.Ytplccidmedkfaaa
