/-
  Walks for SideCount of both programs.
-/
import Derived.Test.YtieekeodbflgfaaClone
namespace Go.Proofs.Ytieekeodbflgfaa
open Go.RowKit
def countV (L : List (Int × Int)) : Int := bif polyB L then ((straightL L).length : Int) else -1
theorem impl_count (A : Option Addr) (c : Nat) (L : List (Int × Int)) (w : World) (hA : PtsA w A L) (hL : L.length ≤ 1048576) :
    Calls Try.prog 19 #[.slice A L.length c] w fun e w' => e = .returned (.int .i64 (countV L)) ∧ Below w.heap.size w w' := by
  have HP := Lib.hid (impl_poly A c L w hA hL)
  have HV : Hid (countV L = bif polyB L then ((straightL L).length : Int) else -1) := rfl
  cases hp : polyB L
  · rw [hp] at HP HV
    clear hA
    go_enter Try.func19, Try.ntmps19
    go_wp2_with fail
    refine HP.out.mono ?_
    rintro e w1 ⟨rfl, b1⟩
    go_wp2_with fail
    go_ret
    exact ⟨ret_int HV.out.symm, b1⟩
  · rw [hp] at HP HV
    have hv : straightV L = straightL L := by unfold straightV; rw [hp]; rfl
    have HS : Hid (∀ W, Below w.heap.size w W → Calls Try.prog 14 #[.slice A L.length c] W fun e w' => ∃ v, e = .returned v ∧ w'.ownsRow W.heap.size 27 2 v (straightL L).length (flat (straightL L)) ∧ Below W.heap.size W w') := fun W hb => by
      have := impl_straight A c L W (ptsA_on hA hb) hL
      rw [hv] at this
      exact this
    clear hA hL hv
    go_enter Try.func19, Try.ntmps19
    go_wp2_with fail
    refine HP.out.mono ?_
    rintro e w1 ⟨rfl, b1⟩
    go_wp2_with fail
    refine (HS.out w1 b1).mono ?_
    rintro e w2 ⟨v, rfl, own, hb2⟩
    obtain ⟨_, A2, c2, rfl, _⟩ := own_pts own
    have b2 := below_on b1 hb2
    clear own b1 hb2
    go_wp2_with fail
    go_ret
    exact ⟨ret_int HV.out.symm, b2⟩
end Go.Proofs.Ytieekeodbflgfaa
