/-
  The law of CountTriangulations.
-/
import Derived.Test.YtieekeodbflgfaaPolyLaw
import Derived.Test.YtieekeodbflgfaaCountT
namespace Go.Proofs.Ytieekeodbflgfaa
open Go.RowKit
set_option maxRecDepth 100000 in
set_option maxHeartbeats 2000000 in
/-- SC, IC: what the model and the program answer at a list of points, wherever it lies. -/
theorem law_countTri (A : Option Addr) (c : Nat) (L : List (Int × Int)) (b : Int) (w : World) (hA : ArgA w A L) (hL : L.length ≤ maxLen)
    (SC : L.length ≤ 1048576 → ∀ A c w, PtsA w A L → Calls Try.prog 53 #[.slice A L.length c] w fun e w' => e = .returned (.int .i64 b) ∧ Below w.heap.size w w')
    (IC : L.length ≤ 1048576 → ∀ A c w, PtsA w A L → Calls Try.prog 54 #[.slice A L.length c] w fun e w' => e = .returned (.int .i64 b) ∧ Below w.heap.size w w') :
    Calls Try.prog 11 #[.slice A L.length c] w fun e w' => e = .returned (.bool true) ∧ Below w.heap.size w w' := by
  by_cases hs : L.length ≤ 1048576
  case neg => 
    clear SC IC hA
    have HZ := Lib.hid (sz_great A L.length c w (by omega) hL)
    go_enter Try.func11, Try.ntmps11
    go_wp2_with fail
    refine HZ.out.mono ?_
    rintro e w0 ⟨rfl, rfl⟩
    go_wp2_with fail
    go_ret
    exact ⟨rfl, Below.refl _ _⟩
  have HS := Lib.hid (SC hs); have HI := Lib.hid (IC hs)
  clear SC IC
  have HA := Lib.hid hA; clear hA
  have HZ := Lib.hid (sz_small A L.length c w hs)
  go_enter Try.func11, Try.ntmps11
  go_wp2_with fail
  refine HZ.out.mono ?_
  rintro e w0 ⟨rfl, rfl⟩
  go_wp2_with fail
  refine (toS_any A c L _ HA.out hs).mono ?_
  rintro e w1 ⟨v1, rfl, own1, b1⟩
  obtain ⟨_, A1, c1, rfl, p1⟩ := own_pts own1
  clear own1
  go_wp2_with fail
  refine (HS.out A1 c1 w1 p1).mono ?_
  rintro e w2 ⟨rfl, hb2⟩
  have b2 := below_on b1 hb2
  clear b1 hb2 p1
  go_wp2_with fail
  refine (toS_any A c L _ (HA.out.step b2) hs).mono ?_
  rintro e w3 ⟨v3, rfl, own3, hb3⟩
  have b3 := below_on b2 hb3
  clear b2 hb3
  obtain ⟨_, A3, c3, rfl, p3⟩ := own_pts own3
  clear own3
  go_wp2_with fail
  refine (HI.out A3 c3 w3 p3).mono ?_
  rintro e w4 ⟨rfl, hb4⟩
  have b4 := below_on b3 hb4
  have p4 := ptsA_on p3 hb4
  clear b3 hb4 p3
  go_wp2_with fail
  refine (toS_any A c L _ (HA.out.step b4) hs).mono ?_
  rintro e w5 ⟨v5, rfl, own5, hb5⟩
  have b5 := below_on b4 hb5
  have p5 := ptsA_on p4 hb5
  clear b4 hb5 p4
  obtain ⟨_, A5, c5, rfl, q5⟩ := own_pts own5
  clear own5
  go_wp2_with fail
  refine (eq_pts A3 A5 c3 c5 L w5 p5 q5 hs).mono ?_
  rintro e w6 ⟨rfl, hb6⟩
  have b6 := below_on b5 hb6
  clear b5 hb6 p5 q5
  go_wp2_with fail
  go_ret
  exact ⟨rfl, b6⟩
theorem ex_countTri (A : Option Addr) (c : Nat) (L : List (Int × Int)) (w : World) (hA : ArgA w A L) (hL : L.length ≤ maxLen) :
    Calls Try.prog 11 #[.slice A L.length c] w fun e w' => e = .returned (.bool true) ∧ Below w.heap.size w w' :=
  law_countTri A c L (triV L) w hA hL (fun h A c w hp => spec_tri A c L w hp h) (fun h A c w hp => impl_tri A c L w hp h)
end Go.Proofs.Ytieekeodbflgfaa
