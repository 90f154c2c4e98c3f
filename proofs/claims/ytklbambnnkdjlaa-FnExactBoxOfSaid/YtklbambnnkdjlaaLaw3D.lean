/-
  The law of BoxOf.
-/
import Derived.Test.YtklbambnnkdjlaaPolyLaw
import Derived.Test.YtklbambnnkdjlaaBox
namespace Go.Proofs.Ytklbambnnkdjlaa
open Go.RowKit
theorem boxR_form (L : List (Int × Int)) : ∃ ax ay bx by' t, boxR L = .tuple #[.agg #[.int .i64 ax, .int .i64 ay], .agg #[.int .i64 bx, .int .i64 by'], .bool t] := by
  unfold boxR
  cases polyB L
  · exact ⟨0, 0, 0, 0, false, rfl⟩
  · exact ⟨_, _, _, _, true, rfl⟩
set_option maxHeartbeats 2000000 in
theorem ex_boxOf (A : Option Addr) (c : Nat) (L : List (Int × Int)) (w : World) (hA : ArgA w A L) (hL : L.length ≤ maxLen) :
    Calls Try.prog 12 #[.slice A L.length c] w fun e w' => e = .returned (.bool true) ∧ Below w.heap.size w w' := by
  by_cases hs : L.length ≤ 1048576
  case neg =>
    have HZ := Lib.hid (fun w => sz_great A L.length c w (by omega) hL)
    clear hA
    go_enter Try.func12, Try.ntmps12
    go_wp2_with fail
    refine (HZ.out _).mono ?_
    rintro e w0 ⟨rfl, rfl⟩
    go_wp2_with fail
    go_ret
    exact ⟨rfl, Below.refl _ _⟩
  have HS := Lib.hid (fun A c w hp => spec_box A c L w hp hs)
  have HI := Lib.hid (fun A c w hp => impl_box A c L w hp hs)
  obtain ⟨ax, ay, bx, by', t, hR⟩ := boxR_form L
  rw [hR] at HS HI
  clear hR
  have HM := Lib.hid hs
  have HA := Lib.hid hA
  have HZ := Lib.hid (fun w => sz_small A L.length c w hs)
  clear hA
  go_enter Try.func12, Try.ntmps12
  go_wp2_with fail
  refine (HZ.out _).mono ?_
  rintro e w0 ⟨rfl, rfl⟩
  go_wp2_with fail
  refine (toS_any A c L _ HA.out HM.out).mono ?_
  rintro e w1 ⟨v1, rfl, own1, b1⟩
  obtain ⟨_, A1, d1, rfl, p1⟩ := own_pts own1
  clear own1
  go_wp2_with fail
  refine (HS.out A1 d1 w1 p1).mono ?_
  rintro e w2 ⟨rfl, hb2⟩
  have b2 := below_on b1 hb2
  clear hb2 b1 p1
  go_wp2_with fail
  have t1 := (at_new w2 ax ay 33).alloc (.cells #[.int .i64 bx, .int .i64 by'] 33)
  have t2 := at_new (w2.alloc (.cells #[.int .i64 ax, .int .i64 ay] 33)) bx by' 33
  rw [size_alloc] at t2
  have hb3 := below2 w2 (.cells #[.int .i64 ax, .int .i64 ay] 33) (.cells #[.int .i64 bx, .int .i64 by'] 33)
  have b3 := below_on b2 hb3
  clear hb3 b2
  generalize (w2.alloc (.cells #[.int .i64 ax, .int .i64 ay] 33)).alloc (.cells #[.int .i64 bx, .int .i64 by'] 33) = w3 at *
  generalize w2.heap.size = s2 at *
  refine (toS_any A c L _ (HA.out.step b3) HM.out).mono ?_
  rintro e w4 ⟨v4, rfl, own4, hb4⟩
  obtain ⟨_, A4, d4, rfl, p4⟩ := own_pts own4
  have b4 := below_on b3 hb4
  replace t1 := t1.step hb4
  replace t2 := t2.step hb4
  clear own4 hb4 b3
  go_wp2_with fail
  refine (HI.out A4 d4 w4 p4).mono ?_
  rintro e w5 ⟨rfl, hb5⟩
  have b5 := below_on b4 hb5
  replace t1 := t1.step hb5
  replace t2 := t2.step hb5
  replace p4 := ptsA_on p4 hb5
  clear hb5 b4
  have hb6 := below2 w5 (.cells #[.int .i64 ax, .int .i64 ay] 33) (.cells #[.int .i64 bx, .int .i64 by'] 33)
  have b6 := below_on b5 hb6
  replace t1 := t1.step hb6
  replace t2 := t2.step hb6
  have t3 := (at_new w5 ax ay 33).alloc (.cells #[.int .i64 bx, .int .i64 by'] 33)
  have t4 := at_new (w5.alloc (.cells #[.int .i64 ax, .int .i64 ay] 33)) bx by' 33
  rw [size_alloc] at t4
  replace p4 := ptsA_on p4 hb6
  clear hb6 b5
  have c1 := t1.c0; have c2 := t1.c1; have c3 := t3.c0; have c4 := t3.c1
  go_wp2_with fail
  clear c1 c2 c3 c4
  generalize (w5.alloc (.cells #[.int .i64 ax, .int .i64 ay] 33)).alloc (.cells #[.int .i64 bx, .int .i64 by'] 33) = w6 at *
  generalize w5.heap.size = s5 at *
  refine (eqPt_any _ _ _ _ _).mono ?_
  rintro e w7 ⟨rfl, hb7⟩
  have b7 := below_on b6 hb7
  replace t2 := t2.step hb7
  replace t4 := t4.step hb7
  replace p4 := ptsA_on p4 hb7
  clear hb7 b6 t1 t3
  have c1 := t2.c0; have c2 := t2.c1; have c3 := t4.c0; have c4 := t4.c1
  go_wp2_with fail
  clear c1 c2 c3 c4
  refine (eqPt_any _ _ _ _ _).mono ?_
  rintro e w8 ⟨rfl, hb8⟩
  have b8 := below_on b7 hb8
  replace p4 := ptsA_on p4 hb8
  clear hb8 b7 t2 t4
  go_wp2_with fail
  refine (toS_any A c L _ (HA.out.step b8) HM.out).mono ?_
  rintro e w9 ⟨v9, rfl, own9, hb9⟩
  obtain ⟨_, A9, d9, rfl, p9⟩ := own_pts own9
  have b9 := below_on b8 hb9
  replace p4 := ptsA_on p4 hb9
  clear hb9 b8 own9
  go_wp2_with fail
  refine (eq_pts A4 A9 d4 d9 L w9 p4 p9 HM.out).mono ?_
  rintro e w10 ⟨rfl, hb10⟩
  have b10 := below_on b9 hb10
  clear hb10 b9 p4 p9
  go_wp2_with fail
  go_ret
  exact ⟨rfl, b10⟩
end Go.Proofs.Ytklbambnnkdjlaa
