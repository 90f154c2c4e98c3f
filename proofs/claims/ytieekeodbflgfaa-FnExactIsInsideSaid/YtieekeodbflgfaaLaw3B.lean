/-
  The law of IsInside.
-/
import Derived.Test.YtieekeodbflgfaaPolyLaw
import Derived.Test.YtieekeodbflgfaaInside
import Derived.Deep.RegionWith
namespace Go.Proofs.Ytieekeodbflgfaa
open Go.RowKit
set_option maxRecDepth 100000 in
set_option maxHeartbeats 2000000 in
theorem ex_isInside (A : Option Addr) (c : Nat) (L : List (Int × Int)) (px py : Int) (w : World) (hA : ArgA w A L) (hL : L.length ≤ maxLen) :
    Calls Try.prog 4 #[.slice A L.length c, (.agg #[.int .i64 px, .int .i64 py])] w fun e w' => e = .returned (.bool true) ∧ Below w.heap.size w w' := by
  have hb0 := below1 w (.cells #[.int .i64 px, .int .i64 py] 39)
  by_cases hs : L.length ≤ 1048576
  case neg =>
    have HZ := Lib.hid (fun w => sz_great A L.length c w (by omega) hL)
    go_enter Try.func4, Try.ntmps4
    go_wp2_with fail
    refine (HZ.out _).mono ?_
    rintro e w0 ⟨rfl, rfl⟩
    go_wp2_with fail
    go_ret
    exact ⟨rfl, hb0⟩
  obtain ⟨b, hbv⟩ : ∃ b, b = insideV L (px, py) := ⟨_, rfl⟩
  have HS := Lib.hid (fun A c w hp => spec_inside A c L px py w hp hs)
  have HI := Lib.hid (fun A c w hp => impl_inside A c L px py w hp hs)
  rw [← hbv] at HS HI
  clear hbv
  have HM := Lib.hid hs
  have HA := Lib.hid (hA.step hb0)
  have HZ := Lib.hid (fun w => sz_small A L.length c w hs)
  have t0 := at_new w px py 39
  clear hA
  go_enter Try.func4, Try.ntmps4
  go_wp2_with fail
  refine (HZ.out _).mono ?_
  rintro e w0 ⟨rfl, e0⟩
  rw [← e0]
  clear e0
  generalize w.alloc (.cells #[.int .i64 px, .int .i64 py] 39) = w1 at *
  go_wp2_with fail
  have c1 := t0.c0; have c2 := t0.c1
  have b1d : Below w1.heap.size w1 w1.drew := (Below.refl _ _).drew
  go_region_with (first
    | (go_at_call 30; refine (to_any _ _ _).mono ?_; rintro e wq ⟨rfl, hq⟩)
    | (go_at_call 29; refine (toS_any A c L _ (HA.out.step (by first | exact b1d | exact below_on b1d (by assumption))) HM.out).mono ?_; rintro e wr ⟨v1, rfl, own1, hr⟩; obtain ⟨_, A1, d1, rfl, p1⟩ := own_pts own1; have c3 := cell_on hr rfl c1; have c4 := cell_on hr rfl c2)
    | (go_at_call 28; refine (HS.out A1 d1 _ (by first | exact p1 | exact ptsA_on p1 (by assumption))).mono ?_; rintro e ws ⟨rfl, hs3⟩))
  all_goals
    have h14 := below_on (below_on (below_on b1d hr) hq) hs3
    have b4 := below_on hb0 h14
    have t4 := t0.step h14
    have HA4 := Lib.hid (HA.out.step h14)
    clear c1 c2 c3 c4 b1d hr own1 p1 hq hs3 h14
    have c1 := t4.c0; have c2 := t4.c1
    go_wp2_with fail
    refine (toS_any A c L _ HA4.out HM.out).mono ?_
    rintro e w5 ⟨v5, rfl, own5, hb5⟩
    obtain ⟨_, A5, d5, rfl, p5⟩ := own_pts own5
    have b5 := below_on b4 hb5
    have t5 := t4.step hb5
    have HA5 := Lib.hid (HA4.out.step hb5)
    clear c1 c2 own5 hb5 b4 t4
    have c1 := t5.c0; have c2 := t5.c1
    go_wp2_with fail
    refine (to_any _ _ _).mono ?_
    rintro e w6 ⟨rfl, hb6⟩
    have b6 := below_on b5 hb6
    have p6 := ptsA_on p5 hb6
    have HA6 := Lib.hid (HA5.out.step hb6)
    clear c1 c2 hb6 b5 t5 p5
    go_wp2_with fail
    refine (HI.out A5 d5 w6 p6).mono ?_
    rintro e w7 ⟨rfl, hb7⟩
    have b7 := below_on b6 hb7
    have p7 := ptsA_on p6 hb7
    have HA7 := Lib.hid (HA6.out.step hb7)
    clear hb7 b6 p6
    go_wp2_with fail
    refine (toS_any A c L _ HA7.out HM.out).mono ?_
    rintro e w8 ⟨v8, rfl, own8, hb8⟩
    obtain ⟨_, A8, d8, rfl, p8⟩ := own_pts own8
    have b8 := below_on b7 hb8
    have q8 := ptsA_on p7 hb8
    clear hb8 b7 p7 own8
    go_wp2_with fail
    refine (eq_pts A5 A8 d5 d8 L w8 q8 p8 HM.out).mono ?_
    rintro e w9 ⟨rfl, hb9⟩
    have b9 := below_on b8 hb9
    clear hb9 b8 q8 p8
    go_wp2_with fail
    go_ret
    exact ⟨rfl, b9⟩
end Go.Proofs.Ytieekeodbflgfaa
