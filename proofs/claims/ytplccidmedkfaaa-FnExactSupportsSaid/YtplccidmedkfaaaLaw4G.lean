/-
  The law of Supports.
-/
import Derived.Test.YtplccidmedkfaaaPolyLaw
import Derived.Test.YtplccidmedkfaaaSupp
import Derived.Deep.RegionWith
namespace Go.Proofs.Ytplccidmedkfaaa
open Go.RowKit
theorem cells2 {w : World} {g : Nat} {ax ay bx by' : Int} {t : TypeId} (h : Two w g ax ay bx by' t) : w.cell? ⟨g, 0, none⟩ = some (.int .i64 ax) ∧ w.cell? ⟨g, 1, none⟩ = some (.int .i64 ay) ∧ w.cell? ⟨g + 1, 0, none⟩ = some (.int .i64 bx) ∧ w.cell? ⟨g + 1, 1, none⟩ = some (.int .i64 by') :=
  ⟨h.1.c0, h.1.c1, h.2.c0, h.2.c1⟩
set_option maxRecDepth 100000 in
set_option maxHeartbeats 4000000 in
theorem ex_supports (A : Option Addr) (c : Nat) (L : List (Int × Int)) (ax ay bx by' : Int) (w : World) (hA : ArgA w A L) (hL : L.length ≤ maxLen) :
    Calls Try.prog 8 #[.slice A L.length c, (.agg #[.int .i64 ax, .int .i64 ay]), (.agg #[.int .i64 bx, .int .i64 by'])] w fun e w' => e = .returned (.bool true) ∧ Below w.heap.size w w' := by
  have hb0 := below2 w (.cells #[.int .i64 ax, .int .i64 ay] 45) (.cells #[.int .i64 bx, .int .i64 by'] 45)
  by_cases hs : L.length ≤ 1048576
  case neg =>
    have HZ := Lib.hid (fun w => sz_great A L.length c w (by omega) hL)
    go_enter Try.func8, Try.ntmps8
    go_wp2_with fail
    refine (HZ.out _).mono ?_
    rintro e w0 ⟨rfl, rfl⟩
    go_wp2_with fail
    go_ret
    exact ⟨rfl, hb0⟩
  obtain ⟨b, hbv⟩ : ∃ b, b = supV L (ax, ay) (bx, by') := ⟨_, rfl⟩
  have HS := Lib.hid (fun A c w hp => spec_supp A c L ax ay bx by' w hp hs)
  have HI := Lib.hid (fun A c w hp => impl_supp A c L ax ay bx by' w hp hs)
  rw [← hbv] at HS HI
  clear hbv
  have HM := Lib.hid hs
  have HA := Lib.hid (hA.step hb0)
  have HZ := Lib.hid (fun w => sz_small A L.length c w hs)
  have t0 := two0 w ax ay bx by' 45
  clear hA
  go_enter Try.func8, Try.ntmps8
  go_wp2_with fail
  refine (HZ.out _).mono ?_
  rintro e w0 ⟨rfl, e0⟩
  rw [← e0]
  clear e0
  generalize (w.alloc (.cells #[.int .i64 ax, .int .i64 ay] 45)).alloc (.cells #[.int .i64 bx, .int .i64 by'] 45) = w1 at *
  go_wp2_with fail
  obtain ⟨c1, c2, c3, c4⟩ := cells2 t0
  have b1d : Below w1.heap.size w1 w1.drew := (Below.refl _ _).drew
  have t1 : Two w1.drew w.heap.size ax ay bx by' 45 := t0.step (Below.refl _ _).drew
  clear t0
  go_region_with (first
    | (go_at_call 39; refine (to_any _ _ _).mono ?_; rintro e wq ⟨rfl, hq⟩; have tq := Two.step (by assumption) hq; have bq := below_on (a := w1) (by assumption) hq; obtain ⟨_, _, _, _⟩ := cells2 tq; try (have pq := ptsA_on (by assumption) hq))
    | (go_at_call 28; refine (toS_any A c L _ (HA.out.step (by assumption)) HM.out).mono ?_; rintro e wr ⟨v1, rfl, own1, hq⟩; obtain ⟨_, A1, d1, rfl, p1⟩ := own_pts own1; have tq := Two.step (by assumption) hq; have bq := below_on (a := w1) (by assumption) hq; obtain ⟨_, _, _, _⟩ := cells2 tq; clear own1)
    | (go_at_call 38; refine (HS.out A1 d1 _ (by assumption)).mono ?_; rintro e ws ⟨rfl, hs3⟩))
  all_goals
    have h14 := below_on (a := w1) (by assumption) hs3
    have t4 := Two.step (by assumption) hs3
    have b4 := below_on hb0 h14
    have HA4 := Lib.hid (HA.out.step h14)
    clear hs3 h14 b1d c1 c2 c3 c4
    go_wp2_with fail
    refine (toS_any A c L _ HA4.out HM.out).mono ?_
    rintro e w5 ⟨v5, rfl, own5, hb5⟩
    obtain ⟨_, A5, d5, rfl, p5⟩ := own_pts own5
    have b5 := below_on b4 hb5
    have t5 := t4.step hb5
    have HA5 := Lib.hid (HA4.out.step hb5)
    obtain ⟨c1, c2, c3, c4⟩ := cells2 t5
    have k1 := cell_regrown c1; have k2 := cell_regrown c2; have k3 := cell_regrown c3; have k4 := cell_regrown c4
    have HQ := Lib.hid (fun d os => HI.out A5 d5 _ (ptsA_on p5 (below_regrown w5 d os)))
    clear own5 hb5 b4 t4 HA4 t5
    go_wp2_with fail
    refine wp_region_quiet_below (by kernel_rfl) (by kernel_rfl) ?_
    repeat (first
      | go_big_quiet_step (first | exact Calls.regrown_of (to_any _ _ _) | exact Calls.regrown_of (HQ.out _ _))
      | quiet_step (first | exact Calls.regrown_of (to_any _ _ _) | exact Calls.regrown_of (HQ.out _ _)))
    refine wpQuiet_nil ?_
    rintro _ ⟨⟨dq, osq⟩, rfl⟩
    have hb7 := below_regrown w5 dq osq
    have b7 := below_on b5 hb7
    have p7 := ptsA_on p5 hb7
    have HA7 := Lib.hid (HA5.out.step hb7)
    clear k1 k2 k3 k4 c1 c2 c3 c4 hb7 b5 p5 HQ HA5
    simp only at *
    generalize Go.Sort.grow (redrawn w5 dq) osq = w7 at *
    go_wp2_with fail
    refine (toS_any A c L _ HA7.out HM.out).mono ?_
    rintro e w8 ⟨v8, rfl, own8, hb8⟩
    obtain ⟨_, A8, d8, rfl, p8⟩ := own_pts own8
    have b8 := below_on b7 hb8
    have q8 := ptsA_on p7 hb8
    clear hb8 b7 p7 own8
    go_wp2_with fail
    refine (eq_pts A5 A8 d5 d8 L w8 q8 p8 HM.out).mono ?_
    rintro e w9 ⟨rfl, hb9⟩
    have b9 := below_on b8 hb9
    clear hb9 b8 q8 p8
    go_wp2_with fail
    go_ret
    exact ⟨rfl, b9⟩
end Go.Proofs.Ytplccidmedkfaaa
