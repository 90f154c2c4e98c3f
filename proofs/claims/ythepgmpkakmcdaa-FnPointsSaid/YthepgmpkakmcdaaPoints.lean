/-
  The walk of the law FnPoints.
-/
import Derived.Test.YthepgmpkakmcdaaLineFacts
import Derived.Test.YthepgmpkakmcdaaMeetLaw
import Derived.Test.YthepgmpkakmcdaaMakePt
namespace Go.Proofs.Ythepgmpkakmcdaa
open Go.RowKit

theorem ok_small {x y : Int} (h1 : 0 ≤ x) (h2 : x < 9) (h3 : 0 ≤ y) (h4 : y < 9) : okP x y = true := by
  simp only [okP, Bool.and_eq_true, inB_spec]; omega
set_option maxHeartbeats 8000000 in
set_option maxRecDepth 100000 in
theorem law_points (A : Option Addr) (n c : Nat) (w : World) (hC : CodeAt w w.heap.size A n) :
    Calls Try.prog 3 #[.slice A n c] w fun e w' => e = .returned (.bool true) ∧ Below w.heap.size w w' := by
  by_cases h1 : n ≤ 1048576
  case neg =>
    clear hC
    go_enter Try.func3, Try.ntmps3
    go_wp2_with fail
    go_ret
    exact ⟨rfl, Below.refl _ _⟩
  have HP : Hid (∀ (m : Int) (w' : World), Below w.heap.size w w' → 0 ≤ m → m ≤ 1000 → Calls Try.prog 13 #[.slice A n c, .int .i64 m] w' fun e w'' => (∃ x y : Int, 0 ≤ x ∧ x < 9 ∧ 0 ≤ y ∧ y < 9 ∧ e = .returned (.agg #[.int .i64 x, .int .i64 y])) ∧ Below w'.heap.size w' w'') :=
    fun m w' hb h2 h3 => point_any A n c m w' ((hC.below hb).mono hb.size) h1 h2 h3
  clear hC
  have GP := guard_pt
  have EP := fun w x y x' y' => eql_pt w x y x' y'
  have EN := fun w x y x' y' => neq_pt w x y x' y'
  go_enter Try.func3, Try.ntmps3
  go_wp2_with fail
  refine (HP.out _ _ (Below.refl _ _) (by omega) (by omega)).mono ?_
  rintro e w1 ⟨⟨ax, ay, a1, a2, a3, a4, rfl⟩, b1⟩
  have HA := Lib.hid (ok_small a1 a2 a3 a4)
  have q1 := at_new w1 ax ay 24
  have b1' := b1.alloc b1.size (.cells #[.int .i64 ax, .int .i64 ay] 24)
  clear a1 a2 a3 a4 b1
  go_wp2_with fail
  refine (HP.out _ _ b1' (by omega) (by omega)).mono ?_
  rintro e w2 ⟨⟨bx, by', a1, a2, a3, a4, rfl⟩, hb⟩
  have HB := Lib.hid (ok_small a1 a2 a3 a4)
  have b2 := below_on b1' hb
  have q1 := (q1.step hb).alloc (.cells #[.int .i64 bx, .int .i64 by'] 24)
  have q2 := at_new w2 bx by' 24
  have l12 : w1.heap.size < w2.heap.size := by have := hb.size; simp at this; omega
  have b2' := b2.alloc b2.size (.cells #[.int .i64 bx, .int .i64 by'] 24)
  clear a1 a2 a3 a4 b2 hb b1'
  go_wp2_with fail
  refine (HP.out _ _ b2' (by omega) (by omega)).mono ?_
  rintro e w3 ⟨⟨cx, cy, a1, a2, a3, a4, rfl⟩, hb⟩
  have HC := Lib.hid (ok_small a1 a2 a3 a4)
  have b3 := below_on b2' hb
  have q1 := (q1.step hb).alloc (.cells #[.int .i64 cx, .int .i64 cy] 24)
  have q2 := (q2.step hb).alloc (.cells #[.int .i64 cx, .int .i64 cy] 24)
  have q3 := at_new w3 cx cy 24
  have b3' := b3.alloc b3.size (.cells #[.int .i64 cx, .int .i64 cy] 24)
  clear a1 a2 a3 a4 b3 hb b2'
  go_wp2_with fail
  refine (HP.out _ _ b3' (by omega) (by omega)).mono ?_
  rintro e w4 ⟨⟨dx, dy, a1, a2, a3, a4, rfl⟩, hb⟩
  have HD := Lib.hid (ok_small a1 a2 a3 a4)
  have b4 := below_on b3' hb
  have q1 := (q1.step hb).alloc (.cells #[.int .i64 dx, .int .i64 dy] 24)
  have q2 := (q2.step hb).alloc (.cells #[.int .i64 dx, .int .i64 dy] 24)
  have q3 := (q3.step hb).alloc (.cells #[.int .i64 dx, .int .i64 dy] 24)
  have q4 := at_new w4 dx dy 24
  have b5 := b4.alloc b4.size (.cells #[.int .i64 dx, .int .i64 dy] 24)
  clear a1 a2 a3 a4 b4 hb b3' HP
  have x1 := q1.c0; have x2 := q1.c1; have x3 := q2.c0; have x4 := q2.c1
  go_wp2_with fail
  refine (impl_steps _ _ _ _ _).mono ?_
  rintro e w5 ⟨rfl, hb⟩
  replace q1 := q1.step hb; replace q2 := q2.step hb; replace q3 := q3.step hb; replace q4 := q4.step hb
  have b6 := below_on b5 hb
  clear hb b5 x1 x2 x3 x4
  obtain ⟨n1, en⟩ : ∃ n1 : Int, n1 = stepsV ax ay bx by' := ⟨_, rfl⟩
  rw [← en]
  have HEN := Lib.hid en
  clear en
  have x1 := q1.c0; have x2 := q1.c1; have x3 := q2.c0; have x4 := q2.c1
  go_wp2_with fail
  refine (impl_line _ _ _ _ _).mono ?_
  rintro e w6 ⟨v, rfl, own, hb⟩
  replace q1 := q1.step hb; replace q2 := q2.step hb; replace q3 := q3.step hb; replace q4 := q4.step hb
  have b7 := below_on b6 hb
  clear hb b6 x1 x2 x3 x4
  have hL := line_len HA.out HB.out
  have ka := okP_bounds HA.out; have kb := okP_bounds HB.out
  have hN40 : stepsN ax ay bx by' ≤ 40 := gcd_le (by omega) (by omega)
  have hn : n1 = (stepsN ax ay bx by' : Int) := by rw [HEN.out, stepsV, HA.out, HB.out]; rfl
  have hz := steps_zero ax ay bx by'
  have F0 := line_first HA.out HB.out
  have FN := line_last HA.out HB.out
  have FF := Lib.hid (line_facts HA.out HB.out)
  have FS := Lib.hid (line_step HA.out HB.out)
  obtain ⟨g, cp, rfl, _, hgl⟩ := own.form (by omega)
  have PA := ptsA_of own
  clear own ka kb
  generalize lineV ax ay bx by' = L at *
  generalize stepsN ax ay bx by' = N at *
  obtain ⟨g0, hg0, y1, y2⟩ := PA 0 (by omega)
  simp only [Option.some.injEq, Addr.mk.injEq, and_true] at hg0
  subst hg0
  obtain ⟨g0, hg0, z1, z2⟩ := PA N (by omega)
  simp only [Option.some.injEq, Addr.mk.injEq, and_true] at hg0
  subst hg0
  rw [F0 (by omega)] at y1 y2
  rw [FN (by omega)] at z1 z2
  simp only [Nat.zero_mul, Nat.zero_add] at y1 y2
  simp only at z1 z2
  have HPA := Lib.hid PA
  have hlen : (L.length : Int) = n1 + 1 := by omega
  have h0n : 0 ≤ n1 := by omega
  have hn40 : n1 ≤ 40 := by omega
  have hN : n1.toNat = N := by omega
  have hd0 : decide (n1 < 0) = false := by rw [decide_eq_false_iff_not]; omega
  have hp1 : (0 : Int) < n1 + 1 := by omega
  have hp2 : (0 : Int) < (L.length : Int) := by omega
  have hp3 : N < L.length := by omega
  have hp5 : n1 < n1 + 1 := by omega
  have hp4 : n1 < (L.length : Int) := by omega
  obtain ⟨q, hq2⟩ : ∃ q, (ax == bx && ay == by') = q := ⟨_, rfl⟩
  have hq1 : (n1 == 0) = q := by
    rw [← hq2]
    cases h : (n1 == 0)
    · cases h2 : (ax == bx && ay == by')
      · rfl
      · simp only [Bool.and_eq_true, beq_iff_eq] at h2
        have := hz.2 h2
        simp at h; omega
    · simp only [beq_iff_eq] at h
      have := hz.1 (by omega)
      simp [this.1, this.2]
  have HL := Lib.hid hL; have HNN := Lib.hid hn
  clear PA F0 FN hL hz hn hN40
  obtain ⟨P, eP⟩ : ∃ P, P = crossV ax ay bx by' cx cy := ⟨_, rfl⟩
  have hPb : P.natAbs ≤ 3200 := by
    rw [eP, crossV, HA.out, HB.out, HC.out]
    exact crossI_bound HA.out HB.out HC.out
  have r2 : crossV bx by' ax ay cx cy = -P := by rw [crossV_flip, eP]
  have r3 : crossV bx by' cx cy ax ay = P := by rw [crossV_turn, eP]
  have r4 : crossV ax ay cx cy bx by' = -P := by rw [crossV_swap, eP]
  have r1 : crossV ax ay bx by' cx cy = P := eP.symm
  obtain ⟨S, eS⟩ : ∃ S, S = sgn P := ⟨_, rfl⟩
  have hSb := sgn_abs P
  rw [← eS] at hSb
  have r6 : sgn (-P) = -S := by rw [sgn_minus, eS]
  have r5 : sgn P = S := eS.symm
  have f1 : IntKind.i64.wrap P = P := IntWalk.i64_in _ (by omega)
  have f2 : wrap64 P = P := wrap_id (by omega)
  have f3 : IntKind.i64.wrap S = S := IntWalk.i64_in _ (by omega)
  have f4 : wrap64 S = S := wrap_id (by omega)
  have f5 : IntKind.i64.wrap (n1 + 1) = n1 + 1 := IntWalk.i64_in _ (by omega)
  have f6 : wrap64 (n1 + 1) = n1 + 1 := wrap_id (by omega)
  have r7 : stepsV bx by' ax ay = n1 := by rw [stepsV_flip, HEN.out]
  have r8 : okP ax ay = true := HA.out
  have HPP := Lib.hid (And.intro eP hPb)
  clear eP hPb eS hSb
  have x1 := q1.c0; have x2 := q1.c1; have x3 := q2.c0; have x4 := q2.c1; have x5 := q3.c0; have x6 := q3.c1
  have k1 := cell_regrown x1; have k2 := cell_regrown x2; have k3 := cell_regrown x3; have k4 := cell_regrown x4; have k5 := cell_regrown x5; have k6 := cell_regrown x6
  have k7 := cell_regrown y1; have k8 := cell_regrown y2; have k9 := cell_regrown z1; have k10 := cell_regrown z2
  go_wp2_with fail
  refine wp_region_quiet_below (by kernel_rfl) (by kernel_rfl) ?_
  repeat (first
    | go_big_quiet_step (first | exact Calls.regrown_of (impl_cross _ _ _ _ _ _ _) | exact Calls.regrown_of (impl_side _ _ _ _ _ _ _) | exact Calls.regrown_of (impl_steps _ _ _ _ _) | exact Calls.regrown_of (impl_ok _ _ _))
    | quiet_step (first | exact Calls.regrown_of (impl_cross _ _ _ _ _ _ _) | exact Calls.regrown_of (impl_side _ _ _ _ _ _ _) | exact Calls.regrown_of (impl_steps _ _ _ _ _) | exact Calls.regrown_of (impl_ok _ _ _)))
  refine wpQuiet_nil ?_
  rintro _ ⟨⟨dq, osq⟩, rfl⟩
  have hst := below_regrown w6 dq osq
  have b8 := below_on b7 hst
  replace q1 := q1.step hst; replace q2 := q2.step hst; replace q3 := q3.step hst; replace q4 := q4.step hst
  have PA7 := Lib.hid (ptsA_on HPA.out hst)
  clear k1 k2 k3 k4 k5 k6 k7 k8 k9 k10 x1 x2 x3 x4 x5 x6 y1 y2 z1 z2 hst b7 r2 r3 r4 r6 r7 r8 HPA f1 f2 f3 f4 f5 f6
  simp only at *
  generalize Go.Sort.grow (redrawn w6 dq) osq = w7 at *
  have HQ1 := Lib.hid q1; have HQ2 := Lib.hid q2; have HQ3 := Lib.hid q3; have HQ4 := Lib.hid q4
  clear q1 q2 q3 q4
  go_wp2_with fail
  go_loopw [9, 10, 114] (fun _ _ i wr => ∃ k : Nat, k ≤ L.length ∧ i = .int .i64 k ∧ Below w7.heap.size w7 wr) (fun _ _ i _ => L.length - (intOf i).toNat)
  case atStart => exact ⟨0, Nat.zero_le _, rfl, Below.refl _ _⟩
  case round =>
    obtain ⟨wo, rfl⟩ : ∃ wo : World, wo = wr := ⟨_, rfl⟩
    obtain ⟨k, hk, rfl, hb⟩ := hrel
    have q1 := HQ1.out.step hb; have q2 := HQ2.out.step hb; have q3 := HQ3.out.step hb; have q4 := HQ4.out.step hb
    by_cases hlt : k < L.length
    · obtain ⟨g0, hg0, u1, u2⟩ := ptsA_on PA7.out hb k hlt
      simp only [Option.some.injEq, Addr.mk.injEq, and_true] at hg0
      subst hg0
      have FFk := FF.out k hlt
      obtain ⟨x, hx⟩ : ∃ x, x = (L[k]).1 := ⟨_, rfl⟩
      obtain ⟨y, hy⟩ : ∃ y, y = (L[k]).2 := ⟨_, rfl⟩
      rw [← hx] at u1 FFk
      rw [← hy] at u2 FFk
      obtain ⟨m1, m2⟩ := FFk
      have hal := (Below.refl wo.heap.size wo).alloc (Nat.le_refl _) (.cells #[.int .i64 x, .int .i64 y] 24)
      have n1' := at_new wo x y 24
      replace q1 := q1.step hal; replace q2 := q2.step hal
      have hb2 := below_on hb hal
      have x1 := q1.c0; have x2 := q1.c1; have x3 := q2.c0; have x4 := q2.c1; have x5 := n1'.c0; have x6 := n1'.c1
      have k1 := cell_regrown x1; have k2 := cell_regrown x2; have k3 := cell_regrown x3; have k4 := cell_regrown x4; have k5 := cell_regrown x5; have k6 := cell_regrown x6
      rcases Nat.eq_zero_or_pos k with h0 | h0
      · subst h0
        clear hal q1 q2 q3 q4 n1' hx hy
        as_aux_lemma =>
          go_wp2_with fail
          refine wp_region_quiet_below (by kernel_rfl) (by kernel_rfl) ?_
          repeat (first
            | go_big_quiet_step (first | exact Calls.regrown_of (impl_on _ _ _ _ _ _ _) | exact Calls.regrown_of (impl_cross _ _ _ _ _ _ _) | exact Calls.regrown_of (impl_steps _ _ _ _ _))
            | quiet_step (first | exact Calls.regrown_of (impl_on _ _ _ _ _ _ _) | exact Calls.regrown_of (impl_cross _ _ _ _ _ _ _) | exact Calls.regrown_of (impl_steps _ _ _ _ _)))
          refine wpQuiet_nil ?_
          rintro _ ⟨⟨dq, osq⟩, rfl⟩
          have R := Lib.hid (below_on hb2 (below_regrown _ dq osq))
          clear k1 k2 k3 k4 k5 k6 x1 x2 x3 x4 x5 x6 hb2
          go_wp2_with fail
          go_roundw
          case rel => exact ⟨0 + 1, by omega, by go_num, R.out⟩
          case measure => simp [intOf]; omega
      · obtain ⟨j, rfl⟩ : ∃ j, k = j + 1 := ⟨k - 1, by omega⟩
        obtain ⟨g0, hg0, u3, u4⟩ := ptsA_on PA7.out hb j (by omega)
        simp only [Option.some.injEq, Addr.mk.injEq, and_true] at hg0
        subst hg0
        have FSj := FS.out j (by omega) hlt
        rw [← hx, ← hy] at FSj
        obtain ⟨x', hx'⟩ : ∃ x', x' = (L[j]).1 := ⟨_, rfl⟩
        obtain ⟨y', hy'⟩ : ∃ y', y' = (L[j]).2 := ⟨_, rfl⟩
        rw [← hx'] at u3 FSj
        rw [← hy'] at u4 FSj
        have v1 := cell_on hal rfl u3; have v2 := cell_on hal rfl u4
        have k7 := cell_regrown v1; have k8 := cell_regrown v2
        have d1 : IntKind.i64.wrap (((j + 1 : Nat) : Int) - 1) = (j : Int) := by rw [IntWalk.i64_in _ (by omega)]; omega
        have d2 : IntKind.i64.wrap ((j : Int) + 1 - 1) = (j : Int) := by rw [IntWalk.i64_in _ (by omega)]; omega
        have d3 : (0 : Int) < (j : Int) + 1 := by omega
        have d4 : (0 : Int) ≤ (j : Int) := by omega
        have d5 : (j : Int) < (L.length : Int) := by omega
        have d6 : (j : Int) < n1 + 1 := by omega
        clear hal q1 q2 q3 q4 n1' hx hy hx' hy'
        as_aux_lemma =>
          go_wp2_with fail
          refine wp_region_quiet_below (by kernel_rfl) (by kernel_rfl) ?_
          repeat (first
            | go_big_quiet_step (first | exact Calls.regrown_of (impl_on _ _ _ _ _ _ _) | exact Calls.regrown_of (impl_cross _ _ _ _ _ _ _) | exact Calls.regrown_of (impl_steps _ _ _ _ _))
            | quiet_step (first | exact Calls.regrown_of (impl_on _ _ _ _ _ _ _) | exact Calls.regrown_of (impl_cross _ _ _ _ _ _ _) | exact Calls.regrown_of (impl_steps _ _ _ _ _)))
          refine wpQuiet_nil ?_
          rintro _ ⟨⟨dq, osq⟩, rfl⟩
          have R := Lib.hid (below_on hb2 (below_regrown _ dq osq))
          clear k1 k2 k3 k4 k5 k6 k7 k8 x1 x2 x3 x4 x5 x6 v1 v2 hb2
          go_wp2_with fail
          go_roundw
          case rel => exact ⟨(j + 1) + 1, by omega, by go_num, R.out⟩
          case measure => simp [intOf]; omega
    · as_aux_lemma =>
        have b9 := b8.trans (hb.mono b8.size)
        clear hb b8 HQ1 HQ2 HQ3 HQ4 PA7 FF FS
        obtain ⟨H, eH⟩ : ∃ H, H = meetV (ax, ay) (bx, by') (cx, cy) (dx, dy) := ⟨_, rfl⟩
        have m1 : meetV (ax, ay) (bx, by') (cx, cy) (dx, dy) = H := eH.symm
        have m2 : meetV (cx, cy) (dx, dy) (ax, ay) (bx, by') = H := by rw [meetV_swap, eH]
        have m3 : meetV (bx, by') (ax, ay) (dx, dy) (cx, cy) = H := by rw [meetV_flip, eH]
        have HX := Lib.hid (meetV_cross (a := (ax, ay)) (b := (bx, by')) (c := (cx, cy)) (d := (dx, dy)) HA.out HB.out HC.out HD.out)
        rw [m1] at HX
        have HAL : Hid (q = false → meetV (ax, ay) (bx, by') (bx, by') (ax, ay) = 3) := fun h => meetV_along HA.out HB.out (by show (ax == bx && ay == by') = false; rw [hq2, h])
        have HSZ := Lib.hid (squareV_zero HA.out HB.out)
        rw [hq2] at HSZ
        have HSF := Lib.hid (squareV_flip ax ay bx by')
        have HBF := Lib.hid (fun h => before_other (ax := ax) (ay := ay) (bx := bx) (by' := by') h)
        rw [hq2] at HBF
        have c1' : crossV ax ay bx by' cx cy = crossP (ax, ay) (bx, by') (cx, cy) := crossV_on HA.out HB.out HC.out
        obtain ⟨Q, eQ⟩ : ∃ Q, Q = crossV ax ay bx by' dx dy := ⟨_, rfl⟩
        obtain ⟨R, eR⟩ : ∃ R, R = crossV cx cy dx dy ax ay := ⟨_, rfl⟩
        obtain ⟨T, eT⟩ : ∃ T, T = crossV cx cy dx dy bx by' := ⟨_, rfl⟩
        have hQb : Q.natAbs ≤ 3200 := by rw [eQ, crossV, HA.out, HB.out, HD.out]; exact crossI_bound HA.out HB.out HD.out
        have hRb : R.natAbs ≤ 3200 := by rw [eR, crossV, HC.out, HD.out, HA.out]; exact crossI_bound HC.out HD.out HA.out
        have hTb : T.natAbs ≤ 3200 := by rw [eT, crossV, HC.out, HD.out, HB.out]; exact crossI_bound HC.out HD.out HB.out
        have c2' : Q = crossP (ax, ay) (bx, by') (dx, dy) := by rw [eQ]; exact crossV_on HA.out HB.out HD.out
        have c3' : R = crossP (cx, cy) (dx, dy) (ax, ay) := by rw [eR]; exact crossV_on HC.out HD.out HA.out
        have c4' : T = crossP (cx, cy) (dx, dy) (bx, by') := by rw [eT]; exact crossV_on HC.out HD.out HB.out
        rw [r1] at c1'
        rw [← c1', ← c2', ← c3', ← c4'] at HX
        have hU := abs_mul HPP.out.2 hQb
        have hV := abs_mul hRb hTb
        obtain ⟨U, eU⟩ : ∃ U, U = P * Q := ⟨_, rfl⟩
        obtain ⟨V, eV⟩ : ∃ V, V = R * T := ⟨_, rfl⟩
        rw [← eU] at hU HX
        rw [← eV] at hV HX
        have s1 : crossV ax ay bx by' dx dy = Q := eQ.symm
        have s2 : crossV cx cy dx dy ax ay = R := eR.symm
        have s3 : crossV cx cy dx dy bx by' = T := eT.symm
        have s4 : P * Q = U := eU.symm
        have s5 : R * T = V := eV.symm
        have s6 : IntKind.i64.wrap U = U := IntWalk.i64_in _ (by omega)
        have s7 : IntKind.i64.wrap V = V := IntWalk.i64_in _ (by omega)
        clear hU hV eU eV c1' c2' c3' c4' hQb hRb hTb eQ eR eT eH HA HB HC HD HPP HEN r5
        have x1 := q1.c0; have x2 := q1.c1; have x3 := q2.c0; have x4 := q2.c1; have x5 := q3.c0; have x6 := q3.c1; have x7 := q4.c0; have x8 := q4.c1
        go_wp2_with fail
        refine (impl_meet _ _ _ _ _ _ _ _ _).mono ?_
        rintro e w9 ⟨rfl, hb⟩
        replace q1 := q1.step hb; replace q2 := q2.step hb; replace q3 := q3.step hb; replace q4 := q4.step hb
        replace b9 := below_on b9 hb
        clear hb
        clear x1 x2 x3 x4 x5 x6 x7 x8
        clear HNN HL h0n hn40 hN hlen hq1 hd0 hp1 hp2 hp3 hp4 hp5 hk hlt
        rw [m1]
        have x1 := q1.c0; have x2 := q1.c1; have x3 := q2.c0; have x4 := q2.c1; have x5 := q3.c0; have x6 := q3.c1; have x7 := q4.c0; have x8 := q4.c1
        go_wp2_with fail
        refine (impl_meet _ _ _ _ _ _ _ _ _).mono ?_
        rintro e w10 ⟨rfl, hb⟩
        replace q1 := q1.step hb; replace q2 := q2.step hb; replace q3 := q3.step hb; replace q4 := q4.step hb
        replace b9 := below_on b9 hb
        clear hb
        clear x1 x2 x3 x4 x5 x6 x7 x8
        rw [m2]
        have x1 := q1.c0; have x2 := q1.c1; have x3 := q2.c0; have x4 := q2.c1; have x5 := q3.c0; have x6 := q3.c1; have x7 := q4.c0; have x8 := q4.c1
        go_wp2_with fail
        refine (impl_meet _ _ _ _ _ _ _ _ _).mono ?_
        rintro e w11 ⟨rfl, hb⟩
        replace q1 := q1.step hb; replace q2 := q2.step hb; replace q3 := q3.step hb; replace q4 := q4.step hb
        replace b9 := below_on b9 hb
        clear hb
        clear x1 x2 x3 x4 x5 x6 x7 x8
        rw [m3]
        have x1 := q1.c0; have x2 := q1.c1; have x3 := q2.c0; have x4 := q2.c1; have x5 := q3.c0; have x6 := q3.c1; have x7 := q4.c0; have x8 := q4.c1
        cases q
        · have m4 := HAL.out rfl
          as_aux_lemma =>
            go_wp2_with fail
            refine (impl_meet _ _ _ _ _ _ _ _ _).mono ?_
            rintro e w11b ⟨rfl, hb⟩
            replace q1 := q1.step hb; replace q2 := q2.step hb; replace q3 := q3.step hb; replace q4 := q4.step hb
            replace b9 := below_on b9 hb
            clear hb
            clear x1 x2 x3 x4 x5 x6 x7 x8
            rw [m4]
            have x1 := q1.c0; have x2 := q1.c1; have x3 := q2.c0; have x4 := q2.c1; have x5 := q3.c0; have x6 := q3.c1; have x7 := q4.c0; have x8 := q4.c1
            go_wp2_with fail
            refine (impl_cross _ _ _ _ _ _ _).mono ?_
            rintro e w12 ⟨rfl, hb⟩
            replace q1 := q1.step hb; replace q2 := q2.step hb; replace q3 := q3.step hb; replace q4 := q4.step hb
            replace b9 := below_on b9 hb
            clear hb
            clear x1 x2 x3 x4 x5 x6 x7 x8
            rw [r1]
            have x1 := q1.c0; have x2 := q1.c1; have x3 := q2.c0; have x4 := q2.c1; have x5 := q3.c0; have x6 := q3.c1; have x7 := q4.c0; have x8 := q4.c1
            go_wp2_with fail
            refine (impl_cross _ _ _ _ _ _ _).mono ?_
            rintro e w13 ⟨rfl, hb⟩
            replace q1 := q1.step hb; replace q2 := q2.step hb; replace q3 := q3.step hb; replace q4 := q4.step hb
            replace b9 := below_on b9 hb
            clear hb
            clear x1 x2 x3 x4 x5 x6 x7 x8
            rw [s1]
            have x1 := q1.c0; have x2 := q1.c1; have x3 := q2.c0; have x4 := q2.c1; have x5 := q3.c0; have x6 := q3.c1; have x7 := q4.c0; have x8 := q4.c1
            go_wp2_with fail
            refine (impl_cross _ _ _ _ _ _ _).mono ?_
            rintro e w14 ⟨rfl, hb⟩
            replace q1 := q1.step hb; replace q2 := q2.step hb; replace q3 := q3.step hb; replace q4 := q4.step hb
            replace b9 := below_on b9 hb
            clear hb
            clear x1 x2 x3 x4 x5 x6 x7 x8
            rw [s2]
            have x1 := q1.c0; have x2 := q1.c1; have x3 := q2.c0; have x4 := q2.c1; have x5 := q3.c0; have x6 := q3.c1; have x7 := q4.c0; have x8 := q4.c1
            go_wp2_with fail
            refine (impl_cross _ _ _ _ _ _ _).mono ?_
            rintro e w15 ⟨rfl, hb⟩
            replace q1 := q1.step hb; replace q2 := q2.step hb; replace q3 := q3.step hb; replace q4 := q4.step hb
            replace b9 := below_on b9 hb
            clear hb
            clear x1 x2 x3 x4 x5 x6 x7 x8
            rw [s3]
            have HQQ := Lib.hid (And.intro q1 q2)
            clear q1 q2 q3 q4 r1 s1 s2 s3 m1 m2 m3
            obtain ⟨Z, eZ⟩ : ∃ Z, Z = squareV ax ay bx by' := ⟨_, rfl⟩
            have z1 : squareV ax ay bx by' = Z := eZ.symm
            have z2 : squareV bx by' ax ay = Z := by rw [HSF.out, eZ]
            have z3 := HSZ.out
            rw [z1] at z3
            obtain ⟨B1, e1⟩ : ∃ B1, B1 = beforeB ax ay bx by' := ⟨_, rfl⟩
            obtain ⟨B2, e2⟩ : ∃ B2, B2 = beforeB bx by' ax ay := ⟨_, rfl⟩
            have z4 : beforeB ax ay bx by' = B1 := e1.symm
            have z5 : beforeB bx by' ax ay = B2 := e2.symm
            have z6 : (B1 != B2) = true := by rw [e1, e2]; exact HBF.out (by first | rfl | trivial)
            have HZ := Lib.hid z6
            clear eZ e1 e2
            have q1 := HQQ.out.1; have q2 := HQQ.out.2
            have x1 := q1.c0; have x2 := q1.c1; have x3 := q2.c0; have x4 := q2.c1
            have k1 := cell_regrown x1; have k2 := cell_regrown x2; have k3 := cell_regrown x3; have k4 := cell_regrown x4
            have HXX := HX
            cases hU : decide (U < 0)
            · have z7 : (H == 2) = false := by rw [HXX.out, hU]; rfl
              go_wp2_with fail
              refine wp_region_quiet_below (by kernel_rfl) (by kernel_rfl) ?_
              repeat (first
                | go_big_quiet_step (first | exact Calls.regrown_of (impl_square _ _ _ _ _) | exact Calls.regrown_of (impl_before _ _ _ _ _))
                | quiet_step (first | exact Calls.regrown_of (impl_square _ _ _ _ _) | exact Calls.regrown_of (impl_before _ _ _ _ _)))
              refine wpQuiet_nil ?_
              rintro _ ⟨⟨dq, osq⟩, rfl⟩
              have b10 := below_on b9 (below_regrown w15 dq osq)
              clear k1 k2 k3 k4 x1 x2 x3 x4 q1 q2
              go_wp2_with fail
              go_ret
              first | exact ⟨rfl, b10⟩ | exact ⟨ret_bool HZ.out, b10⟩ | exact ⟨ret_bool (by have := HZ.out; simpa using this), b10⟩
            · cases hV : decide (V < 0)
              all_goals
                have z7 := HXX.out
                rw [hU, hV] at z7
                simp only [Bool.true_and] at z7
                go_wp2_with fail
                refine wp_region_quiet_below (by kernel_rfl) (by kernel_rfl) ?_
                repeat (first
                  | go_big_quiet_step (first | exact Calls.regrown_of (impl_square _ _ _ _ _) | exact Calls.regrown_of (impl_before _ _ _ _ _))
                  | quiet_step (first | exact Calls.regrown_of (impl_square _ _ _ _ _) | exact Calls.regrown_of (impl_before _ _ _ _ _)))
                refine wpQuiet_nil ?_
                rintro _ ⟨⟨dq, osq⟩, rfl⟩
                have b10 := below_on b9 (below_regrown w15 dq osq)
                clear k1 k2 k3 k4 x1 x2 x3 x4 q1 q2
                go_wp2_with fail
                go_ret
                first | exact ⟨rfl, b10⟩ | exact ⟨ret_bool HZ.out, b10⟩ | exact ⟨ret_bool (by have := HZ.out; simpa using this), b10⟩
        · as_aux_lemma =>
            go_wp2_with fail
            refine (impl_cross _ _ _ _ _ _ _).mono ?_
            rintro e w12 ⟨rfl, hb⟩
            replace q1 := q1.step hb; replace q2 := q2.step hb; replace q3 := q3.step hb; replace q4 := q4.step hb
            replace b9 := below_on b9 hb
            clear hb
            clear x1 x2 x3 x4 x5 x6 x7 x8
            rw [r1]
            have x1 := q1.c0; have x2 := q1.c1; have x3 := q2.c0; have x4 := q2.c1; have x5 := q3.c0; have x6 := q3.c1; have x7 := q4.c0; have x8 := q4.c1
            go_wp2_with fail
            refine (impl_cross _ _ _ _ _ _ _).mono ?_
            rintro e w13 ⟨rfl, hb⟩
            replace q1 := q1.step hb; replace q2 := q2.step hb; replace q3 := q3.step hb; replace q4 := q4.step hb
            replace b9 := below_on b9 hb
            clear hb
            clear x1 x2 x3 x4 x5 x6 x7 x8
            rw [s1]
            have x1 := q1.c0; have x2 := q1.c1; have x3 := q2.c0; have x4 := q2.c1; have x5 := q3.c0; have x6 := q3.c1; have x7 := q4.c0; have x8 := q4.c1
            go_wp2_with fail
            refine (impl_cross _ _ _ _ _ _ _).mono ?_
            rintro e w14 ⟨rfl, hb⟩
            replace q1 := q1.step hb; replace q2 := q2.step hb; replace q3 := q3.step hb; replace q4 := q4.step hb
            replace b9 := below_on b9 hb
            clear hb
            clear x1 x2 x3 x4 x5 x6 x7 x8
            rw [s2]
            have x1 := q1.c0; have x2 := q1.c1; have x3 := q2.c0; have x4 := q2.c1; have x5 := q3.c0; have x6 := q3.c1; have x7 := q4.c0; have x8 := q4.c1
            go_wp2_with fail
            refine (impl_cross _ _ _ _ _ _ _).mono ?_
            rintro e w15 ⟨rfl, hb⟩
            replace q1 := q1.step hb; replace q2 := q2.step hb; replace q3 := q3.step hb; replace q4 := q4.step hb
            replace b9 := below_on b9 hb
            clear hb
            clear x1 x2 x3 x4 x5 x6 x7 x8
            rw [s3]
            have HQQ := Lib.hid (And.intro q1 q2)
            clear q1 q2 q3 q4 r1 s1 s2 s3 m1 m2 m3
            obtain ⟨Z, eZ⟩ : ∃ Z, Z = squareV ax ay bx by' := ⟨_, rfl⟩
            have z1 : squareV ax ay bx by' = Z := eZ.symm
            have z2 : squareV bx by' ax ay = Z := by rw [HSF.out, eZ]
            have z3 := HSZ.out
            rw [z1] at z3
            obtain ⟨B1, e1⟩ : ∃ B1, B1 = beforeB ax ay bx by' := ⟨_, rfl⟩
            obtain ⟨B2, e2⟩ : ∃ B2, B2 = beforeB bx by' ax ay := ⟨_, rfl⟩
            have z4 : beforeB ax ay bx by' = B1 := e1.symm
            have z5 : beforeB bx by' ax ay = B2 := e2.symm
            clear eZ e1 e2
            have q1 := HQQ.out.1; have q2 := HQQ.out.2
            have x1 := q1.c0; have x2 := q1.c1; have x3 := q2.c0; have x4 := q2.c1
            have k1 := cell_regrown x1; have k2 := cell_regrown x2; have k3 := cell_regrown x3; have k4 := cell_regrown x4
            have HXX := HX
            cases hU : decide (U < 0)
            · have z7 : (H == 2) = false := by rw [HXX.out, hU]; rfl
              go_wp2_with fail
              refine wp_region_quiet_below (by kernel_rfl) (by kernel_rfl) ?_
              repeat (first
                | go_big_quiet_step (first | exact Calls.regrown_of (impl_square _ _ _ _ _) | exact Calls.regrown_of (impl_before _ _ _ _ _))
                | quiet_step (first | exact Calls.regrown_of (impl_square _ _ _ _ _) | exact Calls.regrown_of (impl_before _ _ _ _ _)))
              refine wpQuiet_nil ?_
              rintro _ ⟨⟨dq, osq⟩, rfl⟩
              have b10 := below_on b9 (below_regrown w15 dq osq)
              clear k1 k2 k3 k4 x1 x2 x3 x4 q1 q2
              go_wp2_with fail
              go_ret
              first | exact ⟨rfl, b10⟩ | exact ⟨ret_bool HZ.out, b10⟩ | exact ⟨ret_bool (by have := HZ.out; simpa using this), b10⟩
            · cases hV : decide (V < 0)
              all_goals
                have z7 := HXX.out
                rw [hU, hV] at z7
                simp only [Bool.true_and] at z7
                go_wp2_with fail
                refine wp_region_quiet_below (by kernel_rfl) (by kernel_rfl) ?_
                repeat (first
                  | go_big_quiet_step (first | exact Calls.regrown_of (impl_square _ _ _ _ _) | exact Calls.regrown_of (impl_before _ _ _ _ _))
                  | quiet_step (first | exact Calls.regrown_of (impl_square _ _ _ _ _) | exact Calls.regrown_of (impl_before _ _ _ _ _)))
                refine wpQuiet_nil ?_
                rintro _ ⟨⟨dq, osq⟩, rfl⟩
                have b10 := below_on b9 (below_regrown w15 dq osq)
                clear k1 k2 k3 k4 x1 x2 x3 x4 q1 q2
                go_wp2_with fail
                go_ret
                first | exact ⟨rfl, b10⟩ | exact ⟨ret_bool HZ.out, b10⟩ | exact ⟨ret_bool (by have := HZ.out; simpa using this), b10⟩
end Go.Proofs.Ythepgmpkakmcdaa
