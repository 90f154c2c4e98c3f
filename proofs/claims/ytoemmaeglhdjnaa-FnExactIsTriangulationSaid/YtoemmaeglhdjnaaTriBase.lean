/-
  IsTriangulation: triangleArea, areUsedRightly, the model's l05Area and its array of counts, what the answer is to be.
-/
import Derived.Test.YtoemmaeglhdjnaaBox
import Derived.Test.YtoemmaeglhdjnaaSetsA
import Derived.Test.YtoemmaeglhdjnaaRowsR
/-
  triangleArea: twice the area of three corners without its sign, 0 where they are not three indices in ascending order.
-/
namespace Go.Proofs.Ytoemmaeglhdjnaa
open Go.RowKit

def magI (z : Int) : Int := bif decide (z < 0) then -z else z
def triOk (n : Nat) (M : List Int) : Bool := decide (M.length = 3) && (decide (0 ≤ M.getD 0 0) && (decide (M.getD 0 0 < M.getD 1 0) && (decide (M.getD 1 0 < M.getD 2 0) && decide (M.getD 2 0 < (n : Int)))))
def areaT (L : List (Int × Int)) (M : List Int) : Int := bif triOk L.length M then magI (crossP (gt L (M.getD 0 0).toNat) (gt L (M.getD 1 0).toNat) (gt L (M.getD 2 0).toNat)) else 0
theorem three_form {M : List Int} (h : M.length = 3) : M = [M.getD 0 0, M.getD 1 0, M.getD 2 0] := by
  match M, h with
  | [a, b, c], _ => rfl
theorem mag_max (z : Int) : maxI z (-z) = magI z := by
  unfold maxI magI
  by_cases h : z < 0
  · simp [h]; omega
  · simp [h]; omega
set_option maxRecDepth 100000 in
set_option maxHeartbeats 2000000 in
theorem area_any (g c T ct : Nat) (L : List (Int × Int)) (M : List Int) (w : World) (hA : PtsA w (some ⟨g, 0, none⟩) L) (hok : allOk L = true) (hT : IntsA w (some ⟨T, 0, none⟩) M) :
    Calls Try.prog 60 #[.slice (some ⟨g, 0, none⟩) L.length c, .slice (some ⟨T, 0, none⟩) M.length ct] w fun e w' => e = .returned (.int .i64 (areaT L M)) ∧ Below w.heap.size w w' := by
  by_cases h3 : M.length = 3
  · obtain ⟨a, b, d, rfl⟩ : ∃ a b d, M = [a, b, d] := ⟨_, _, _, three_form h3⟩
    have t0 : w.cell? ⟨T, 0, none⟩ = some (.int .i64 a) := by obtain ⟨T', e, q⟩ := hT 0 (by simp); cases e; exact q
    have t1 : w.cell? ⟨T, 1, none⟩ = some (.int .i64 b) := by obtain ⟨T', e, q⟩ := hT 1 (by simp); cases e; exact q
    have t2 : w.cell? ⟨T, 2, none⟩ = some (.int .i64 d) := by obtain ⟨T', e, q⟩ := hT 2 (by simp); cases e; exact q
    have k1 := cell_regrown t0; have k2 := cell_regrown t1; have k3 := cell_regrown t2
    have hv : areaT L [a, b, d] = bif decide (0 ≤ a) && (decide (a < b) && (decide (b < d) && decide (d < (L.length : Int)))) then magI (crossP (gt L a.toNat) (gt L b.toNat) (gt L d.toNat)) else 0 := rfl
    have HV := Lib.hid hv
    clear hv h3 hT
    show Calls _ _ #[_, .slice (some ⟨T, 0, none⟩) 3 ct] _ _
    by_cases c1 : a < 0
    · have d1 : decide (a < 0) = true := decide_eq_true c1
      have hz : Hid (areaT L [a, b, d] = 0) := by show _ = _; rw [HV.out, decide_eq_false (by omega : ¬ 0 ≤ a)]; rfl
      clear hA hok
      go_enter Try.func60, Try.ntmps60
      go_upto_region 1 with (fail)
      refine wp_region_quiet_below (by kernel_rfl) (by kernel_rfl) ?_
      repeat (first
        | go_big_quiet_step (fail)
        | quiet_step (fail))
      refine wpQuiet_nil ?_
      rintro _ ⟨⟨dq, osq⟩, rfl⟩
      have b3 := below_regrown w dq osq
      go_wp2_with fail
      go_ret
      exact ⟨ret_int hz.out.symm, b3⟩
    · have d1 : decide (a < 0) = false := decide_eq_false c1
      have e1 : decide (0 ≤ a) = true := decide_eq_true (by omega)
      by_cases c2 : b ≤ a
      · have d2 : decide (b ≤ a) = true := decide_eq_true c2
        have hz : Hid (areaT L [a, b, d] = 0) := by show _ = _; rw [HV.out, decide_eq_false (by omega : ¬ a < b), e1]; rfl
        clear hA hok
        go_enter Try.func60, Try.ntmps60
        go_upto_region 1 with (fail)
        refine wp_region_quiet_below (by kernel_rfl) (by kernel_rfl) ?_
        repeat (first
          | go_big_quiet_step (fail)
          | quiet_step (fail))
        refine wpQuiet_nil ?_
        rintro _ ⟨⟨dq, osq⟩, rfl⟩
        have b3 := below_regrown w dq osq
        go_wp2_with fail
        go_ret
        exact ⟨ret_int hz.out.symm, b3⟩
      · have d2 : decide (b ≤ a) = false := decide_eq_false c2
        have e2 : decide (a < b) = true := decide_eq_true (by omega)
        by_cases c3 : d ≤ b
        · have d3 : decide (d ≤ b) = true := decide_eq_true c3
          have hz : Hid (areaT L [a, b, d] = 0) := by show _ = _; rw [HV.out, decide_eq_false (by omega : ¬ b < d), e1, e2]; rfl
          clear hA hok
          go_enter Try.func60, Try.ntmps60
          go_upto_region 1 with (fail)
          refine wp_region_quiet_below (by kernel_rfl) (by kernel_rfl) ?_
          repeat (first
            | go_big_quiet_step (fail)
            | quiet_step (fail))
          refine wpQuiet_nil ?_
          rintro _ ⟨⟨dq, osq⟩, rfl⟩
          have b3 := below_regrown w dq osq
          go_wp2_with fail
          go_ret
          exact ⟨ret_int hz.out.symm, b3⟩
        · have d3 : decide (d ≤ b) = false := decide_eq_false c3
          have e3 : decide (b < d) = true := decide_eq_true (by omega)
          by_cases c4 : (L.length : Int) ≤ d
          · have d4 : decide ((L.length : Int) ≤ d) = true := decide_eq_true c4
            have hz : Hid (areaT L [a, b, d] = 0) := by show _ = _; rw [HV.out, decide_eq_false (by omega : ¬ d < (L.length : Int)), e1, e2, e3]; rfl
            clear hA hok
            go_enter Try.func60, Try.ntmps60
            go_upto_region 1 with (fail)
            refine wp_region_quiet_below (by kernel_rfl) (by kernel_rfl) ?_
            repeat (first
              | go_big_quiet_step (fail)
              | quiet_step (fail))
            refine wpQuiet_nil ?_
            rintro _ ⟨⟨dq, osq⟩, rfl⟩
            have b3 := below_regrown w dq osq
            go_wp2_with fail
            go_ret
            exact ⟨ret_int hz.out.symm, b3⟩
          · have d4 : decide ((L.length : Int) ≤ d) = false := decide_eq_false c4
            have hz : Hid (areaT L [a, b, d] = magI (crossP (gt L a.toNat) (gt L b.toNat) (gt L d.toNat))) := by show _ = _; rw [HV.out, decide_eq_true (by omega : d < (L.length : Int)), e1, e2, e3]; rfl
            obtain ⟨an, rfl⟩ : ∃ an : Nat, a = (an : Int) := ⟨a.toNat, by omega⟩
            obtain ⟨bn, rfl⟩ : ∃ bn : Nat, b = (bn : Int) := ⟨b.toNat, by omega⟩
            obtain ⟨dn, rfl⟩ : ∃ dn : Nat, d = (dn : Int) := ⟨d.toNat, by omega⟩
            have la : an < L.length := by omega
            have lb : bn < L.length := by omega
            have ld : dn < L.length := by omega
            obtain ⟨u1, u2⟩ := gt_cells hA la
            obtain ⟨u3, u4⟩ := gt_cells hA lb
            obtain ⟨u5, u6⟩ := gt_cells hA ld
            obtain ⟨X, HX⟩ : ∃ X, Hid (X = crossP (gt L an) (gt L bn) (gt L dn)) := ⟨_, rfl⟩
            have HXB : Hid (X.natAbs ≤ 3200) := by
              show _ ≤ _
              rw [HX.out]
              exact crossI_bound (all_at hok la) (all_at hok lb) (all_at hok ld)
            have HCR : Hid (∀ W, Calls Try.prog 95 #[(.agg #[.int .i64 (gt L an).1, .int .i64 (gt L an).2]), (.agg #[.int .i64 (gt L bn).1, .int .i64 (gt L bn).2]), (.agg #[.int .i64 (gt L dn).1, .int .i64 (gt L dn).2])] W fun e w' => e = .returned (.int .i64 X) ∧ Below W.heap.size W w') := fun W => by
              have q := impl_cross (gt L an).1 (gt L an).2 (gt L bn).1 (gt L bn).2 (gt L dn).1 (gt L dn).2 W
              rw [crossV_on (all_at hok la) (all_at hok lb) (all_at hok ld)] at q
              rw [HX.out]
              exact q
            have hz2 : Hid (areaT L [(an : Int), (bn : Int), (dn : Int)] = maxI X (-X)) := by
              show _ = _
              rw [hz.out, mag_max, HX.out]; rfl
            have hmax : ∀ (w : World) (x y : Int) (ts : Array TypeId) (t : TypeId), (Builtin.max_ ts t #[.int .i64 x, .int .i64 y]).run Try.prog w = .ok (.int .i64 (maxI x y)) w := run_maxI
            have hb64 : -9223372036854775808 ≤ -X ∧ -X ≤ 9223372036854775807 := by have := HXB.out; omega
            have f1 : wrap64 (-X) = -X := IntWalk.wrap64_in _ hb64
            have f2 : IntKind.i64.wrap (-X) = -X := IntWalk.i64_in _ hb64
            have p1 : (0 : Int) ≤ (an : Int) := Int.natCast_nonneg _
            have p2 : (0 : Int) ≤ (bn : Int) := Int.natCast_nonneg _
            have p3 : (0 : Int) ≤ (dn : Int) := Int.natCast_nonneg _
            have q1 : (an : Int) < (L.length : Int) := Int.ofNat_lt.2 la
            have q2 : (bn : Int) < (L.length : Int) := Int.ofNat_lt.2 lb
            have q3 : (dn : Int) < (L.length : Int) := Int.ofNat_lt.2 ld
            have s1 := cell_regrown u1; have s2 := cell_regrown u2; have s3 := cell_regrown u3; have s4 := cell_regrown u4; have s5 := cell_regrown u5; have s6 := cell_regrown u6
            clear hA hok hz e1 e2 e3 hb64
            go_enter Try.func60, Try.ntmps60
            go_upto_region 1 with (fail)
            refine wp_region_quiet_below (by kernel_rfl) (by kernel_rfl) ?_
            repeat (first
              | go_big_quiet_step (fail)
              | quiet_step (fail))
            refine wpQuiet_nil ?_
            rintro _ ⟨⟨dq, osq⟩, rfl⟩
            have b3 := below_regrown w dq osq
            have B3 := Lib.hid b3
            replace t0 := cell_on b3 rfl t0; replace t1 := cell_on b3 rfl t1; replace t2 := cell_on b3 rfl t2
            replace u1 := cell_on b3 rfl u1; replace u2 := cell_on b3 rfl u2; replace u3 := cell_on b3 rfl u3; replace u4 := cell_on b3 rfl u4; replace u5 := cell_on b3 rfl u5; replace u6 := cell_on b3 rfl u6
            clear k1 k2 k3 s1 s2 s3 s4 s5 s6 b3
            simp only at *
            generalize Go.Sort.grow (redrawn w dq) osq = w2 at *
            have k1 := cell_regrown t0; have k2 := cell_regrown t1; have k3 := cell_regrown t2
            have s1 := cell_regrown u1; have s2 := cell_regrown u2; have s3 := cell_regrown u3; have s4 := cell_regrown u4; have s5 := cell_regrown u5; have s6 := cell_regrown u6
            go_upto_region 3 with (fail)
            refine wp_region_quiet_below (by kernel_rfl) (by kernel_rfl) ?_
            repeat (first
              | go_big_quiet_step (first | exact Calls.regrown_of (HCR.out _))
              | quiet_step (first | exact Calls.regrown_of (HCR.out _)))
            refine wpQuiet_nil ?_
            rintro _ ⟨⟨dq, osq⟩, rfl⟩
            have B4 := Lib.hid (below_on B3.out (below_regrown w2 dq osq))
            clear k1 k2 k3 s1 s2 s3 s4 s5 s6 t0 t1 t2 u1 u2 u3 u4 u5 u6
            go_wp2_with fail
            go_ret
            exact ⟨ret_int hz2.out.symm, B4.out⟩
  · have d1 : ((M.length : Int) != 3) = true := by rw [bne_iff_ne]; omega
    have hz : Hid (areaT L M = 0) := by show _ = _; rw [areaT, triOk, decide_eq_false h3]; rfl
    clear hA hok hT
    go_enter Try.func60, Try.ntmps60
    go_upto_region 1 with (fail)
    refine wp_region_quiet_below (by kernel_rfl) (by kernel_rfl) ?_
    repeat (first
      | go_big_quiet_step (fail)
      | quiet_step (fail))
    refine wpQuiet_nil ?_
    rintro _ ⟨⟨dq, osq⟩, rfl⟩
    have b3 := below_regrown w dq osq
    go_wp2_with fail
    go_ret
    exact ⟨ret_int hz.out.symm, b3⟩
end Go.Proofs.Ytoemmaeglhdjnaa

/-
  l05Area of the model at three corners in ascending order.
-/
namespace Go.Proofs.Ytoemmaeglhdjnaa
open Go.RowKit

theorem mag4_any (n : Int) (w : World) (hn : n.natAbs ≤ 16000) : Calls Try.prog 57 #[.int .i64 n] w fun e w' => e = .returned (.int .i64 (maxI n (-n))) ∧ Below w.heap.size w w' := by
  have hmax : ∀ (w : World) (x y : Int) (ts : Array TypeId) (t : TypeId), (Builtin.max_ ts t #[.int .i64 x, .int .i64 y]).run Try.prog w = .ok (.int .i64 (maxI x y)) w := run_maxI
  have f1 : wrap64 (-n) = -n := IntWalk.wrap64_in _ (by omega)
  have f2 : IntKind.i64.wrap (-n) = -n := IntWalk.i64_in _ (by omega)
  go_enter Try.func57, Try.ntmps57
  go_wp2_with fail
  go_ret
  exact ⟨rfl, Below.refl _ _⟩
theorem triOk_nat {n : Nat} {M : List Int} (h : triOk n M = true) : ∃ a b d : Nat, M = [(a : Int), (b : Int), (d : Int)] ∧ a < b ∧ b < d ∧ d < n := by
  unfold triOk at h
  simp only [Bool.and_eq_true, decide_eq_true_eq] at h
  obtain ⟨h3, h0, h1, h2, h4⟩ := h
  have e := three_form h3
  refine ⟨(M.getD 0 0).toNat, (M.getD 1 0).toNat, (M.getD 2 0).toNat, ?_, by omega, by omega, by omega⟩
  rw [Int.toNat_of_nonneg h0, Int.toNat_of_nonneg (by omega), Int.toNat_of_nonneg (by omega)]
  exact e
theorem triOk_of {n a b d : Nat} (h1 : a < b) (h2 : b < d) (h3 : d < n) : triOk n [(a : Int), (b : Int), (d : Int)] = true := by
  show (decide _ && (decide (0 ≤ (a : Int)) && (decide ((a : Int) < (b : Int)) && (decide ((b : Int) < (d : Int)) && decide ((d : Int) < (n : Int)))))) = true
  rw [decide_eq_true (by omega : (0 : Int) ≤ a), decide_eq_true (by omega : (a : Int) < b), decide_eq_true (by omega : (b : Int) < d), decide_eq_true (by omega : (d : Int) < n)]
  rfl
theorem area_of {L : List (Int × Int)} {a b d : Nat} (h1 : a < b) (h2 : b < d) (h3 : d < L.length) : areaT L [(a : Int), (b : Int), (d : Int)] = maxI (crossP (gt L a) (gt L b) (gt L d)) (-crossP (gt L a) (gt L b) (gt L d)) := by
  rw [areaT, triOk_of h1 h2 h3, mag_max]; rfl
set_option maxRecDepth 100000 in
set_option maxHeartbeats 2000000 in
theorem l05area_any (g c T ct an bn dn : Nat) (L : List (Int × Int)) (w : World) (hA : PtsA w (some ⟨g, 0, none⟩) L) (hok : allOk L = true) (hT : IntsA w (some ⟨T, 0, none⟩) [(an : Int), (bn : Int), (dn : Int)]) (hab : an < bn) (hbd : bn < dn) (hd : dn < L.length) :
    Calls Try.prog 56 #[.slice (some ⟨g, 0, none⟩) L.length c, .slice (some ⟨T, 0, none⟩) 3 ct] w fun e w' => e = .returned (.int .i64 (areaT L [(an : Int), (bn : Int), (dn : Int)])) ∧ Below w.heap.size w w' := by
  have t0 : w.cell? ⟨T, 0, none⟩ = some (.int .i64 (an : Int)) := by obtain ⟨T', e, q⟩ := hT 0 (by simp); cases e; exact q
  have t1 : w.cell? ⟨T, 1, none⟩ = some (.int .i64 (bn : Int)) := by obtain ⟨T', e, q⟩ := hT 1 (by simp); cases e; exact q
  have t2 : w.cell? ⟨T, 2, none⟩ = some (.int .i64 (dn : Int)) := by obtain ⟨T', e, q⟩ := hT 2 (by simp); cases e; exact q
  have hz2 : Hid (_ = _) := area_of (L := L) hab hbd hd
  have la : an < L.length := by omega
  have lb : bn < L.length := by omega
  obtain ⟨u1, u2⟩ := gt_cells hA la
  obtain ⟨u3, u4⟩ := gt_cells hA lb
  obtain ⟨u5, u6⟩ := gt_cells hA hd
  obtain ⟨X, HX⟩ : ∃ X, Hid (X = crossP (gt L an) (gt L bn) (gt L dn)) := ⟨_, rfl⟩
  have HXB : Hid (X.natAbs ≤ 3200) := by
    show _ ≤ _
    rw [HX.out]
    exact crossI_bound (all_at hok la) (all_at hok lb) (all_at hok hd)
  have HCR : Hid (∀ W, Calls Try.prog 94 #[(.agg #[.int .i64 (gt L an).1, .int .i64 (gt L an).2]), (.agg #[.int .i64 (gt L bn).1, .int .i64 (gt L bn).2]), (.agg #[.int .i64 (gt L dn).1, .int .i64 (gt L dn).2])] W fun e w' => e = .returned (.int .i64 X) ∧ Below W.heap.size W w') := fun W => by
    have q := crossS_any (gt L an).1 (gt L an).2 (gt L bn).1 (gt L bn).2 (gt L dn).1 (gt L dn).2 W
    rw [cross_wrap (all_at hok la) (all_at hok lb) (all_at hok hd)] at q
    rw [HX.out]
    exact q
  have HMG : Hid (∀ W, Calls Try.prog 57 #[.int .i64 X] W fun e w' => e = .returned (.int .i64 (maxI X (-X))) ∧ Below W.heap.size W w') := fun W => mag4_any X W (by have := HXB.out; omega)
  rw [← HX.out] at hz2
  have HZ2 := Lib.hid hz2.out
  have p1 : (0 : Int) ≤ (an : Int) := Int.natCast_nonneg _
  have p2 : (0 : Int) ≤ (bn : Int) := Int.natCast_nonneg _
  have p3 : (0 : Int) ≤ (dn : Int) := Int.natCast_nonneg _
  have q1 : (an : Int) < (L.length : Int) := Int.ofNat_lt.2 la
  have q2 : (bn : Int) < (L.length : Int) := Int.ofNat_lt.2 lb
  have q3 : (dn : Int) < (L.length : Int) := Int.ofNat_lt.2 hd
  have k1 := cell_regrown t0; have k2 := cell_regrown t1; have k3 := cell_regrown t2
  have s1 := cell_regrown u1; have s2 := cell_regrown u2; have s3 := cell_regrown u3; have s4 := cell_regrown u4; have s5 := cell_regrown u5; have s6 := cell_regrown u6
  clear hA hok hT hz2
  go_enter Try.func56, Try.ntmps56
  go_upto_region 1 with (fail)
  refine wp_region_quiet_below (by kernel_rfl) (by kernel_rfl) ?_
  repeat (first
    | go_big_quiet_step (first | exact Calls.regrown_of (HCR.out _) | exact Calls.regrown_of (HMG.out _))
    | quiet_step (first | exact Calls.regrown_of (HCR.out _) | exact Calls.regrown_of (HMG.out _)))
  refine wpQuiet_nil ?_
  rintro _ ⟨⟨dq, osq⟩, rfl⟩
  have B4 := Lib.hid (below_regrown w dq osq)
  clear k1 k2 k3 s1 s2 s3 s4 s5 s6 t0 t1 t2 u1 u2 u3 u4 u5 u6
  go_wp2_with fail
  go_ret
  exact ⟨ret_int HZ2.out.symm, B4.out⟩
end Go.Proofs.Ytoemmaeglhdjnaa

/-
  areUsedRightly: a map from pairs to counts; each side once, all else twice.
-/
namespace Go.Proofs.Ytoemmaeglhdjnaa
open Go.RowKit
open Go.Maps (Keyed)

def cntK (K : List (Int × Int)) (f : Int × Int → Int) (z : Int × Int) : Int := bif K.contains z then f z else 0
/-- Block b is a map with just the keys K, and the count f at each. -/
structure MapC (w : World) (b : Nat) (K : List (Int × Int)) (f : Int × Int → Int) (n : Nat) (D : DataW Unit) : Prop where
  own : w.ownsMap Try.prog 72 (plainElem Try.prog 3) b n D
  has : ∀ a c, wf64 a → wf64 c → (Maps.has D (kl a c) = true ↔ (a, c) ∈ K)
  at' : ∀ a c, wf64 a → wf64 c → D.atKey (kl a c) (.lit (.int .i64 0)) = .lit (.int .i64 (cntK K f (a, c)))
  wf : ∀ z ∈ K, wf64 z.1 ∧ wf64 z.2
  nodup : K.Nodup
theorem zeroI (w : World) : (zeroValue 3).run Try.prog w = .ok (.int .i64 0) w := by kernel_rfl
theorem cntK_erase {K : List (Int × Int)} {f : Int × Int → Int} {x z : Int × Int} (hn : K.Nodup) (h : z ≠ x) : cntK (K.erase x) f z = cntK K f z := by
  have e : (K.erase x).contains z = K.contains z := by
    rw [Bool.eq_iff_iff, List.contains_iff_mem, List.contains_iff_mem, hn.mem_erase_iff]
    exact ⟨fun q => q.2, fun q => ⟨h, q⟩⟩
  rw [cntK, cntK, e]
theorem cntK_self {K : List (Int × Int)} {f : Int × Int → Int} {x : Int × Int} (hn : K.Nodup) : cntK (K.erase x) f x = 0 := by
  have e : (K.erase x).contains x = false := by
    rw [← Bool.not_eq_true, List.contains_iff_mem, hn.mem_erase_iff]
    exact fun q => q.1 rfl
  rw [cntK, e]; rfl
theorem mapC_del {w w' : World} {b n : Nat} {K : List (Int × Int)} {f : Int × Int → Int} {D : DataW Unit} {p q : Int} (h : MapC w b K f n D) (hp : wf64 p) (hq : wf64 q) (ho : w'.ownsMap Try.prog 72 (plainElem Try.prog 3) b n (D.del (kl p q))) : MapC w' b (K.erase (p, q)) f n (D.del (kl p q)) := by
  refine ⟨ho, ?_, ?_, fun z hz => h.wf z (List.mem_of_mem_erase hz), h.nodup.sublist List.erase_sublist⟩
  · intro a c ha hc
    rw [h.nodup.mem_erase_iff]
    by_cases e : (a, c) = (p, q)
    · simp only [Prod.mk.injEq] at e
      obtain ⟨rfl, rfl⟩ := e
      rw [Maps.has_del_same]
      exact ⟨fun x => absurd x Bool.false_ne_true, fun x => absurd rfl x.1⟩
    · rw [Maps.has_del_other (kl_ne ha hc hp hq e), h.has a c ha hc]
      exact ⟨fun x => ⟨e, x⟩, fun x => x.2⟩
  · intro a c ha hc
    by_cases e : (a, c) = (p, q)
    · simp only [Prod.mk.injEq] at e
      obtain ⟨rfl, rfl⟩ := e
      rw [Maps.atKey_del_same, cntK_self h.nodup]
    · rw [Maps.atKey_del_other (kl_ne ha hc hp hq e), h.at' a c ha hc, cntK_erase h.nodup e]
/-- Side k of n corners, as a pair. -/
def sidK (n k : Nat) : Int × Int := (((min k ((k + 1) % n) : Nat) : Int), ((max k ((k + 1) % n) : Nat) : Int))
def dropS (n : Nat) (K : List (Int × Int)) : Nat → List (Int × Int)
  | 0 => K
  | k + 1 => (dropS n K k).erase (sidK n k)
theorem elemI_inv (v : Value) (z : DataW Unit × List MemPlace) (h : plainElem Try.prog 3 v = some z) : ∃ c, v = Value.int .i64 c := by
  obtain ⟨c, rfl, -⟩ := plainElem_int_inv Try.underlying3 h
  exact ⟨c, rfl⟩
theorem litI_inj {a b : Int} (h : (DataW.lit (.int .i64 a) : DataW Unit) = .lit (.int .i64 b)) : a = b := by
  injection h with h
  injection h
theorem grown_refl' (w : World) (row : Option Nat) : w.grownBy w row := ⟨rfl, rfl, rfl, Nat.le_refl _, fun _ _ _ => rfl⟩
/-- What areUsedRightly answers. -/
def UsedP (b n : Nat) (K : List (Int × Int)) (f : Int × Int → Int) (w : World) (e : Ending) (w' : World) : Prop := ∃ r : Bool, e = .returned (.bool r) ∧
  (r = true ↔ ((∀ k, k < n → cntK (dropS n K k) f (sidK n k) = 1) ∧ ∀ z ∈ dropS n K n, f z = 2)) ∧ w.grownBy w' (some b)
theorem usedP_mk {b n : Nat} {K : List (Int × Int)} {f : Int × Int → Int} {w w' : World} {e : Ending} (r : Bool) (he : e = .returned (.bool r)) (h : r = true ↔ ((∀ k, k < n → cntK (dropS n K k) f (sidK n k) = 1) ∧ ∀ z ∈ dropS n K n, f z = 2)) (hg : w.grownBy w' (some b)) : UsedP b n K f w e w' := ⟨r, he, h, hg⟩
set_option maxRecDepth 100000 in
set_option maxHeartbeats 2000000 in
theorem used_any (b n nb : Nat) (K : List (Int × Int)) (f : Int × Int → Int) (D : DataW Unit) (w : World) (h : MapC w b K f nb D) (h3 : 3 ≤ n) (h10 : n ≤ 10) :
    Calls Try.prog 62 #[.map (some b), .int .i64 (n : Int)] w (UsedP b n K f w) := by
  have HM := Lib.hid h
  have hbl := h.own.lt
  have hmin : ∀ (w : World) (x y : Int) (ts : Array TypeId) (t : TypeId), (Builtin.min_ ts t #[.int .i64 x, .int .i64 y]).run Try.prog w = .ok (.int .i64 (minI x y)) w := run_minI
  have hmax : ∀ (w : World) (x y : Int) (ts : Array TypeId) (t : TypeId), (Builtin.max_ ts t #[.int .i64 x, .int .i64 y]).run Try.prog w = .ok (.int .i64 (maxI x y)) w := run_maxI
  clear h
  go_enter Try.func62, Try.ntmps62
  go_wp2_with fail
  go_loopw [5, 6, 7, 11] (fun _ _ _ i wr => ∃ k : Nat, k ≤ n ∧ i = .int .i64 k ∧ Hid (∃ D, MapC wr b (dropS n K k) f nb D) ∧ Hid (∀ j, j < k → cntK (dropS n K j) f (sidK n j) = 1) ∧ Hid (w.grownBy wr (some b))) (fun _ _ _ i _ => n - (intOf i).toNat)
  case atStart => exact ⟨0, Nat.zero_le _, rfl, ⟨D, HM.out⟩, fun j hj => by omega, grown_refl' _ _⟩
  case round =>
    obtain ⟨wo, rfl⟩ : ∃ wo : World, wo = wr := ⟨_, rfl⟩
    obtain ⟨k, hk, rfl, HD, HC, HG⟩ := hrel
    by_cases hlt : k < n
    · obtain ⟨hr, hrl⟩ := next_int (i := k) (n := n) (by omega)
      obtain ⟨r, hrr⟩ : ∃ r, r = (k + 1) % n := ⟨_, rfl⟩
      rw [← hrr] at hr hrl
      obtain ⟨px, hpx⟩ : ∃ px : Int, px = minI (k : Int) (r : Int) := ⟨_, rfl⟩
      obtain ⟨qx, hqx⟩ : ∃ qx : Int, qx = maxI (k : Int) (r : Int) := ⟨_, rfl⟩
      have HSD : Hid (sidK n k = (px, qx)) := by
        show _ = _
        rw [sidK, ← hrr, hpx, hqx]
        unfold minI maxI
        refine Prod.ext ?_ ?_
        · show ((min k r : Nat) : Int) = _
          split <;> omega
        · show ((max k r : Nat) : Int) = _
          split <;> omega
      have wp : wf64 px := WalkArith.wf_i64 (by rw [hpx]; unfold minI; split <;> omega)
      have wq : wf64 qx := WalkArith.wf_i64 (by rw [hqx]; unfold maxI; split <;> omega)
      have e1 : minI (k : Int) (r : Int) = px := hpx.symm
      have e2 : maxI (k : Int) (r : Int) = qx := hqx.symm
      obtain ⟨Dk, hDk⟩ := HD.out
      have HDK := Lib.hid hDk
      have hown := hDk.own
      have hb64 : -9223372036854775808 ≤ (k : Int) + 1 ∧ (k : Int) + 1 ≤ 9223372036854775807 := by omega
      have f1 : wrap64 ((k : Int) + 1) = (k : Int) + 1 := IntWalk.wrap64_in _ hb64
      have f2 : IntKind.i64.wrap ((k : Int) + 1) = (k : Int) + 1 := IntWalk.i64_in _ hb64
      have hne : ¬ n = 0 := by omega
      have hnw := at_new wo px qx 72
      have HNW := Lib.hid hnw
      have v1 := hnw.c0; have v2 := hnw.c1
      clear hpx hqx hrr hDk hb64 hnw
      have hat0 := HDK.out.at' px qx wp wq
      obtain ⟨cz, hcz⟩ : ∃ cz, Hid (cz = cntK (dropS n K k) f (px, qx)) := ⟨_, rfl⟩
      rw [← hcz.out] at hat0
      have HW0 := Lib.hid hat0
      have HOWN := Lib.hid hown
      clear hat0
      have HG2 : Hid (∀ w1, (wo.alloc (.cells #[.int .i64 px, .int .i64 qx] 72)).mapTurned w1 b → w.grownBy w1 (some b)) := fun w1 hturn1 => (HG.out.andThen (World.grownBy_alloc wo (.cells #[.int .i64 px, .int .i64 qx] 72) none) (fun j hj => by cases hj)).andThen hturn1.grown (fun j hj => by cases hj; exact .inr rfl)
      have HG3 : Hid (w.grownBy (wo.alloc (.cells #[.int .i64 px, .int .i64 qx] 72)) (some b)) := HG.out.andThen (World.grownBy_alloc wo (.cells #[.int .i64 px, .int .i64 qx] 72) none) (fun j hj => by cases hj)
      go_wp2_with (first
        | (at_lookup; refine wpList_lookup_own_int _ rfl _ _ 70 rfl 72 3 .i64 pr_keyed Try.underlying70 Try.underlying3 (zeroI _) b nb Dk rfl (hown.alloc _) _ _ rfl (pr_key wp wq) ?_; intro cv hat hwc; replace hat := Lib.hid hat)
        | (at_delete; refine wpList_delete_own _ rfl _ _ 70 72 rfl 3 pr_keyed Try.underlying70 _ b nb Dk rfl (hown.alloc _) _ _ rfl (pr_key wp wq) ?_; intro w1 hown1 hturn1))
      · rename_i hc1
        clear f1 f2
        have ec : cv = cz := (litI_inj (HW0.out.symm.trans hat.out)).symm
        have HNO : Hid ((false = true) ↔ ((∀ k, k < n → cntK (dropS n K k) f (sidK n k) = 1) ∧ ∀ z ∈ dropS n K n, f z = 2)) :=
          ⟨fun q => absurd q Bool.false_ne_true, fun q => by
            have q1 := q.1 k hlt
            rw [HSD.out, ← hcz.out, ← ec] at q1
            rw [q1] at hc1
            exact absurd hc1 (by decide)⟩
        go_ret
        exact usedP_mk false rfl HNO.out HG3.out
      · rename_i hc1
        clear f1 f2
        have ec : cv = cz := (litI_inj (HW0.out.symm.trans hat.out)).symm
        have HC2 : Hid (∀ j, j < k + 1 → cntK (dropS n K j) f (sidK n j) = 1) := fun j hj => by
          rcases Nat.lt_or_ge j k with q | q
          · exact HC.out j q
          · obtain rfl : j = k := by omega
            rw [HSD.out, ← hcz.out, ← ec]
            simpa using hc1
        have HD2 : Hid (∃ D, MapC w1 b (dropS n K (k + 1)) f nb D) := ⟨_, by
          have q := mapC_del HDK.out wp wq hown1
          show MapC w1 b ((dropS n K k).erase (sidK n k)) f nb _
          rw [HSD.out]; exact q⟩
        have HG4 := Lib.hid (HG2.out w1 hturn1)
        clear hown1 hturn1
        refine ⟨⟨k + 1, hlt, by go_num, HD2, HC2, HG4⟩, ?_⟩
        simp [intOf]; omega
    · have e : k = n := by omega
      obtain ⟨Dn, hDn⟩ := HD.out
      rw [e] at hDn
      have HCN : Hid (∀ j, j < n → cntK (dropS n K j) f (sidK n j) = 1) := fun j hj => HC.out j (by omega)
      have hown := hDn.own
      have HDN := Lib.hid hDn
      clear HC e hDn
      have hsz : b < wo.heap.size := hown.lt
      go_wp2_with (at_range; refine wpList_range_own _ rfl _ 70 rfl 72 3 pr_keyed Try.underlying70 _ b nb Dn rfl hown ?_; intro w3 hrg0 hg0 hs0)
      have HRG0 := Lib.hid hrg0
      have HG0 : Hid (w.grownBy w3 (some b)) := HG.out.andThen hg0 (fun j hj => by cases hj)
      have hbr : Hid (w.heap.size ≤ wo.heap.size) := HG.out.size
      clear hrg0 hg0 hs0 hown
      go_frame
      go_loopw [9] (fun _ wr => ∃ (left : Lit → Bool) (cnt : Nat), Hid (wr.ranges Try.prog 72 (plainElem Try.prog 3) b wo.heap.size nb Dn left cnt) ∧ Hid (∀ a c, wf64 a → wf64 c → left (kl a c) = true → (a, c) ∈ dropS n K n) ∧ Hid (∀ z ∈ dropS n K n, left (kl z.1 z.2) = false → f z = 2) ∧ Hid (w.grownBy wr (some b))) (fun _ wr => wr.rangeLeft b wo.heap.size)
      case atStart => exact ⟨_, _, HRG0, fun a c ha hc hl => (HDN.out.has a c ha hc).1 hl, fun z hz hl => (by
        have q := (HDN.out.has z.1 z.2 (HDN.out.wf z hz).1 (HDN.out.wf z hz).2).2 hz
        rw [q] at hl; cases hl), HG0⟩
      case round =>
        obtain ⟨wq', rfl⟩ : ∃ wq' : World, wq' = wr := ⟨_, rfl⟩
        obtain ⟨left, cnt, HRG, HIN, HTW, HGW⟩ := hrel
        have hrg := HRG.out
        go_wp2_with (first
          | (at_next; refine wpList_next_ranges _ rfl _ rfl 72 pr_keyed (plainElem Try.prog 3) prV (Value.int .i64) prV_inv elemI_inv b wo.heap.size nb Dn left cnt rfl hrg ?_ ?_)
          | go_in)
        · intro _ hl0
          have HY : Hid ((∀ k, k < n → cntK (dropS n K k) f (sidK n k) = 1) ∧ ∀ z ∈ dropS n K n, f z = 2) := ⟨HCN.out, fun z hz => HTW.out z hz (hl0 _)⟩
          clear hrg
          go_wp2_with fail
          go_ret
          exact usedP_mk true rfl ⟨fun _ => HY.out, fun _ => rfl⟩ HGW.out
        · intro xa xc c l yd yp w5 cnt1 hkey hlx hv hat hrg1 hlt1 hg1 hs1 hen
          obtain ⟨za, zc, ez, rfl, hwa, hwc⟩ := pr_inv hkey
          have ez2 : xa = za ∧ xc = zc := by simpa [prV] using ez
          obtain ⟨rfl, rfl⟩ := ez2
          have hzin := HIN.out xa xc hwa hwc hlx
          have hfc : f (xa, xc) = c := by
            obtain ⟨c', ec, hy, _⟩ := plainElem_int_inv Try.underlying3 hv
            have ec2 : c = c' := by simpa using ec
            have q := (HDN.out.at' xa xc hwa hwc).symm.trans (hat _)
            have q2 : yd = .lit (.int .i64 c') := congrArg Prod.fst hy
            rw [q2] at q
            have q3 := litI_inj q
            rw [cntK, (List.contains_iff_mem).2 hzin] at q3
            rw [ec2]; exact q3
          have HF := Lib.hid (And.intro hzin hfc)
          have HRG1 := Lib.hid hrg1
          have HLT := Lib.hid hlt1
          have HGN : Hid (w.grownBy w5 (some b)) := HGW.out.andThen hg1 (fun j hj => by cases hj; exact .inl hbr.out)
          have HIN2 : Hid (∀ a c, wf64 a → wf64 c → (left (kl a c) && !(kl a c).sameKey (kl xa xc)) = true → (a, c) ∈ dropS n K n) := fun a c ha hc hl => HIN.out a c ha hc (by rw [Bool.and_eq_true] at hl; exact hl.1)
          clear hrg hrg1 hlt1 hg1 hs1 hkey hlx hv hat hzin hfc ez
          by_cases hc2 : c = 2
          · have HTW2 : Hid (∀ z ∈ dropS n K n, (left (kl z.1 z.2) && !(kl z.1 z.2).sameKey (kl xa xc)) = false → f z = 2) := fun z hz hl => by
              cases hq : left (kl z.1 z.2)
              · exact HTW.out z hz hq
              · rw [hq, Bool.true_and, Bool.not_eq_false'] at hl
                have wz := HDN.out.wf z hz
                obtain ⟨g1, g2⟩ := kl_inj wz.1 wz.2 hwa hwc (WideAt.sameKey_eq hl)
                have : z = (xa, xc) := Prod.ext g1 g2
                rw [this, HF.out.2]; exact hc2
            have hc2' : (c != 2) = false := by rw [bne_eq_false_iff_eq]; exact hc2
            have HC2 := Lib.hid hc2
            clear hc2
            go_wp2_with fail
            go_roundw
            case rel => exact ⟨_, cnt1, HRG1, HIN2, HTW2, HGN⟩
            case measure => rw [HRG1.out.left_eq, HRG.out.left_eq]; exact HLT.out
          · have hc2' : (c != 2) = true := by rw [bne_iff_ne]; exact hc2
            have HNO : Hid ((false = true) ↔ ((∀ k, k < n → cntK (dropS n K k) f (sidK n k) = 1) ∧ ∀ z ∈ dropS n K n, f z = 2)) :=
              ⟨fun q => absurd q Bool.false_ne_true, fun q => absurd (by rw [← HF.out.2]; exact q.2 _ HF.out.1) hc2⟩
            clear hc2
            go_wp2_with fail
            go_ret
            exact usedP_mk false rfl HNO.out HGN.out
end Go.Proofs.Ytoemmaeglhdjnaa

/-
  Sides once, all else twice: what areUsedRightly asks of its map is what the model asks of its counts (plain).
-/
namespace Go.Proofs.Ytoemmaeglhdjnaa

theorem mem_drop {n : Nat} {K : List (Int × Int)} (hn : K.Nodup) : ∀ k, (dropS n K k).Nodup ∧ ∀ z, z ∈ dropS n K k ↔ z ∈ K ∧ ∀ j, j < k → z ≠ sidK n j := by
  intro k
  induction k with
  | zero => exact ⟨hn, fun z => ⟨fun h => ⟨h, fun j hj => absurd hj (Nat.not_lt_zero _)⟩, fun h => h.1⟩⟩
  | succ k ih =>
    refine ⟨ih.1.sublist List.erase_sublist, fun z => ?_⟩
    rw [dropS, ih.1.mem_erase_iff, ih.2 z]
    constructor
    · rintro ⟨h1, h2, h3⟩
      refine ⟨h2, fun j hj => ?_⟩
      rcases Nat.lt_or_ge j k with q | q
      · exact h3 j q
      · obtain rfl : j = k := by omega
        exact h1
    · rintro ⟨h1, h2⟩
      exact ⟨h2 k (Nat.lt_succ_self _), h1, fun j hj => h2 j (Nat.lt_succ_of_lt hj)⟩
theorem sid_in {n k : Nat} (h : k + 1 < n) : sidK n k = ((k : Int), ((k + 1 : Nat) : Int)) := by
  rw [sidK, Nat.mod_eq_of_lt h, Nat.min_eq_left (Nat.le_succ _), Nat.max_eq_right (Nat.le_succ _)]
theorem sid_last {n : Nat} (h : 1 ≤ n) : sidK n (n - 1) = (((0 : Nat) : Int), ((n - 1 : Nat) : Int)) := by
  rw [sidK, Nat.sub_add_cancel h, Nat.mod_self, Nat.min_eq_right (Nat.zero_le _), Nat.max_eq_left (Nat.zero_le _)]
theorem sid_ne {n j k : Nat} (h3 : 3 ≤ n) (hj : j < k) (hk : k < n) : sidK n k ≠ sidK n j := by
  rw [sid_in (by omega : j + 1 < n)]
  by_cases e : k + 1 < n
  · rw [sid_in e]
    intro h
    simp only [Prod.mk.injEq] at h
    omega
  · obtain rfl : k = n - 1 := by omega
    rw [sid_last (by omega)]
    intro h
    simp only [Prod.mk.injEq] at h
    omega
/-- Corners i and k of n are neighbours. -/
def nbr (n i k : Nat) : Prop := k = i + 1 ∨ (i = 0 ∧ k = n - 1)
theorem nbr_sid {n i k : Nat} (h3 : 3 ≤ n) (hk : k < n) (h : nbr n i k) : ∃ j, j < n ∧ sidK n j = ((i : Int), (k : Int)) := by
  rcases h with rfl | ⟨rfl, rfl⟩
  · exact ⟨i, by omega, sid_in hk⟩
  · exact ⟨n - 1, by omega, sid_last (by omega)⟩
theorem sid_nbr {n j : Nat} (h3 : 3 ≤ n) (hj : j < n) : ∃ i k : Nat, i < k ∧ k < n ∧ nbr n i k ∧ sidK n j = ((i : Int), (k : Int)) := by
  by_cases e : j + 1 < n
  · exact ⟨j, j + 1, by omega, e, .inl rfl, sid_in e⟩
  · obtain rfl : j = n - 1 := by omega
    exact ⟨0, n - 1, by omega, by omega, .inr ⟨rfl, rfl⟩, sid_last (by omega)⟩
theorem cntK_count {K E : List (Int × Int)} {f : Int × Int → Int} (hm : ∀ z, z ∈ K ↔ z ∈ E) (hf : ∀ z ∈ K, f z = (E.count z : Int)) (z : Int × Int) : cntK K f z = (E.count z : Int) := by
  unfold cntK
  by_cases h : z ∈ K
  · rw [List.contains_iff_mem.2 h, hf z h]; rfl
  · have e : K.contains z = false := by rw [← Bool.not_eq_true, List.contains_iff_mem]; exact h
    rw [e, List.count_eq_zero_of_not_mem (fun q => h ((hm z).2 q))]; rfl
theorem cntK_drop {n k : Nat} {K : List (Int × Int)} {f : Int × Int → Int} (hn : K.Nodup) (h3 : 3 ≤ n) (hk : k < n) : cntK (dropS n K k) f (sidK n k) = cntK K f (sidK n k) := by
  have e : (dropS n K k).contains (sidK n k) = K.contains (sidK n k) := by
    rw [Bool.eq_iff_iff, List.contains_iff_mem, List.contains_iff_mem, (mem_drop hn k).2]
    exact ⟨fun q => q.1, fun q => ⟨q, fun j hj => sid_ne h3 hj hk⟩⟩
  rw [cntK, cntK, e]
/-- E: the sides of the triangles, each as often as it occurs. -/
theorem used_iff {n : Nat} {K E : List (Int × Int)} {f : Int × Int → Int} (h3 : 3 ≤ n) (hE : ∀ z ∈ E, ∃ i k : Nat, i < k ∧ k < n ∧ z = ((i : Int), (k : Int))) (hn : K.Nodup) (hm : ∀ z, z ∈ K ↔ z ∈ E) (hf : ∀ z ∈ K, f z = (E.count z : Int)) :
    ((∀ k, k < n → cntK (dropS n K k) f (sidK n k) = 1) ∧ ∀ z ∈ dropS n K n, f z = 2) ↔
      ∀ i k : Nat, i < k → k < n → (nbr n i k → E.count ((i : Int), (k : Int)) = 1) ∧ (¬ nbr n i k → E.count ((i : Int), (k : Int)) = 0 ∨ E.count ((i : Int), (k : Int)) = 2) := by
  constructor
  · rintro ⟨h1, h2⟩ i k hik hk
    constructor
    · intro hs
      obtain ⟨j, hj, e⟩ := nbr_sid h3 hk hs
      have q := h1 j hj
      rw [cntK_drop hn h3 hj, cntK_count hm hf, e] at q
      omega
    · intro hs
      by_cases hz : ((i : Int), (k : Int)) ∈ E
      · right
        have hK := (hm _).2 hz
        have q := h2 _ (((mem_drop hn n).2 ((i : Int), (k : Int))).2 ⟨hK, fun j hj e => by
          obtain ⟨i', k', _, _, hs', e'⟩ := sid_nbr h3 hj
          rw [e'] at e
          simp only [Prod.mk.injEq] at e
          obtain rfl : i = i' := by omega
          obtain rfl : k = k' := by omega
          exact hs hs'⟩)
        rw [hf _ hK] at q
        omega
      · exact .inl (List.count_eq_zero_of_not_mem hz)
  · intro h
    constructor
    · intro j hj
      obtain ⟨i, k, hik, hk, hs, e⟩ := sid_nbr h3 hj
      rw [cntK_drop hn h3 hj, cntK_count hm hf, e, (h i k hik hk).1 hs]
      rfl
    · intro z hz
      obtain ⟨hK, hne⟩ := ((mem_drop hn n).2 z).1 hz
      obtain ⟨i, k, hik, hk, rfl⟩ := hE z ((hm z).1 hK)
      have hs : ¬ nbr n i k := fun hs => by
        obtain ⟨j, hj, e⟩ := nbr_sid h3 hk hs
        exact hne j hj e.symm
      have hp : 0 < E.count ((i : Int), (k : Int)) := List.count_pos_iff.2 ((hm _).1 hK)
      rw [hf _ hK]
      rcases (h i k hik hk).2 hs with q | q
      · omega
      · rw [q]; rfl
end Go.Proofs.Ytoemmaeglhdjnaa

/-
  The model's array of counts, the sum of the areas, and what IsTriangulation is to answer (plain).
-/
namespace Go.Proofs.Ytoemmaeglhdjnaa
open Go.RowKit

/-- The three sides of a triangle. -/
def sidesT (M : List Int) : List (Int × Int) := [(M.getD 0 0, M.getD 1 0), (M.getD 1 0, M.getD 2 0), (M.getD 0 0, M.getD 2 0)]
def sidesTs (Ms : List (List Int)) : List (Int × Int) := Ms.flatMap sidesT
def areaSum (L : List (Int × Int)) (Ms : List (List Int)) : Int := (Ms.map (areaT L)).sum
/-- The array: at a * n + b how often (a, b) occurs. -/
def cntA (n : Nat) (E : List (Int × Int)) : List Int := (List.range (n * n)).map fun z => (E.count (((z / n : Nat) : Int), ((z % n : Nat) : Int)) : Int)
theorem cntA_len (n : Nat) (E : List (Int × Int)) : (cntA n E).length = n * n := by simp [cntA]
theorem at_lt {n a b : Nat} (ha : a < n) (hb : b < n) : a * n + b < n * n := by
  have h : a * n + n ≤ n * n := by rw [← Nat.succ_mul]; exact Nat.mul_le_mul_right n ha
  omega
theorem at_div {n a b : Nat} (hb : b < n) : (a * n + b) / n = a := by
  rw [Nat.mul_comm, Nat.mul_add_div (by omega), Nat.div_eq_of_lt hb, Nat.add_zero]
theorem at_mod {n a b : Nat} (hb : b < n) : (a * n + b) % n = b := by
  rw [Nat.mul_comm, Nat.mul_add_mod, Nat.mod_eq_of_lt hb]
theorem cntA_at {n a b : Nat} {E : List (Int × Int)} (ha : a < n) (hb : b < n) : (cntA n E)[a * n + b]'(by rw [cntA_len]; exact at_lt ha hb) = (E.count ((a : Int), (b : Int)) : Int) := by
  simp only [cntA, List.getElem_map, List.getElem_range, at_div hb, at_mod hb]
theorem cntA_nil (n : Nat) : cntA n [] = List.replicate (n * n) 0 := by
  rw [cntA]
  simp only [List.count_nil]
  rw [List.map_const', List.length_range]; rfl
theorem cntA_set {n a b : Nat} {E : List (Int × Int)} (ha : a < n) (hb : b < n) : (cntA n E).set (a * n + b) ((E.count ((a : Int), (b : Int)) : Int) + 1) = cntA n (E ++ [((a : Int), (b : Int))]) := by
  refine List.ext_getElem (by rw [List.length_set, cntA_len, cntA_len]) fun z h1 h2 => ?_
  rw [cntA_len] at h2
  have hn : 0 < n := by omega
  rw [List.getElem_set]
  by_cases e : a * n + b = z
  · subst e
    rw [if_pos rfl, cntA_at ha hb, List.count_append, List.count_singleton_self]
    rfl
  · rw [if_neg e]
    simp only [cntA, List.getElem_map, List.getElem_range, List.count_append]
    have q : ¬ (((a : Int), (b : Int)) == (((z / n : Nat) : Int), ((z % n : Nat) : Int))) = true := by
      intro h
      have h := eq_of_beq h
      simp only [Prod.mk.injEq] at h
      have ea : z / n = a := by omega
      have eb : z % n = b := by omega
      have := Nat.div_add_mod z n
      rw [ea, eb, Nat.mul_comm] at this
      exact e this
    rw [List.count_singleton, if_neg q]
    rfl
theorem ints_setI (M : List Int) (k : Nat) (x : Int) : (ints M).set k (.int .i64 x) = ints (M.set k x) := by
  simp [ints, List.map_set]
theorem sidesTs_snoc (Ms : List (List Int)) (M : List Int) : sidesTs (Ms ++ [M]) = sidesTs Ms ++ sidesT M := by simp [sidesTs]
theorem areaSum_snoc (L : List (Int × Int)) (Ms : List (List Int)) (M : List Int) : areaSum L (Ms ++ [M]) = areaSum L Ms + areaT L M := by simp [areaSum]
theorem count_sidesTs (Ms : List (List Int)) (z : Int × Int) : (sidesTs Ms).count z ≤ 3 * Ms.length := by
  have h := List.count_le_length (a := z) (l := sidesTs Ms)
  have e : (sidesTs Ms).length = 3 * Ms.length := by
    clear h
    induction Ms with
    | nil => rfl
    | cons M Ms ih => rw [sidesTs, List.flatMap_cons, List.length_append, ← sidesTs, ih, sidesT]; simp; omega
  omega
theorem areaT_bd {L : List (Int × Int)} (hok : allOk L = true) (M : List Int) : 0 ≤ areaT L M ∧ areaT L M ≤ 3200 := by
  cases h : triOk L.length M
  · rw [areaT, h]; exact ⟨Int.le_refl 0, (by decide : (0 : Int) ≤ 3200)⟩
  · obtain ⟨a, b, d, rfl, h1, h2, h3⟩ := triOk_nat h
    rw [area_of h1 h2 h3]
    have q : (crossP (gt L a) (gt L b) (gt L d)).natAbs ≤ 3200 := crossI_bound (all_at hok (by omega)) (all_at hok (by omega)) (all_at hok h3)
    unfold maxI
    split <;> omega
theorem areaSum_bd {L : List (Int × Int)} (hok : allOk L = true) (Ms : List (List Int)) : 0 ≤ areaSum L Ms ∧ areaSum L Ms ≤ 3200 * (Ms.length : Int) := by
  induction Ms with
  | nil => exact ⟨Int.le_refl _, Int.le_refl _⟩
  | cons M Ms ih =>
    have q := areaT_bd hok M
    have e : areaSum L (M :: Ms) = areaT L M + areaSum L Ms := by simp [areaSum]
    rw [e, List.length_cons]
    omega
/-- Each side once, all else not at all or twice. -/
def Uses (n : Nat) (E : List (Int × Int)) : Prop := ∀ i k : Nat, i < k → k < n → (nbr n i k → E.count ((i : Int), (k : Int)) = 1) ∧ (¬ nbr n i k → E.count ((i : Int), (k : Int)) = 0 ∨ E.count ((i : Int), (k : Int)) = 2)
open Classical in
/-- What IsTriangulation is to answer. -/
noncomputable def isTri (L : List (Int × Int)) (Ms : List (List Int)) : Bool :=
  polyB L && (decide ((Ms.length : Int) = (L.length : Int) - 2) && ((Ms.all fun M => decide (areaT L M ≠ 0)) && (decide (Uses L.length (sidesTs Ms)) && decide (areaSum L Ms = maxI (twiceI L) (-twiceI L)))))
theorem sides_form {n : Nat} {Ms : List (List Int)} (h : ∀ M ∈ Ms, triOk n M = true) : ∀ z ∈ sidesTs Ms, ∃ i k : Nat, i < k ∧ k < n ∧ z = ((i : Int), (k : Int)) := by
  intro z hz
  obtain ⟨M, hM, hz⟩ := List.mem_flatMap.1 hz
  obtain ⟨a, b, d, rfl, h1, h2, h3⟩ := triOk_nat (h M hM)
  simp only [sidesT, List.getD_cons_zero, List.getD_cons_succ, List.mem_cons, List.not_mem_nil, or_false] at hz
  rcases hz with rfl | rfl | rfl
  · exact ⟨a, b, h1, by omega, rfl⟩
  · exact ⟨b, d, h2, h3, rfl⟩
  · exact ⟨a, d, by omega, h3, rfl⟩
theorem triOk_area {L : List (Int × Int)} {M : List Int} (h : areaT L M ≠ 0) : triOk L.length M = true := by
  cases e : triOk L.length M
  · rw [areaT, e] at h; exact absurd rfl h
  · rfl
end Go.Proofs.Ytoemmaeglhdjnaa
