/-
  Walks for l03Twice, TwiceArea, l03Rim, RimPoints of the model.
-/
import Derived.Test.YtklbambnnkdjlaaPoly
import Derived.Test.YtklbambnnkdjlaaSteps
namespace Go.Proofs.Ytklbambnnkdjlaa
open Go.RowKit

/-- The sum of the first k terms. -/
def sumT (f : Nat → Int) : Nat → Int
  | 0 => 0
  | k + 1 => sumT f k + f k
theorem sumT_abs {f : Nat → Int} {m : Nat} (n : Nat) (h : ∀ i, i < n → (f i).natAbs ≤ m) : ∀ k, k ≤ n → (sumT f k).natAbs ≤ k * m
  | 0, _ => by simp [sumT]
  | k + 1, hk => by
    have h1 := sumT_abs n h k (by omega)
    have h2 := h k (by omega)
    simp only [sumT]
    have e : (k + 1) * m = k * m + m := Nat.succ_mul k m
    rw [e]
    generalize k * m = a at *
    omega
def nx (L : List (Int × Int)) (i : Nat) : Nat := (i + 1) % L.length
def twiceT (L : List (Int × Int)) (i : Nat) : Int := (gt L i).1 * (gt L (nx L i)).2 - (gt L i).2 * (gt L (nx L i)).1
def twiceI (L : List (Int × Int)) : Int := sumT (twiceT L) L.length
def rimT (L : List (Int × Int)) (i : Nat) : Int := (stepsN (gt L i).1 (gt L i).2 (gt L (nx L i)).1 (gt L (nx L i)).2 : Int)
def rimI (L : List (Int × Int)) : Int := sumT (rimT L) L.length
theorem polyB_all {L : List (Int × Int)} (h : polyB L = true) : 3 ≤ L.length ∧ L.length ≤ 10 ∧ allOk L = true := by
  simp only [polyB, Bool.and_eq_true, inB_spec] at h
  exact ⟨by omega, by omega, h.1.1.2⟩
set_option maxHeartbeats 2000000 in
theorem twice_any (A : Option Addr) (c : Nat) (L : List (Int × Int)) (w : World) (hA : PtsA w A L) (h1 : 1 ≤ L.length) (h2 : L.length ≤ 10) (hok : allOk L = true) :
    Calls Try.prog 46 #[.slice A L.length c] w fun e w' => e = .returned (.int .i64 (twiceI L)) ∧ Below w.heap.size w w' := by
  obtain ⟨g, rfl, -⟩ := hA 0 h1
  have HA := Lib.hid hA; clear hA
  have hbd : ∀ i, i < L.length → (twiceT L i).natAbs ≤ 3200 := fun i hi => by
    have a1 := okP_bounds (all_at hok hi)
    have a2 := okP_bounds (all_at hok (Nat.mod_lt (i + 1) h1))
    have m1 := abs_mul (x := (gt L i).1) (y := (gt L (nx L i)).2) (m := 40) (n := 40) (by omega) (by unfold nx; omega)
    have m2 := abs_mul (x := (gt L i).2) (y := (gt L (nx L i)).1) (m := 40) (n := 40) (by omega) (by unfold nx; omega)
    unfold twiceT
    generalize (gt L i).1 * (gt L (nx L i)).2 = u at *
    generalize (gt L i).2 * (gt L (nx L i)).1 = v at *
    omega
  have HBD := Lib.hid (sumT_abs L.length hbd)
  have HOK := Lib.hid hok
  clear hbd hok
  go_enter Try.func46, Try.ntmps46
  go_wp2_with fail
  go_loopw [3, 4, 5, 6, 9] (fun s _ _ _ i wr => ∃ k : Nat, k ≤ L.length ∧ i = .int .i64 k ∧ s = .int .i64 (sumT (twiceT L) k) ∧ Below w.heap.size w wr) (fun _ _ _ _ i _ => L.length - (intOf i).toNat)
  case atStart => exact ⟨0, Nat.zero_le _, rfl, rfl, Below.refl _ _⟩
  case round =>
    obtain ⟨wo, rfl⟩ : ∃ wo : World, wo = wr := ⟨_, rfl⟩
    obtain ⟨k, hk, rfl, rfl, hb⟩ := hrel
    by_cases hlt : k < L.length
    · obtain ⟨hr, hrl⟩ := next_int (i := k) h1
      have hap := ptsA_on HA.out hb
      obtain ⟨c1, c2⟩ := gt_cells hap hlt
      obtain ⟨c3, c4⟩ := gt_cells hap hrl
      have a1 := okP_bounds (all_at HOK.out hlt)
      have a2 := okP_bounds (all_at HOK.out hrl)
      have hS := HBD.out k (by omega)
      have HT : Hid (sumT (twiceT L) (k + 1) = sumT (twiceT L) k + ((gt L k).1 * (gt L ((k + 1) % L.length)).2 - (gt L k).2 * (gt L ((k + 1) % L.length)).1)) := rfl
      have m1 := abs_mul (x := (gt L k).1) (y := (gt L ((k + 1) % L.length)).2) (m := 40) (n := 40) (by omega) (by omega)
      have m2 := abs_mul (x := (gt L k).2) (y := (gt L ((k + 1) % L.length)).1) (m := 40) (n := 40) (by omega) (by omega)
      clear hap a1 a2
      generalize (k + 1) % L.length = r at *
      generalize sumT (twiceT L) k = S at *
      generalize (gt L k).1 = x at *
      generalize (gt L k).2 = y at *
      generalize (gt L r).1 = x' at *
      generalize (gt L r).2 = y' at *
      obtain ⟨u, hu⟩ : ∃ u, u = x * y' := ⟨_, rfl⟩
      obtain ⟨v, hv⟩ : ∃ v, v = y * x' := ⟨_, rfl⟩
      rw [← hu] at m1 HT
      rw [← hv] at m2 HT
      have hSk : S.natAbs ≤ 32000 := by omega
      have e1 : x * y' = u := hu.symm
      have e2 : y * x' = v := hv.symm
      have f1 : wrap64 u = u := IntWalk.wrap64_in _ (by omega)
      have f2 : wrap64 v = v := IntWalk.wrap64_in _ (by omega)
      have f3 : wrap64 (S + u) = S + u := IntWalk.wrap64_in _ (by omega)
      have f4 : wrap64 (S + u - v) = S + u - v := IntWalk.wrap64_in _ (by omega)
      have f5 : IntKind.i64.wrap ((k : Int) + 1) = (k : Int) + 1 := IntWalk.i64_in _ (by omega)
      have hp1 : (r : Int) < (L.length : Int) := by omega
      have hp2 : (0 : Int) ≤ (r : Int) := by omega
      have hne : ¬ L.length = 0 := by omega
      have hal := (Below.refl wo.heap.size wo).alloc (Nat.le_refl _) (.cells #[.int .i64 x, .int .i64 y] 33)
      have d3 := cell_on hal rfl c3; have d4 := cell_on hal rfl c4
      have b2 := (hb.alloc hb.size (.cells #[.int .i64 x, .int .i64 y] 33)).alloc (by have := hb.size; simp; omega) (.cells #[.int .i64 x', .int .i64 y'] 33)
      have R := Lib.hid b2
      clear hal b2 hb hu hv m1 m2 hS hSk
      go_wp2_with fail
      go_roundw
      case rel => exact ⟨k + 1, by omega, by go_num, by rw [HT.out]; first | rfl | (congr 1; omega), R.out⟩
      case measure => simp [intOf]; omega
    · obtain rfl : k = L.length := by omega
      go_wp2_with fail
      go_ret
      exact ⟨rfl, hb⟩
theorem spec_twice (A : Option Addr) (c : Nat) (L : List (Int × Int)) (w : World) (hA : PtsA w A L) (hL : L.length ≤ 1048576) :
    Calls Try.prog 18 #[.slice A L.length c] w fun e w' => e = .returned (.int .i64 (bif polyB L then twiceI L else 0)) ∧ Below w.heap.size w w' := by
  have HA := Lib.hid hA
  have HP := Lib.hid (spec_poly A c L w hA hL)
  clear hA
  go_enter Try.func18, Try.ntmps18
  go_wp2_with fail
  refine HP.out.mono ?_
  rintro e w1 ⟨rfl, b1⟩
  cases hp : polyB L
  · go_wp2_with fail
    go_ret
    exact ⟨ret_int (by rw [hp]; rfl), b1⟩
  · obtain ⟨q1, q2, q3⟩ := polyB_all hp
    have HT := Lib.hid (twice_any A c L w1 (ptsA_on HA.out b1) (by omega) q2 q3)
    clear q1 q2 q3
    go_wp2_with fail
    refine HT.out.mono ?_
    rintro e w2 ⟨rfl, b2⟩
    have b3 := below_on b1 b2
    go_wp2_with fail
    go_ret
    exact ⟨ret_int (by rw [hp]; rfl), b3⟩
set_option maxHeartbeats 2000000 in
theorem rim_any (A : Option Addr) (c : Nat) (L : List (Int × Int)) (w : World) (hA : PtsA w A L) (h1 : 1 ≤ L.length) (h2 : L.length ≤ 10) (hok : allOk L = true) :
    Calls Try.prog 49 #[.slice A L.length c] w fun e w' => e = .returned (.int .i64 (rimI L)) ∧ Below w.heap.size w w' := by
  obtain ⟨g, rfl, -⟩ := hA 0 h1
  have HA := Lib.hid hA; clear hA
  have hbd : ∀ i, i < L.length → (rimT L i).natAbs ≤ 40 := fun i hi => by
    have a1 := okP_bounds (all_at hok hi)
    have a2 := okP_bounds (all_at hok (Nat.mod_lt (i + 1) h1))
    have := gcd_le (dx := (gt L (nx L i)).1 - (gt L i).1) (dy := (gt L (nx L i)).2 - (gt L i).2) (by unfold nx; omega) (by unfold nx; omega)
    show (((stepsN _ _ _ _ : Nat) : Int)).natAbs ≤ 40
    rw [Int.natAbs_natCast]; exact this
  have HBD := Lib.hid (sumT_abs L.length hbd)
  have HB1 := Lib.hid hbd
  have HOK := Lib.hid hok
  clear hbd hok
  go_enter Try.func49, Try.ntmps49
  go_wp2_with fail
  go_loopw [3, 4, 5, 8] (fun s _ _ i wr => ∃ k : Nat, k ≤ L.length ∧ i = .int .i64 k ∧ s = .int .i64 (sumT (rimT L) k) ∧ Below w.heap.size w wr) (fun _ _ _ i _ => L.length - (intOf i).toNat)
  case atStart => exact ⟨0, Nat.zero_le _, rfl, rfl, Below.refl _ _⟩
  case round =>
    obtain ⟨wo, rfl⟩ : ∃ wo : World, wo = wr := ⟨_, rfl⟩
    obtain ⟨k, hk, rfl, rfl, hb⟩ := hrel
    by_cases hlt : k < L.length
    · obtain ⟨hr, hrl⟩ := next_int (i := k) h1
      have hap := ptsA_on HA.out hb
      obtain ⟨c1, c2⟩ := gt_cells hap hlt
      obtain ⟨c3, c4⟩ := gt_cells hap hrl
      have HST := Lib.hid (fun w => steps_any _ _ _ _ w (all_at HOK.out hlt) (all_at HOK.out hrl))
      have hS := HBD.out k (by omega)
      have hT1 := HB1.out k hlt
      have HT : Hid (sumT (rimT L) (k + 1) = sumT (rimT L) k + rimT L k) := rfl
      have hrt : (stepsN (gt L k).1 (gt L k).2 (gt L ((k + 1) % L.length)).1 (gt L ((k + 1) % L.length)).2 : Int) = rimT L k := rfl
      clear hap
      generalize (k + 1) % L.length = r at *
      generalize sumT (rimT L) k = S at *
      generalize rimT L k = T at *
      generalize (gt L k).1 = x at *
      generalize (gt L k).2 = y at *
      generalize (gt L r).1 = x' at *
      generalize (gt L r).2 = y' at *
      have f4 : IntKind.i64.wrap (S + T) = S + T := IntWalk.i64_in _ (by omega)
      have f5 : IntKind.i64.wrap ((k : Int) + 1) = (k : Int) + 1 := IntWalk.i64_in _ (by omega)
      have f6 : IntKind.i64.wrap (r : Int) = (r : Int) := IntWalk.i64_in _ (by omega)
      have hp1 : (r : Int) < (L.length : Int) := by omega
      have hp2 : (0 : Int) ≤ (r : Int) := by omega
      have hne : ¬ L.length = 0 := by omega
      have hal := (Below.refl wo.heap.size wo).alloc (Nat.le_refl _) (.cells #[.int .i64 x, .int .i64 y] 33)
      have d3 := cell_on hal rfl c3; have d4 := cell_on hal rfl c4
      have n1 := at_new wo x y 33
      have d1 := n1.c0; have d2 := n1.c1
      have b2 := hb.alloc hb.size (.cells #[.int .i64 x, .int .i64 y] 33)
      have k1 := cell_regrown d1; have k2 := cell_regrown d2; have k3 := cell_regrown d3; have k4 := cell_regrown d4
      clear hal n1 hb hS hT1
      go_wp2_with fail
      refine wp_region_quiet_below (by kernel_rfl) (by kernel_rfl) ?_
      repeat (first
        | go_big_quiet_step (first | exact Calls.regrown_of (HST.out _))
        | quiet_step (first | exact Calls.regrown_of (HST.out _)))
      refine wpQuiet_nil ?_
      rintro _ ⟨⟨dq, osq⟩, rfl⟩
      have R := Lib.hid (below_on b2 (below_regrown _ dq osq))
      clear k1 k2 k3 k4 d1 d2 d3 d4 b2 c1 c2 c3 c4
      go_wp2_with fail
      go_roundw
      case rel => exact ⟨k + 1, by omega, by go_num, by rw [HT.out], R.out⟩
      case measure => simp [intOf]; omega
    · obtain rfl : k = L.length := by omega
      go_wp2_with fail
      go_ret
      exact ⟨rfl, hb⟩
theorem spec_rim (A : Option Addr) (c : Nat) (L : List (Int × Int)) (w : World) (hA : PtsA w A L) (hL : L.length ≤ 1048576) :
    Calls Try.prog 20 #[.slice A L.length c] w fun e w' => e = .returned (.int .i64 (bif polyB L then rimI L else -1)) ∧ Below w.heap.size w w' := by
  have HA := Lib.hid hA
  have HP := Lib.hid (spec_poly A c L w hA hL)
  clear hA
  go_enter Try.func20, Try.ntmps20
  go_wp2_with fail
  refine HP.out.mono ?_
  rintro e w1 ⟨rfl, b1⟩
  cases hp : polyB L
  · go_wp2_with fail
    go_ret
    exact ⟨ret_int (by rw [hp]; rfl), b1⟩
  · obtain ⟨q1, q2, q3⟩ := polyB_all hp
    have HT := Lib.hid (rim_any A c L w1 (ptsA_on HA.out b1) (by omega) q2 q3)
    clear q1 q2 q3
    go_wp2_with fail
    refine HT.out.mono ?_
    rintro e w2 ⟨rfl, b2⟩
    have b3 := below_on b1 b2
    go_wp2_with fail
    go_ret
    exact ⟨ret_int (by rw [hp]; rfl), b3⟩
end Go.Proofs.Ytklbambnnkdjlaa
