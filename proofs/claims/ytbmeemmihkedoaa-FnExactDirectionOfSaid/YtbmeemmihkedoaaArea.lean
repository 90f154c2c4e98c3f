/-
  Walks for l03Twice, TwiceArea, l03Rim, RimPoints of the model.
-/
import Derived.Test.YtbmeemmihkedoaaPoly
import Derived.Test.YtbmeemmihkedoaaSteps
namespace Go.Proofs.Ytbmeemmihkedoaa
open Go.RowKit

/-- The sum of the first k terms. -/
def sumT (f : Nat → Int) : Nat → Int
  | 0 => 0
  | k + 1 => sumT f k + f k
theorem sumT_abs {f : Nat → Int} {m : Nat} (n : Nat) (h : ∀ i, i < n → (f i).natAbs ≤ m) : ∀ k, k ≤ n → (sumT f k).natAbs ≤ k * m
  | 0, _ => by simp [sumT]
  | k + 1, hk => by
    have h1 := sumT_abs n h k (by omega)
    have h2 := h k (by omega)
    simp only [sumT]
    have e : (k + 1) * m = k * m + m := Nat.succ_mul k m
    rw [e]
    generalize k * m = a at *
    omega
def nx (L : List (Int × Int)) (i : Nat) : Nat := (i + 1) % L.length
def twiceT (L : List (Int × Int)) (i : Nat) : Int := (gt L i).1 * (gt L (nx L i)).2 - (gt L i).2 * (gt L (nx L i)).1
def twiceI (L : List (Int × Int)) : Int := sumT (twiceT L) L.length
def rimT (L : List (Int × Int)) (i : Nat) : Int := (stepsN (gt L i).1 (gt L i).2 (gt L (nx L i)).1 (gt L (nx L i)).2 : Int)
def rimI (L : List (Int × Int)) : Int := sumT (rimT L) L.length
theorem polyB_all {L : List (Int × Int)} (h : polyB L = true) : 3 ≤ L.length ∧ L.length ≤ 10 ∧ allOk L = true := by
  simp only [polyB, Bool.and_eq_true, inB_spec] at h
  exact ⟨by omega, by omega, h.1.1.2⟩
set_option maxRecDepth 100000 in
set_option maxHeartbeats 2000000 in
theorem twice_any (A : Option Addr) (c : Nat) (L : List (Int × Int)) (w : World) (hA : PtsA w A L) (h1 : 1 ≤ L.length) (h2 : L.length ≤ 10) (hok : allOk L = true) :
    Calls Try.prog 85 #[.slice A L.length c] w fun e w' => e = .returned (.int .i64 (twiceI L)) ∧ Below w.heap.size w w' := by
  obtain ⟨g, rfl, -⟩ := hA 0 h1
  have HA := Lib.hid hA; clear hA
  have hbd : ∀ i, i < L.length → (twiceT L i).natAbs ≤ 3200 := fun i hi => by
    have a1 := okP_bounds (all_at hok hi)
    have a2 := okP_bounds (all_at hok (Nat.mod_lt (i + 1) h1))
    have m1 := abs_mul (x := (gt L i).1) (y := (gt L (nx L i)).2) (m := 40) (n := 40) (by omega) (by unfold nx; omega)
    have m2 := abs_mul (x := (gt L i).2) (y := (gt L (nx L i)).1) (m := 40) (n := 40) (by omega) (by unfold nx; omega)
    unfold twiceT
    generalize (gt L i).1 * (gt L (nx L i)).2 = u at *
    generalize (gt L i).2 * (gt L (nx L i)).1 = v at *
    omega
  have HBD := Lib.hid (sumT_abs L.length hbd)
  have HOK := Lib.hid hok
  clear hbd hok
  go_enter Try.func85, Try.ntmps85
  go_wp2_with fail
  go_loopw [3, 4, 5, 6, 9] (fun s _ _ _ i wr => ∃ k : Nat, k ≤ L.length ∧ i = .int .i64 k ∧ s = .int .i64 (sumT (twiceT L) k) ∧ Below w.heap.size w wr) (fun _ _ _ _ i _ => L.length - (intOf i).toNat)
  case atStart => exact ⟨0, Nat.zero_le _, rfl, rfl, Below.refl _ _⟩
  case round =>
    obtain ⟨wo, rfl⟩ : ∃ wo : World, wo = wr := ⟨_, rfl⟩
    obtain ⟨k, hk, rfl, rfl, hb⟩ := hrel
    by_cases hlt : k < L.length
    · obtain ⟨hr, hrl⟩ := next_int (i := k) h1
      have hap := ptsA_on HA.out hb
      obtain ⟨c1, c2⟩ := gt_cells hap hlt
      obtain ⟨c3, c4⟩ := gt_cells hap hrl
      have a1 := okP_bounds (all_at HOK.out hlt)
      have a2 := okP_bounds (all_at HOK.out hrl)
      have hS := HBD.out k (by omega)
      have HT : Hid (sumT (twiceT L) (k + 1) = sumT (twiceT L) k + ((gt L k).1 * (gt L ((k + 1) % L.length)).2 - (gt L k).2 * (gt L ((k + 1) % L.length)).1)) := rfl
      have m1 := abs_mul (x := (gt L k).1) (y := (gt L ((k + 1) % L.length)).2) (m := 40) (n := 40) (by omega) (by omega)
      have m2 := abs_mul (x := (gt L k).2) (y := (gt L ((k + 1) % L.length)).1) (m := 40) (n := 40) (by omega) (by omega)
      clear hap a1 a2
      generalize (k + 1) % L.length = r at *
      generalize sumT (twiceT L) k = S at *
      generalize (gt L k).1 = x at *
      generalize (gt L k).2 = y at *
      generalize (gt L r).1 = x' at *
      generalize (gt L r).2 = y' at *
      obtain ⟨u, hu⟩ : ∃ u, u = x * y' := ⟨_, rfl⟩
      obtain ⟨v, hv⟩ : ∃ v, v = y * x' := ⟨_, rfl⟩
      rw [← hu] at m1 HT
      rw [← hv] at m2 HT
      have hSk : S.natAbs ≤ 32000 := by omega
      have e1 : x * y' = u := hu.symm
      have e2 : y * x' = v := hv.symm
      have f1 : wrap64 u = u := IntWalk.wrap64_in _ (by omega)
      have f2 : wrap64 v = v := IntWalk.wrap64_in _ (by omega)
      have f3 : wrap64 (S + u) = S + u := IntWalk.wrap64_in _ (by omega)
      have f4 : wrap64 (S + u - v) = S + u - v := IntWalk.wrap64_in _ (by omega)
      have f5 : IntKind.i64.wrap ((k : Int) + 1) = (k : Int) + 1 := IntWalk.i64_in _ (by omega)
      have hp1 : (r : Int) < (L.length : Int) := by omega
      have hp2 : (0 : Int) ≤ (r : Int) := by omega
      have hne : ¬ L.length = 0 := by omega
      have hal := (Below.refl wo.heap.size wo).alloc (Nat.le_refl _) (.cells #[.int .i64 x, .int .i64 y] 27)
      have d3 := cell_on hal rfl c3; have d4 := cell_on hal rfl c4
      have b2 := (hb.alloc hb.size (.cells #[.int .i64 x, .int .i64 y] 27)).alloc (by have := hb.size; simp; omega) (.cells #[.int .i64 x', .int .i64 y'] 27)
      have R := Lib.hid b2
      clear hal b2 hb hu hv m1 m2 hS hSk
      go_wp2_with fail
      go_roundw
      case rel => exact ⟨k + 1, by omega, by go_num, by rw [HT.out]; first | rfl | (congr 1; omega), R.out⟩
      case measure => simp [intOf]; omega
    · obtain rfl : k = L.length := by omega
      go_wp2_with fail
      go_ret
      exact ⟨rfl, hb⟩
end Go.Proofs.Ytbmeemmihkedoaa
