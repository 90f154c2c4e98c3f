/-
  Shapes of cells: ShapeOk of both programs.
-/
import Derived.Test.YtimkknljoeiceaaPt
import Derived.Test.YtimkknljoeiceaaBitN
namespace Go.Proofs.Ytimkknljoeiceaa
open Go.RowKit

def shapeB (w h M : Int) : Bool := inB w 1 6 && inB h 1 6 && inB M 0 (2 ^ (w * h).toNat - 1)
theorem mul_le36 {w h : Int} (hw : 1 ≤ w ∧ w ≤ 6) (hh : 1 ≤ h ∧ h ≤ 6) : 1 ≤ w * h ∧ w * h ≤ 36 := by
  obtain ⟨h1, h2⟩ := hw
  have : w = 1 ∨ w = 2 ∨ w = 3 ∨ w = 4 ∨ w = 5 ∨ w = 6 := by omega
  rcases this with rfl | rfl | rfl | rfl | rfl | rfl <;> omega
theorem pow_le36 {n : Nat} (h : n ≤ 36) : (2 : Int) ^ n ≤ 68719476736 ∧ 1 ≤ (2 : Int) ^ n := by
  have h1 : (2 : Nat) ^ n ≤ 2 ^ 36 := Nat.pow_le_pow_right (by omega) h
  have h2 : 0 < (2 : Nat) ^ n := Nat.two_pow_pos n
  rw [pow_cast]
  omega
set_option maxRecDepth 100000 in
theorem spec_shape (w h M : Int) (W : World) : Calls Try.prog 24 #[.int .i64 w, .int .i64 h, .int .i64 M] W fun e w' => e = .returned (.bool (shapeB w h M)) ∧ w' = W := by
  have HB : Hid (shapeB w h M = (inB w 1 6 && inB h 1 6 && inB M 0 (2 ^ (w * h).toNat - 1))) := rfl
  cases h1 : inB w 1 6
  · rw [h1] at HB
    go_enter Try.func24, Try.ntmps24
    go_wp2_with fail
    refine (in_any _ _ _ _).mono ?_
    rintro e w1 ⟨rfl, rfl⟩
    rw [h1]
    go_wp2_with fail
    go_ret
    exact ⟨ret_bool HB.out.symm, rfl⟩
  cases h2 : inB h 1 6
  · rw [h1, h2] at HB
    go_enter Try.func24, Try.ntmps24
    go_wp2_with fail
    refine (in_any _ _ _ _).mono ?_
    rintro e w1 ⟨rfl, rfl⟩
    rw [h1]
    go_wp2_with fail
    refine (in_any _ _ _ _).mono ?_
    rintro e w1 ⟨rfl, rfl⟩
    rw [h2]
    go_wp2_with fail
    go_ret
    exact ⟨ret_bool HB.out.symm, rfl⟩
  have hm := mul_le36 (inB_spec.1 h1) (inB_spec.1 h2)
  rw [h1, h2] at HB
  obtain ⟨n, hn⟩ : ∃ n : Nat, w * h = n := ⟨(w * h).toNat, by omega⟩
  go_enter Try.func24, Try.ntmps24
  go_wp2_with fail
  refine (in_any _ _ _ _).mono ?_
  rintro e w1 ⟨rfl, rfl⟩
  rw [h1]
  go_wp2_with fail
  refine (in_any _ _ _ _).mono ?_
  rintro e w1 ⟨rfl, rfl⟩
  rw [h2]
  go_wp2_with fail
  refine (in_any _ _ _ _).mono ?_
  rintro e w1 ⟨rfl, rfl⟩
  go_wp2_with fail
  go_ret
  exact ⟨ret_bool (by
    have e1 := pow_le36 (n := n) (by omega)
    have e2 : wrap64 (2 ^ n) = 2 ^ n := IntWalk.wrap64_in _ (by omega)
    have e3 : wrap64 (2 ^ n - 1) = 2 ^ n - 1 := IntWalk.wrap64_in _ (by omega)
    rw [HB.out, e2, e3, hn]; simp), rfl⟩
set_option maxRecDepth 100000 in
theorem impl_shape (w h M : Int) (W : World) : Calls Try.prog 25 #[.int .i64 w, .int .i64 h, .int .i64 M] W fun e w' => e = .returned (.bool (shapeB w h M)) ∧ w' = W := by
  have HB : Hid (shapeB w h M = (inB w 1 6 && inB h 1 6 && inB M 0 (2 ^ (w * h).toNat - 1))) := rfl
  cases h1 : inB w 1 6
  · rw [h1] at HB
    go_enter Try.func25, Try.ntmps25
    go_wp2_with fail
    refine (from_any _ _ _ _).mono ?_
    rintro e w1 ⟨rfl, rfl⟩
    rw [h1]
    go_wp2_with fail
    go_ret
    exact ⟨ret_bool HB.out.symm, rfl⟩
  cases h2 : inB h 1 6
  · rw [h1, h2] at HB
    go_enter Try.func25, Try.ntmps25
    go_wp2_with fail
    refine (from_any _ _ _ _).mono ?_
    rintro e w1 ⟨rfl, rfl⟩
    rw [h1]
    go_wp2_with fail
    refine (from_any _ _ _ _).mono ?_
    rintro e w1 ⟨rfl, rfl⟩
    rw [h2]
    go_wp2_with fail
    go_ret
    exact ⟨ret_bool HB.out.symm, rfl⟩
  have hm := mul_le36 (inB_spec.1 h1) (inB_spec.1 h2)
  rw [h1, h2] at HB
  obtain ⟨n, hn⟩ : ∃ n : Nat, w * h = n := ⟨(w * h).toNat, by omega⟩
  go_enter Try.func25, Try.ntmps25
  go_wp2_with fail
  refine (from_any _ _ _ _).mono ?_
  rintro e w1 ⟨rfl, rfl⟩
  rw [h1]
  go_wp2_with fail
  refine (from_any _ _ _ _).mono ?_
  rintro e w1 ⟨rfl, rfl⟩
  rw [h2]
  go_wp2_with fail
  refine (from_any _ _ _ _).mono ?_
  rintro e w1 ⟨rfl, rfl⟩
  go_wp2_with fail
  go_ret
  exact ⟨ret_bool (by
    have e1 := pow_le36 (n := n) (by omega)
    have e2 : wrap64 (2 ^ n) = 2 ^ n := IntWalk.wrap64_in _ (by omega)
    have e3 : wrap64 (2 ^ n - 1) = 2 ^ n - 1 := IntWalk.wrap64_in _ (by omega)
    rw [HB.out, e2, e3, hn]; simp), rfl⟩
theorem ex_shapeOk (w h M : Int) (W : World) : Calls Try.prog 4 #[.int .i64 w, .int .i64 h, .int .i64 M] W fun e w' => e = .returned (.bool true) ∧ Below W.heap.size W w' := by
  have HS := Lib.hid (fun W => spec_shape w h M W)
  have HI := Lib.hid (fun W => impl_shape w h M W)
  generalize shapeB w h M = r at *
  go_enter Try.func4, Try.ntmps4
  go_wp2_with fail
  refine (HS.out _).mono ?_
  rintro e w1 ⟨rfl, rfl⟩
  go_wp2_with fail
  refine (HI.out _).mono ?_
  rintro e w2 ⟨rfl, rfl⟩
  go_wp2_with fail
  go_ret
  exact ⟨rfl, Below.refl _ _⟩
end Go.Proofs.Ytimkknljoeiceaa
