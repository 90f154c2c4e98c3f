/-
  Walks for IsConvex of the model.
-/
import Derived.Test.YtbmeemmihkedoaaInts
import Derived.Test.YtbmeemmihkedoaaBox
namespace Go.Proofs.Ytbmeemmihkedoaa
open Go.RowKit

/-- The side to which a polygon turns at a corner. -/
def turnI (L : List (Int × Int)) (i : Nat) : Int := sgn (crossP (gt L (pv L i)) (gt L i) (gt L (nx L i)))
def convB (L : List (Int × Int)) : Bool := !(bothB ((List.range L.length).map (turnI L)))
def convV (L : List (Int × Int)) : Bool := polyB L && convB L
theorem turnI_three (L : List (Int × Int)) (i : Nat) : turnI L i = 1 ∨ turnI L i = -1 ∨ turnI L i = 0 := sgn_three _
set_option maxRecDepth 100000 in
set_option maxHeartbeats 4000000 in
theorem conv_any (A : Option Addr) (c : Nat) (L : List (Int × Int)) (w : World) (hA : PtsA w A L) (h1 : 1 ≤ L.length) (h2 : L.length ≤ 10) (hok : allOk L = true) :
    Calls Try.prog 188 #[.slice A L.length c] w fun e w' => e = .returned (.bool (convB L)) ∧ Below w.heap.size w w' := by
  obtain ⟨g, rfl, -⟩ := hA 0 h1
  have hmin : ∀ (w : World) (x y : Int) (ts : Array TypeId) (t : TypeId), (Builtin.min_ ts t #[.int .i64 x, .int .i64 y]).run Try.prog w = .ok (.int .i64 (minI x y)) w := run_minI
  have hmax : ∀ (w : World) (x y : Int) (ts : Array TypeId) (t : TypeId), (Builtin.max_ ts t #[.int .i64 x, .int .i64 y]).run Try.prog w = .ok (.int .i64 (maxI x y)) w := run_maxI
  have HA := Lib.hid hA; have HOK := Lib.hid hok
  have HLH : Hid ((loT (turnI L) L.length == 0 || hiT (turnI L) L.length == 0) = convB L) := lohi (turnI_three L) _
  clear hA hok
  go_enter Try.func188, Try.ntmps188
  go_wp2_with fail
  go_loopw [3, 4, 6, 7, 8, 13] (fun lo hi _ _ _ i wr => ∃ k : Nat, k ≤ L.length ∧ i = .int .i64 k ∧ lo = .int .i64 (loT (turnI L) k) ∧ hi = .int .i64 (hiT (turnI L) k) ∧ Below w.heap.size w wr) (fun _ _ _ _ _ i _ => L.length - (intOf i).toNat)
  case atStart => exact ⟨0, Nat.zero_le _, rfl, rfl, rfl, Below.refl _ _⟩
  case round =>
    obtain ⟨wo, rfl⟩ : ∃ wo : World, wo = wr := ⟨_, rfl⟩
    obtain ⟨k, hk, rfl, rfl, rfl, hb⟩ := hrel
    by_cases hlt : k < L.length
    · obtain ⟨hr, hrl⟩ := next_int (i := k) h1
      have hpl : (k + L.length - 1) % L.length < L.length := Nat.mod_lt _ (by omega)
      have hpr : Int.tmod ((k : Int) + (L.length : Int) - 1) (L.length : Int) = (((k + L.length - 1) % L.length : Nat) : Int) := by
        have : (k : Int) + (L.length : Int) - 1 = ((k + L.length - 1 : Nat) : Int) := by omega
        rw [this, tmod_nat]
      have hap := ptsA_on HA.out hb
      obtain ⟨c1, c2⟩ := gt_cells hap hlt
      obtain ⟨c3, c4⟩ := gt_cells hap hrl
      obtain ⟨c5, c6⟩ := gt_cells hap hpl
      have HCR := Lib.hid (fun w => crossS_on _ _ _ _ _ _ w (all_at HOK.out hpl) (all_at HOK.out hlt) (all_at HOK.out hrl))
      have HLO : Hid (loT (turnI L) (k + 1) = minI (loT (turnI L) k) (turnI L k)) := rfl
      have HHI : Hid (hiT (turnI L) (k + 1) = maxI (hiT (turnI L) k) (turnI L k)) := rfl
      have HBE : Hid (turnI L k = sgn (crossP ((gt L ((k + L.length - 1) % L.length)).1, (gt L ((k + L.length - 1) % L.length)).2) ((gt L k).1, (gt L k).2) ((gt L ((k + 1) % L.length)).1, (gt L ((k + 1) % L.length)).2))) := rfl
      clear hap
      generalize (k + 1) % L.length = r at *
      generalize (k + L.length - 1) % L.length = t at *
      generalize (gt L k).1 = x at *
      generalize (gt L k).2 = y at *
      generalize (gt L r).1 = x' at *
      generalize (gt L r).2 = y' at *
      generalize (gt L t).1 = x'' at *
      generalize (gt L t).2 = y'' at *
      generalize crossP (x'', y'') (x, y) (x', y') = C at *
      generalize loT (turnI L) k = lo at *
      generalize hiT (turnI L) k = hi at *
      have f1 : IntKind.i64.wrap ((k : Int) + 1) = (k : Int) + 1 := IntWalk.i64_in _ (by omega)
      have f2 : IntKind.i64.wrap ((k : Int) + (L.length : Int)) = (k : Int) + (L.length : Int) := IntWalk.i64_in _ (by omega)
      have f3 : IntKind.i64.wrap ((k : Int) + (L.length : Int) - 1) = (k : Int) + (L.length : Int) - 1 := IntWalk.i64_in _ (by omega)
      have f4 : IntKind.i64.wrap (r : Int) = (r : Int) := IntWalk.i64_in _ (by omega)
      have f5 : IntKind.i64.wrap (t : Int) = (t : Int) := IntWalk.i64_in _ (by omega)
      have hp1 : (r : Int) < (L.length : Int) := by omega
      have hp2 : (0 : Int) ≤ (r : Int) := by omega
      have hp3 : (t : Int) < (L.length : Int) := by omega
      have hp4 : (0 : Int) ≤ (t : Int) := by omega
      have hne : ¬ L.length = 0 := by omega
      have hal := (Below.refl wo.heap.size wo).alloc (Nat.le_refl _) (.cells #[.int .i64 x, .int .i64 y] 27)
      have d3 := cell_on hal rfl c3; have d4 := cell_on hal rfl c4; have d5 := cell_on hal rfl c5; have d6 := cell_on hal rfl c6
      have n1 := at_new wo x y 27
      have d1 := n1.c0; have d2 := n1.c1
      have b2 := hb.alloc hb.size (.cells #[.int .i64 x, .int .i64 y] 27)
      have k1 := cell_regrown d1; have k2 := cell_regrown d2; have k3 := cell_regrown d3; have k4 := cell_regrown d4; have k5 := cell_regrown d5; have k6 := cell_regrown d6
      have HSG := Lib.hid (fun n w => (sign_any n w).mono fun e w' (h : _ ∧ w' = w) => And.intro h.1 (show Below w.heap.size w w' by rw [h.2]; exact Below.refl _ _))
      clear hal hb
      go_wp2_with fail
      refine wp_region_quiet_below (by kernel_rfl) (by kernel_rfl) ?_
      repeat (first
        | go_big_quiet_step (first | exact Calls.regrown_of (HCR.out _) | exact Calls.regrown_of (HSG.out _ _))
        | quiet_step (first | exact Calls.regrown_of (HCR.out _) | exact Calls.regrown_of (HSG.out _ _)))
      refine wpQuiet_nil ?_
      rintro _ ⟨⟨dq, osq⟩, rfl⟩
      have hst := below_regrown (wo.alloc (.cells #[.int .i64 x, .int .i64 y] 27)) dq osq
      have b3 := below_on b2 hst
      clear k1 k2 k3 k4 k5 k6 d1 d2 d3 d4 d5 d6 b2 n1 hst c1 c2 c3 c4 c5 c6
      simp only at *
      generalize Go.Sort.grow (redrawn (wo.alloc (.cells #[.int .i64 x, .int .i64 y] 27)) dq) osq = w3 at *
      clear hr hpr f1 f2 f3 f4 f5 hp1 hp2 hp3 hp4
      go_wp2_with fail
      go_roundw
      case rel => exact ⟨k + 1, by omega, by go_num, by rw [HLO.out, HBE.out], by rw [HHI.out, HBE.out], b3⟩
      case measure => simp [intOf]; omega
    · have e : k = L.length := by omega
      have HQ : Hid ((loT (turnI L) k == 0 || hiT (turnI L) k == 0) = convB L) := by
        show _ = _
        rw [e]; exact HLH.out
      clear e HLH
      generalize loT (turnI L) k = lo at *
      generalize hiT (turnI L) k = hi at *
      cases hlo : (lo == 0)
      all_goals (
        rw [hlo] at HQ
        go_wp2_with fail
        go_ret
        exact ⟨ret_bool HQ.out, hb⟩)
theorem spec_conv (A : Option Addr) (c : Nat) (L : List (Int × Int)) (w : World) (hA : PtsA w A L) (hL : L.length ≤ 1048576) :
    Calls Try.prog 168 #[.slice A L.length c] w fun e w' => e = .returned (.bool (convV L)) ∧ Below w.heap.size w w' := by
  have HA := Lib.hid hA
  have HP := Lib.hid (spec_poly A c L w hA hL)
  have HV : Hid (convV L = (polyB L && convB L)) := rfl
  clear hA
  cases hp : polyB L
  all_goals (
    rw [hp] at HP HV
    go_enter Try.func168, Try.ntmps168
    go_wp2_with fail
    refine HP.out.mono ?_
    rintro e w1 ⟨rfl, b1⟩)
  · go_wp2_with fail
    go_ret
    exact ⟨ret_bool HV.out.symm, b1⟩
  · obtain ⟨q1, q2, q3⟩ := polyB_all hp
    have HT := Lib.hid (conv_any A c L w1 (ptsA_on HA.out b1) (by omega) q2 q3)
    clear q1 q2 q3
    go_wp2_with fail
    refine HT.out.mono ?_
    rintro e w2 ⟨rfl, hb2⟩
    have b2 := below_on b1 hb2
    clear b1 hb2
    go_wp2_with fail
    go_ret
    exact ⟨ret_bool HV.out.symm, b2⟩
end Go.Proofs.Ytbmeemmihkedoaa
