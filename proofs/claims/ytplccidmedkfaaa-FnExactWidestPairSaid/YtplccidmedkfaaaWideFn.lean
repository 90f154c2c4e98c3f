/-
  A walk for WidestPair of the program, and the law.
-/
import Derived.Test.YtplccidmedkfaaaWide
namespace Go.Proofs.Ytplccidmedkfaaa
open Go.RowKit

set_option maxRecDepth 100000 in
set_option maxHeartbeats 4000000 in
theorem impl_wide (A : Option Addr) (c : Nat) (L : List (Int × Int)) (w : World) (hA : PtsA w A L) (hL : L.length ≤ 1048576) :
    Calls Try.prog 42 #[.slice A L.length c] w fun e w' => e = .returned (.tuple #[.int .i64 (wideA L), .int .i64 (wideB L)]) ∧ Below w.heap.size w w' := by
  have HP := Lib.hid (impl_poly A c L w hA hL)
  cases hp : polyB L
  · have HVA : Hid (wideA L = -1) := by
      show _ = _
      rw [wideA, hp]; rfl
    have HVB : Hid (wideB L = -1) := by
      show _ = _
      rw [wideB, hp]; rfl
    rw [hp] at HP
    clear hA
    go_enter Try.func42, Try.ntmps42
    go_wp2_with fail
    refine HP.out.mono ?_
    rintro e w1 ⟨rfl, b1⟩
    go_wp2_with fail
    go_returns
    exact ⟨by rw [HVA.out, HVB.out]; rfl, b1⟩
  · obtain ⟨h3, h10, hok⟩ := polyB_all hp
    obtain ⟨g, rfl, -⟩ := hA 0 (by omega)
    have HSQ : Hid (∀ i k w, Calls Try.prog 81 #[(.agg #[.int .i64 (gt L i).1, .int .i64 (gt L i).2]), (.agg #[.int .i64 (gt L k).1, .int .i64 (gt L k).2])] w fun e w' => e = .returned (.int .i64 (sqF L i k)) ∧ Below w.heap.size w w') := fun i k w => impl_square _ _ _ _ w
    have HEM : Hid (alI (sqF L) L.length L.length = (wideA L, wideB L, sqF L (alS (sqF L) L.length L.length).1 (alS (sqF L) L.length L.length).2)) := by
      show _ = _
      have e := al_emb (sqF L) L.length (sqF_pos hok 0 1) (by omega) (L.length - 1)
      rw [show L.length - 1 + 1 = L.length from by omega] at e
      rw [e, wideA, wideB, hp]; rfl
    have HA := Lib.hid hA
    rw [hp] at HP
    clear hA hok
    go_enter Try.func42, Try.ntmps42
    go_wp2_with fail
    refine HP.out.mono ?_
    rintro e w1 ⟨rfl, b1⟩
    go_wp2_with fail
    go_loopw [4, 5, 6, 7, 8, 9, 15] (fun a b d _ _ _ i wr => ∃ k : Nat, k ≤ L.length ∧ i = .int .i64 k ∧ a = .int .i64 (alI (sqF L) L.length k).1 ∧ b = .int .i64 (alI (sqF L) L.length k).2.1 ∧ d = .int .i64 (alI (sqF L) L.length k).2.2 ∧ Below w.heap.size w wr) (fun _ _ _ _ _ _ i _ => L.length - (intOf i).toNat)
    case atStart => exact ⟨0, Nat.zero_le _, rfl, rfl, rfl, rfl, b1⟩
    case round =>
      obtain ⟨wo, rfl⟩ : ∃ wo : World, wo = wr := ⟨_, rfl⟩
      clear b1
      obtain ⟨k, hk, rfl, rfl, rfl, rfl, hb⟩ := hrel
      by_cases hlt : k < L.length
      · have hf1 : IntKind.i64.wrap ((k : Int) + 1) = (k : Int) + 1 := IntWalk.i64_in _ (by omega)
        have HAL : Hid (alI (sqF L) L.length (k + 1) = rwI (sqF L) k (alI (sqF L) L.length k) (L.length - (k + 1))) := rfl
        generalize alI (sqF L) L.length k = st at *
        have HR0 : Hid (rwI (sqF L) k st 0 = st) := rfl
        go_wp2_with fail
        go_loopw [4, 5, 6, 8, 9] (fun a b d m _ wr => ∃ q : Nat, k + 1 ≤ q ∧ q ≤ L.length ∧ m = .int .i64 q ∧ a = .int .i64 (rwI (sqF L) k st (q - (k + 1))).1 ∧ b = .int .i64 (rwI (sqF L) k st (q - (k + 1))).2.1 ∧ d = .int .i64 (rwI (sqF L) k st (q - (k + 1))).2.2 ∧ Below w.heap.size w wr) (fun _ _ _ m _ _ => L.length - (intOf m).toNat)
        case atStart => exact ⟨k + 1, Nat.le_refl _, by omega, by go_num, by rw [Nat.sub_self, HR0.out], by rw [Nat.sub_self, HR0.out], by rw [Nat.sub_self, HR0.out], hb⟩
        case round =>
          obtain ⟨wi, rfl⟩ : ∃ wi : World, wi = wr := ⟨_, rfl⟩
          clear hb
          obtain ⟨q, hkq, hq, rfl, rfl, rfl, rfl, hb⟩ := hrel
          by_cases hlq : q < L.length
          · have HST : Hid (rwI (sqF L) k st (q + 1 - (k + 1)) = wdI (sqF L) (rwI (sqF L) k st (q - (k + 1))) k q) := by
              show _ = _
              rw [show q + 1 - (k + 1) = q - (k + 1) + 1 from by omega, rwI, show k + 1 + (q - (k + 1)) = q from by omega]
            generalize rwI (sqF L) k st (q - (k + 1)) = s at *
            obtain ⟨a, b, d⟩ := s
            have hap := ptsA_on HA.out hb
            obtain ⟨c1, c2⟩ := gt_cells hap hlt
            obtain ⟨c3, c4⟩ := gt_cells hap hlq
            have HS1 := Lib.hid (HSQ.out k q)
            have HW : Hid (wdI (sqF L) (a, b, d) k q = if d < sqF L k q then ((k : Int), (q : Int), sqF L k q) else (a, b, d)) := rfl
            have hf3 : IntKind.i64.wrap ((q : Int) + 1) = (q : Int) + 1 := IntWalk.i64_in _ (by omega)
            generalize sqF L k q = S2 at *
            generalize (gt L k).1 = x1 at *
            generalize (gt L k).2 = y1 at *
            generalize (gt L q).1 = x2 at *
            generalize (gt L q).2 = y2 at *
            have k1 := cell_regrown c1; have k2 := cell_regrown c2; have k3 := cell_regrown c3; have k4 := cell_regrown c4
            clear hap
            go_wp2_with fail
            refine wp_region_quiet_below (by kernel_rfl) (by kernel_rfl) ?_
            repeat (first
              | go_big_quiet_step (first | exact Calls.regrown_of (HS1.out _))
              | quiet_step (first | exact Calls.regrown_of (HS1.out _)))
            refine wpQuiet_nil ?_
            rintro _ ⟨⟨dq, osq⟩, rfl⟩
            have hb2 := below_on hb (below_regrown _ dq osq)
            clear k1 k2 k3 k4 c1 c2 c3 c4 hb
            simp only at *
            generalize Go.Sort.grow (redrawn wi dq) osq = w5 at *
            by_cases hgt : d < S2
            · have HE : Hid (rwI (sqF L) k st (q + 1 - (k + 1)) = ((k : Int), (q : Int), S2)) := by
                show _ = _
                rw [HST.out, HW.out, if_pos hgt]
              go_wp2_with fail
              go_roundw
              case rel => exact ⟨q + 1, by omega, by omega, by go_num, by rw [HE.out], by rw [HE.out], by rw [HE.out], hb2⟩
              case measure => simp [intOf]; omega
            · have HE : Hid (rwI (sqF L) k st (q + 1 - (k + 1)) = (a, b, d)) := by
                show _ = _
                rw [HST.out, HW.out, if_neg hgt]
              go_wp2_with fail
              go_roundw
              case rel => exact ⟨q + 1, by omega, by omega, by go_num, by rw [HE.out], by rw [HE.out], by rw [HE.out], hb2⟩
              case measure => simp [intOf]; omega
          · obtain rfl : q = L.length := by omega
            rw [← HAL.out]
            have R := Lib.hid hb
            clear hb
            go_wp2_with fail
            go_roundw
            case rel => exact ⟨k + 1, by omega, by go_num, rfl, rfl, rfl, R.out⟩
            case measure => simp [intOf]; omega
      · obtain rfl : k = L.length := by omega
        rw [HEM.out]
        go_wp2_with fail
        go_returns
        exact ⟨rfl, hb⟩
end Go.Proofs.Ytplccidmedkfaaa
