/-
  Walks for l03OnRim, l03Inside of the model.
-/
import Derived.Test.YtimkknljoeiceaaArea
namespace Go.Proofs.Ytimkknljoeiceaa
open Go.RowKit

def onRim (L : List (Int × Int)) (p : Int × Int) : Bool := (List.range L.length).any fun i => onP (gt L i) (gt L (nx L i)) p
theorem onRim_true {L : List (Int × Int)} {p : Int × Int} {i : Nat} (hi : i < L.length) (h : onP (gt L i) (gt L (nx L i)) p = true) : onRim L p = true := by
  simp only [onRim, List.any_eq_true, List.mem_range]
  exact ⟨i, hi, h⟩
theorem onRim_false {L : List (Int × Int)} {p : Int × Int} (h : ∀ i, i < L.length → onP (gt L i) (gt L (nx L i)) p = false) : onRim L p = false := by
  cases hb : onRim L p
  · rfl
  · simp only [onRim, List.any_eq_true, List.mem_range] at hb
    obtain ⟨i, hi, h2⟩ := hb
    rw [h i hi] at h2; cases h2
set_option maxRecDepth 100000 in
set_option maxHeartbeats 2000000 in
theorem onrim_sm (A : Option Addr) (c : Nat) (L : List (Int × Int)) (px py : Int) (w : World) (hA : PtsA w A L) (h1 : 1 ≤ L.length) (h2 : L.length ≤ 10) (hok : ∀ i, i < L.length → smP (gt L i).1 (gt L i).2 = true) (hp : smP px py = true) :
    Calls Try.prog 187 #[.slice A L.length c, (.agg #[.int .i64 px, .int .i64 py])] w fun e w' => e = .returned (.bool (onRim L (px, py))) ∧ Below w.heap.size w w' := by
  obtain ⟨g, rfl, -⟩ := hA 0 h1
  have hal0 := below1 w (.cells #[.int .i64 px, .int .i64 py] 54)
  have HA := Lib.hid (ptsA_on hA hal0)
  have HN0 := Lib.hid (at_new w px py 54)
  have HB0 := Lib.hid hal0
  have HOK := Lib.hid hok; have HPK := Lib.hid hp
  clear hA hok hp hal0
  go_enter Try.func187, Try.ntmps187
  go_wp2_with fail
  generalize w.alloc (.cells #[.int .i64 px, .int .i64 py] 54) = w1 at *
  go_loopw [5, 6, 9] (fun _ _ i wr => ∃ k : Nat, k ≤ L.length ∧ i = .int .i64 k ∧ Hid (∀ j, j < k → onP (gt L j) (gt L (nx L j)) (px, py) = false) ∧ Below w1.heap.size w1 wr) (fun _ _ i _ => L.length - (intOf i).toNat)
  case atStart => exact ⟨0, Nat.zero_le _, rfl, fun j h => by omega, Below.refl _ _⟩
  case round =>
    obtain ⟨wo, rfl⟩ : ∃ wo : World, wo = wr := ⟨_, rfl⟩
    obtain ⟨k, hk, rfl, HN, hb⟩ := hrel
    by_cases hlt : k < L.length
    · obtain ⟨hr, hrl⟩ := next_int (i := k) h1
      have hap := ptsA_on HA.out hb
      obtain ⟨c1, c2⟩ := gt_cells hap hlt
      obtain ⟨c3, c4⟩ := gt_cells hap hrl
      have n0 := HN0.out.step hb
      have HON := Lib.hid (fun w => on_sm' _ _ _ _ px py w (HOK.out _ hlt) (HOK.out _ hrl) HPK.out)
      have HO : Hid (onP ((gt L k).1, (gt L k).2) ((gt L ((k + 1) % L.length)).1, (gt L ((k + 1) % L.length)).2) (px, py) = onP (gt L k) (gt L (nx L k)) (px, py)) := rfl
      obtain ⟨b, eb⟩ : ∃ b, b = onP (gt L k) (gt L (nx L k)) (px, py) := ⟨_, rfl⟩
      have HEB := Lib.hid eb
      rw [← eb] at HO
      clear eb
      clear hap
      generalize (k + 1) % L.length = r at *
      generalize (gt L k).1 = x at *
      generalize (gt L k).2 = y at *
      generalize (gt L r).1 = x' at *
      generalize (gt L r).2 = y' at *
      rw [HO.out] at HON
      have f5 : IntKind.i64.wrap ((k : Int) + 1) = (k : Int) + 1 := IntWalk.i64_in _ (by omega)
      have f6 : IntKind.i64.wrap (r : Int) = (r : Int) := IntWalk.i64_in _ (by omega)
      have hp1 : (r : Int) < (L.length : Int) := by omega
      have hp2 : (0 : Int) ≤ (r : Int) := by omega
      have hne : ¬ L.length = 0 := by omega
      have hal := (Below.refl wo.heap.size wo).alloc (Nat.le_refl _) (.cells #[.int .i64 x, .int .i64 y] 54)
      have d3 := cell_on hal rfl c3; have d4 := cell_on hal rfl c4
      have n1 := at_new wo x y 54
      have n0' := n0.step hal
      have d1 := n1.c0; have d2 := n1.c1; have d5 := n0'.c0; have d6 := n0'.c1
      have b2 := hb.alloc hb.size (.cells #[.int .i64 x, .int .i64 y] 54)
      have k1 := cell_regrown d1; have k2 := cell_regrown d2; have k3 := cell_regrown d3; have k4 := cell_regrown d4; have k5 := cell_regrown d5; have k6 := cell_regrown d6
      clear hal n1 n0 n0' hb
      cases b
      · have HN2 : Hid (∀ j, j < k + 1 → onP (gt L j) (gt L (nx L j)) (px, py) = false) := fun j h => by
          rcases Nat.lt_or_ge j k with h3 | h3
          · exact HN.out j h3
          · obtain rfl : j = k := by omega
            exact HEB.out.symm
        go_wp2_with fail
        refine wp_region_quiet_below (by kernel_rfl) (by kernel_rfl) ?_
        repeat (first
          | go_big_quiet_step (first | exact Calls.regrown_of (HON.out _))
          | quiet_step (first | exact Calls.regrown_of (HON.out _)))
        refine wpQuiet_nil ?_
        rintro _ ⟨⟨dq, osq⟩, rfl⟩
        have R := Lib.hid (below_on b2 (below_regrown _ dq osq))
        clear k1 k2 k3 k4 k5 k6 d1 d2 d3 d4 d5 d6 b2
        go_wp2_with fail
        go_roundw
        case rel => exact ⟨k + 1, by omega, by go_num, HN2, R.out⟩
        case measure => simp [intOf]; omega
      · have HT : Hid (onRim L (px, py) = true) := onRim_true hlt HEB.out.symm
        go_wp2_with fail
        refine wp_region_quiet_below (by kernel_rfl) (by kernel_rfl) ?_
        repeat (first
          | go_big_quiet_step (first | exact Calls.regrown_of (HON.out _))
          | quiet_step (first | exact Calls.regrown_of (HON.out _)))
        refine wpQuiet_nil ?_
        rintro _ ⟨⟨dq, osq⟩, rfl⟩
        have R := Lib.hid (below_on HB0.out (below_on b2 (below_regrown _ dq osq)))
        clear k1 k2 k3 k4 k5 k6 d1 d2 d3 d4 d5 d6 b2
        go_wp2_with fail
        go_ret
        exact ⟨ret_bool HT.out.symm, R.out⟩
    · have HF : Hid (onRim L (px, py) = false) := onRim_false fun i hi => HN.out i (by omega)
      go_wp2_with fail
      go_ret
      exact ⟨ret_bool HF.out.symm, below_on HB0.out hb⟩
theorem onrim_any (A : Option Addr) (c : Nat) (L : List (Int × Int)) (px py : Int) (w : World) (hA : PtsA w A L) (h1 : 1 ≤ L.length) (h2 : L.length ≤ 10) (hok : allOk L = true) (hp : okP px py = true) :
    Calls Try.prog 187 #[.slice A L.length c, (.agg #[.int .i64 px, .int .i64 py])] w fun e w' => e = .returned (.bool (onRim L (px, py))) ∧ Below w.heap.size w w' := onrim_sm A c L px py w hA h1 h2 (fun _ hi => smP_ok (all_at hok hi)) (smP_ok hp)
/-- Does the side from corner i on flip what is inside at p? -/
def flipT (L : List (Int × Int)) (p : Int × Int) (i : Nat) : Bool :=
  (decide (p.2 < (gt L i).2) != decide (p.2 < (gt L (nx L i)).2)) && ((decide ((gt L i).2 < (gt L (nx L i)).2) && decide (0 < crossP (gt L i) (gt L (nx L i)) p)) || (decide ((gt L (nx L i)).2 < (gt L i).2) && decide (crossP (gt L i) (gt L (nx L i)) p < 0)))
def insT (f : Nat → Bool) : Nat → Bool
  | 0 => false
  | k + 1 => bif f k then !(insT f k) else insT f k
def insideB (L : List (Int × Int)) (p : Int × Int) : Bool := onRim L p || insT (flipT L p) L.length
set_option maxRecDepth 100000 in
set_option maxHeartbeats 4000000 in
theorem inside_sm (A : Option Addr) (c : Nat) (L : List (Int × Int)) (px py : Int) (w : World) (hA : PtsA w A L) (h1 : 1 ≤ L.length) (h2 : L.length ≤ 10) (hok : ∀ i, i < L.length → smP (gt L i).1 (gt L i).2 = true) (hp : smP px py = true) :
    Calls Try.prog 169 #[.slice A L.length c, (.agg #[.int .i64 px, .int .i64 py])] w fun e w' => e = .returned (.bool (insideB L (px, py))) ∧ Below w.heap.size w w' := by
  obtain ⟨g, rfl, -⟩ := hA 0 h1
  have hal0 := below1 w (.cells #[.int .i64 px, .int .i64 py] 54)
  have hA1 := ptsA_on hA hal0
  have HR := Lib.hid (onrim_sm _ c L px py _ hA1 h1 h2 hok hp)
  have HA := Lib.hid hA1
  have HN0 := Lib.hid (at_new w px py 54)
  have HB0 := Lib.hid hal0
  have HOK := Lib.hid hok; have HPK := Lib.hid hp
  have HIN : Hid (insideB L (px, py) = (onRim L (px, py) || insT (flipT L (px, py)) L.length)) := rfl
  clear hA hA1 hok hp hal0
  go_enter Try.func169, Try.ntmps169
  go_wp2_with fail
  generalize w.alloc (.cells #[.int .i64 px, .int .i64 py] 54) = w1 at *
  refine HR.out.mono ?_
  rintro e w2 ⟨rfl, hb1⟩
  cases hrim : onRim L (px, py)
  case true =>
    go_wp2_with fail
    go_ret
    exact ⟨ret_bool (by rw [HIN.out, hrim]; rfl), below_on HB0.out hb1⟩
  have HA2 := Lib.hid (ptsA_on HA.out hb1)
  have HN2 := Lib.hid (HN0.out.step hb1)
  have HB2 := Lib.hid (below_on HB0.out hb1)
  clear hb1 HR
  go_wp2_with fail
  go_loopw [5, 6, 7, 8, 9, 15] (fun s _ _ _ _ i wr => ∃ k : Nat, k ≤ L.length ∧ i = .int .i64 k ∧ s = .bool (insT (flipT L (px, py)) k) ∧ Below w2.heap.size w2 wr) (fun _ _ _ _ _ i _ => L.length - (intOf i).toNat)
  case atStart => exact ⟨0, Nat.zero_le _, rfl, rfl, Below.refl _ _⟩
  case round =>
    obtain ⟨wo, rfl⟩ : ∃ wo : World, wo = wr := ⟨_, rfl⟩
    obtain ⟨k, hk, rfl, rfl, hb⟩ := hrel
    by_cases hlt : k < L.length
    · obtain ⟨hr, hrl⟩ := next_int (i := k) h1
      have hap := ptsA_on HA2.out hb
      obtain ⟨c1, c2⟩ := gt_cells hap hlt
      obtain ⟨c3, c4⟩ := gt_cells hap hrl
      have n0 := HN2.out.step hb
      have HCR := Lib.hid (fun w => crossS_sm _ _ _ _ px py w (HOK.out _ hlt) (HOK.out _ hrl) HPK.out)
      have HFL : Hid (flipT L (px, py) k = ((decide (py < (gt L k).2) != decide (py < (gt L ((k + 1) % L.length)).2)) && ((decide ((gt L k).2 < (gt L ((k + 1) % L.length)).2) && decide (0 < crossP ((gt L k).1, (gt L k).2) ((gt L ((k + 1) % L.length)).1, (gt L ((k + 1) % L.length)).2) (px, py))) || (decide ((gt L ((k + 1) % L.length)).2 < (gt L k).2) && decide (crossP ((gt L k).1, (gt L k).2) ((gt L ((k + 1) % L.length)).1, (gt L ((k + 1) % L.length)).2) (px, py) < 0))))) := rfl
      have HI0 : Hid (insT (flipT L (px, py)) (k + 1) = bif flipT L (px, py) k then !(insT (flipT L (px, py)) k) else insT (flipT L (px, py)) k) := rfl
      clear hap
      generalize insT (flipT L (px, py)) k = B at *
      generalize (k + 1) % L.length = r at *
      generalize (gt L k).1 = x at *
      generalize (gt L k).2 = y at *
      generalize (gt L r).1 = x' at *
      generalize (gt L r).2 = y' at *
      generalize crossP (x, y) (x', y') (px, py) = C at *
      have f5 : wrap64 ((k : Int) + 1) = (k : Int) + 1 := IntWalk.wrap64_in _ (by omega)
      have hp1 : (r : Int) < (L.length : Int) := by omega
      have hp2 : (0 : Int) ≤ (r : Int) := by omega
      have hne : ¬ L.length = 0 := by omega
      have hal := (Below.refl wo.heap.size wo).alloc (Nat.le_refl _) (.cells #[.int .i64 x, .int .i64 y] 54)
      have d3 := cell_on hal rfl c3; have d4 := cell_on hal rfl c4
      have hal2 := hal.alloc (by simp) (.cells #[.int .i64 x', .int .i64 y'] 54)
      have n0' := n0.step hal2
      have n1 := (at_new wo x y 54).alloc (.cells #[.int .i64 x', .int .i64 y'] 54)
      have n2 := at_new (wo.alloc (.cells #[.int .i64 x, .int .i64 y] 54)) x' y' 54
      rw [size_alloc] at n2
      have m5 := n0'.c0; have m6 := n0'.c1
      have b2 := below_on hb hal2
      have HNS := Lib.hid (And.intro n0' (And.intro n1 n2))
      clear hal hal2 n0 n0' n1 n2 hb
      cases hu : decide (py < y) <;> cases hv : decide (py < y')
      case false.false =>
        have HI : Hid (insT (flipT L (px, py)) (k + 1) = B) := by
          show _ = _
          rw [HI0.out, HFL.out, hu, hv]; rfl
        have R := Lib.hid b2
        clear b2
        go_wp2_with fail
        go_roundw
        case rel => exact ⟨k + 1, by omega, by go_num, by rw [HI.out], R.out⟩
        case measure => simp [intOf]; omega
      case true.true =>
        have HI : Hid (insT (flipT L (px, py)) (k + 1) = B) := by
          show _ = _
          rw [HI0.out, HFL.out, hu, hv]; rfl
        have R := Lib.hid b2
        clear b2
        go_wp2_with fail
        go_roundw
        case rel => exact ⟨k + 1, by omega, by go_num, by rw [HI.out], R.out⟩
        case measure => simp [intOf]; omega
      case false.true =>
        have g1 : decide (y < y') = true := by simp at hu hv ⊢; omega
        have g2 : decide (y' < y) = false := by simp at hu hv ⊢; omega
        have HF2 : Hid (flipT L (px, py) k = decide (0 < C)) := by
          show _ = _
          rw [HFL.out, hu, hv, g1, g2]; simp
        go_wp2_with fail
        refine (HCR.out _).mono ?_
        rintro e w3 ⟨rfl, hb3⟩
        have z1 := HNS.out.2.1.step hb3; have z2 := HNS.out.2.2.step hb3
        have y1 := z1.c0; have y2 := z1.c1; have y3 := z2.c0; have y4 := z2.c1
        have R := Lib.hid (below_on b2 hb3)
        clear b2 hb3 z1 z2 m5 m6 c1 c2 c3 c4 d3 d4
        cases hC : decide (0 < C)
        all_goals
          have HI := HI0.out
          rw [HF2.out, hC] at HI
          have HII := Lib.hid HI
          clear HI
          go_wp2_with fail
          go_roundw
          case rel => exact ⟨k + 1, by omega, by go_num, by rw [HII.out]; rfl, R.out⟩
          case measure => simp [intOf]; omega
      case true.false =>
        have g1 : decide (y < y') = false := by simp at hu hv ⊢; omega
        have g2 : decide (y' < y) = true := by simp at hu hv ⊢; omega
        have HF2 : Hid (flipT L (px, py) k = decide (C < 0)) := by
          show _ = _
          rw [HFL.out, hu, hv, g1, g2]; simp
        go_wp2_with fail
        refine (HCR.out _).mono ?_
        rintro e w3 ⟨rfl, hb3⟩
        have z1 := HNS.out.2.1.step hb3; have z2 := HNS.out.2.2.step hb3
        have y1 := z1.c0; have y2 := z1.c1; have y3 := z2.c0; have y4 := z2.c1
        have R := Lib.hid (below_on b2 hb3)
        clear b2 hb3 z1 z2 m5 m6 c1 c2 c3 c4 d3 d4
        cases hC : decide (C < 0)
        all_goals
          have HI := HI0.out
          rw [HF2.out, hC] at HI
          have HII := Lib.hid HI
          clear HI
          go_wp2_with fail
          go_roundw
          case rel => exact ⟨k + 1, by omega, by go_num, by rw [HII.out]; rfl, R.out⟩
          case measure => simp [intOf]; omega
    · obtain rfl : k = L.length := by omega
      go_wp2_with fail
      go_ret
      exact ⟨ret_bool (by rw [HIN.out, hrim]; rfl), below_on HB2.out hb⟩
theorem inside_any (A : Option Addr) (c : Nat) (L : List (Int × Int)) (px py : Int) (w : World) (hA : PtsA w A L) (h1 : 1 ≤ L.length) (h2 : L.length ≤ 10) (hok : allOk L = true) (hp : okP px py = true) :
    Calls Try.prog 169 #[.slice A L.length c, (.agg #[.int .i64 px, .int .i64 py])] w fun e w' => e = .returned (.bool (insideB L (px, py))) ∧ Below w.heap.size w w' := inside_sm A c L px py w hA h1 h2 (fun _ hi => smP_ok (all_at hok hi)) (smP_ok hp)
end Go.Proofs.Ytimkknljoeiceaa
