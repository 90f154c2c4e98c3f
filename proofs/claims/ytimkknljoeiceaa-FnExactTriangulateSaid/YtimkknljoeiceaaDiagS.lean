/-
  Walks for l05Double, l05Diagonal, IsDiagonal of the model.
-/
import Derived.Test.YtimkknljoeiceaaDiagJ
import Derived.Deep.RegionHeld3
import Derived.Deep.DeepCutAuto
namespace Go.Proofs.Ytimkknljoeiceaa
open Go.RowKit

set_option maxRecDepth 100000 in
set_option maxHeartbeats 2000000 in
theorem double_any (A : Option Addr) (c : Nat) (L : List (Int × Int)) (w : World) (hA : PtsA w A L) (h1 : 1 ≤ L.length) (h2 : L.length ≤ 10) (hok : allOk L = true) :
    Calls Try.prog 170 #[.slice A L.length c] w (Lists w (dblL L)) := by
  obtain ⟨i0, hi0, hz0, hz1, hz2⟩ := info_parts infoPt
  obtain ⟨g, rfl, -⟩ := hA 0 h1
  have HA := Lib.hid hA
  have HOK := Lib.hid (fun k => gt_ok hok k)
  have own0 := World.ownsRow_lit (base := w.heap.size) (e := 54) (size := 2) w #[] 0 (Nat.le_refl _) (by unfold maxLen; omega) (by rfl)
  have b0 := below1 w (.cells #[] 54)
  clear hA hok
  go_enter Try.func170, Try.ntmps170
  go_wp2_with fail
  go_loopw [3, 5, 9] (fun s _ i wr => ∃ (k : Nat) (M : List (Int × Int)), k ≤ L.length ∧ i = .int .i64 k ∧ Hid (M = dblTill L k) ∧ wr.ownsRow w.heap.size 54 2 s M.length (flat M) ∧ Below w.heap.size w wr) (fun _ _ i _ => L.length - (intOf i).toNat)
  case atStart => exact ⟨0, [], Nat.zero_le _, rfl, rfl, own0, b0⟩
  case round =>
    clear own0 b0
    obtain ⟨wo, rfl⟩ : ∃ wo : World, wo = wr := ⟨_, rfl⟩
    obtain ⟨k, M, hk, rfl, HM, own, hb⟩ := hrel
    by_cases hlt : k < L.length
    · have HM2 : Hid (M ++ [((gt L k).1 + (gt L k).1, (gt L k).2 + (gt L k).2)] = dblTill L (k + 1)) := by
        show _ = _
        rw [dblTill_step, HM.out]
      have hML : M.length ≤ 10 := by rw [HM.out, dblTill_len]; omega
      clear HM
      obtain ⟨d5, d6⟩ := gt_cells (ptsA_on HA.out hb) hlt
      have hbd := okP_bounds (HOK.out k)
      generalize (gt L k).1 = x at *
      generalize (gt L k).2 = y at *
      have f1 : wrap64 (x + x) = x + x := IntWalk.wrap64_in _ (by omega)
      have f2 : wrap64 (y + y) = y + y := IntWalk.wrap64_in _ (by omega)
      have f3 : 2 * x = x + x := by omega
      have f4 : 2 * y = y + y := by omega
      have n6 := at_new wo x y 54
      have c5 := n6.c0; have c6 := n6.c1
      have b6 := hb.alloc hb.size (.cells #[.int .i64 x, .int .i64 y] 54)
      have own6 := own.alloc (.cells #[.int .i64 x, .int .i64 y] 54)
      have hs6 := hb.size
      clear hb own hbd n6
      go_wp2_with (at_builtin; refine wpList_append_own _ rfl _ _ 27 rfl w.heap.size 54 i0 (.agg #[.int .i64 0, .int .i64 0]) 2 16 Try.underlying27 hi0 hz0 hz1 hz2 rfl (by decide) _ _ _ rfl (own6.alloc _) ⟨wo.heap.size + 1, 0, none⟩ 1 1 [.int .i64 (x + x), .int .i64 (y + y)] rfl rfl ?d1 ?d2 ?d3 ?d4 ?d5 ?_)
      case d1 => exact World.news_of_block (cs := #[.int .i64 (x + x), .int .i64 (y + y)]) (t := 54) (fr := (0, 0)) (by have := heap_alloc_new (wo.alloc (.cells #[.int .i64 x, .int .i64 y] 54)) (.cells #[.int .i64 (x + x), .int .i64 (y + y)] 54); rwa [size_alloc] at this)
      case d2 => simp [Value.oneCell']
      case d3 => unfold maxLen; omega
      case d4 => omega
      case d5 => simp; omega
      intro v' w7 own7 hgrow _
      have hrw := fun k hk => (own6.lt k hk).1
      have R : Hid (w7.ownsRow w.heap.size 54 2 v' (M ++ [(x + x, y + y)]).length (flat (M ++ [(x + x, y + y)])) ∧ Below w.heap.size w w7) :=
        ⟨by rw [flat_append, List.length_append]; exact own7, (b6.alloc b6.size _).grown hgrow (by simp; omega) hrw⟩
      clear own6 own7 hgrow b6 hrw c5 c6 d5 d6 f1 f2 f3 f4
      go_wp2_with fail
      go_roundw
      case rel => exact ⟨k + 1, M ++ [(x + x, y + y)], by omega, by go_num, HM2, R.out.1, R.out.2⟩
      case measure => simp [intOf]; omega
    · have e : k = L.length := by omega
      have HQ : Hid (M = dblL L) := by
        show _ = _
        rw [HM.out, e, dblTill_all]
      clear HM e
      go_wp2_with fail
      go_ret
      rw [← HQ.out]
      exact ⟨_, rfl, own, hb⟩
theorem sideB_bif (L : List (Int × Int)) (p q j r : Nat) (mv : Int) (hr : nx L j = r) (hm : sideM L p q j = mv) :
    sideB L p q j = bif (((j : Int) == (p : Int)) || ((j : Int) == (q : Int)) || ((r : Int) == (p : Int)) || ((r : Int) == (q : Int))) then !(mv == 3 || mv == 2) else mv == 0 := by
  have e : ∀ a b : Nat, ((a : Int) == (b : Int)) = (a == b) := fun a b => by
    rw [Bool.eq_iff_iff]; simp only [beq_iff_eq]; omega
  unfold sideB sharesB
  rw [hr, hm, e, e, e, e]
set_option maxRecDepth 100000 in
set_option maxHeartbeats 4000000 in
theorem diagS_any (A : Option Addr) (c : Nat) (L : List (Int × Int)) (p q : Nat) (w : World) (hA : PtsA w A L) (h1 : 3 ≤ L.length) (h2 : L.length ≤ 10) (hok : allOk L = true) (hp : p < L.length) (hq : q < L.length) :
    Calls Try.prog 122 #[.slice A L.length c, .int .i64 (p : Int), .int .i64 (q : Int)] w fun e w' => e = .returned (.bool (diagB L p q)) ∧ Below w.heap.size w w' := by
  have e : ∀ a b : Nat, ((a : Int) == (b : Int)) = (a == b) := fun a b => by
    rw [Bool.eq_iff_iff]; simp only [beq_iff_eq]; omega
  have HFAR : Hid (farB L p q = !((((nx L p : Nat) : Int) == (q : Int)) || (((nx L q : Nat) : Int) == (p : Int)) || ((p : Int) == (q : Int)))) := by
    show _ = _
    rw [e, e, e]; rfl
  clear e
  have HDB : Hid (diagB L p q = (farB L p q && ((List.range L.length).all (sideB L p q) && insideB (dblL L) (addQ (gt L p) (gt L q))))) := rfl
  obtain ⟨hrp, hrpl⟩ := next_int (i := p) (n := L.length) (by omega)
  obtain ⟨hrq, hrql⟩ := next_int (i := q) (n := L.length) (by omega)
  rw [show (p + 1) % L.length = nx L p from rfl] at hrp hrpl
  rw [show (q + 1) % L.length = nx L q from rfl] at hrq hrql
  have f1 : wrap64 ((p : Int) + 1) = (p : Int) + 1 := IntWalk.wrap64_in _ (by omega)
  have f2 : wrap64 ((q : Int) + 1) = (q : Int) + 1 := IntWalk.wrap64_in _ (by omega)
  have hne : ¬ L.length = 0 := by omega
  generalize nx L p = rp at *
  generalize nx L q = rq at *
  cases hfar : farB L p q
  · have HV : Hid (diagB L p q = false) := by
      show _ = _
      rw [HDB.out, hfar]; rfl
    rw [hfar] at HFAR
    have HF := HFAR.out
    clear HDB hA HFAR
    cases g1 : ((rp : Int) == (q : Int))
    case true =>
      clear HF
      go_enter Try.func122, Try.ntmps122
      go_wp2_with fail
      go_ret
      exact ⟨ret_bool HV.out.symm, Below.refl _ _⟩
    case false =>
      cases g2 : ((rq : Int) == (p : Int))
      case true =>
        clear HF
        go_enter Try.func122, Try.ntmps122
        go_wp2_with fail
        go_ret
        exact ⟨ret_bool HV.out.symm, Below.refl _ _⟩
      case false =>
        have g3 : ((p : Int) == (q : Int)) = true := by
          rw [g1, g2] at HF
          cases h : ((p : Int) == (q : Int))
          · rw [h] at HF; cases HF
          · rfl
        clear HF
        go_enter Try.func122, Try.ntmps122
        go_wp2_with fail
        go_ret
        exact ⟨ret_bool HV.out.symm, Below.refl _ _⟩
  have HV : Hid (diagB L p q = ((List.range L.length).all (sideB L p q) && insideB (dblL L) (addQ (gt L p) (gt L q)))) := by
    show _ = _
    rw [HDB.out, hfar]; rfl
  rw [hfar] at HFAR
  have HF := HFAR.out
  have g1 : ((rp : Int) == (q : Int)) = false := by
    cases h : ((rp : Int) == (q : Int))
    · rfl
    · rw [h] at HF; cases HF
  have g2 : ((rq : Int) == (p : Int)) = false := by
    cases h : ((rq : Int) == (p : Int))
    · rfl
    · rw [g1, h] at HF; cases HF
  have g3 : ((p : Int) == (q : Int)) = false := by
    cases h : ((p : Int) == (q : Int))
    · rfl
    · rw [g1, g2, h] at HF; cases HF
  clear HF HFAR HDB hfar
  have HNO : Hid (∀ j, j < L.length → sideB L p q j = false → diagB L p q = false) := fun j hj hs => by
    rw [HV.out]
    have : (List.range L.length).all (sideB L p q) = false := by
      simp only [List.all_eq_false, List.mem_range]
      exact ⟨j, hj, by rw [hs]; exact Bool.false_ne_true⟩
    rw [this]; rfl
  obtain ⟨g, rfl, -⟩ := hA 0 (by omega)
  obtain ⟨d1, d2⟩ := gt_cells hA hp
  obtain ⟨d3, d4⟩ := gt_cells hA hq
  have HPP := Lib.hid (gt_ok hok p)
  have HQQ := Lib.hid (gt_ok hok q)
  have HOK := Lib.hid (gt_ok hok)
  have HAL := Lib.hid hok
  have HA0 := Lib.hid hA
  have HM0 := Lib.hid (fun j w => meet_any (gt L p).1 (gt L p).2 (gt L q).1 (gt L q).2 (gt L j).1 (gt L j).2 (gt L (nx L j)).1 (gt L (nx L j)).2 w HPP.out HQQ.out (HOK.out _) (HOK.out _))
  have HSM : Hid (∀ j, sideM L p q j = meetI ((gt L p).1, (gt L p).2) ((gt L q).1, (gt L q).2) ((gt L j).1, (gt L j).2) ((gt L (nx L j)).1, (gt L (nx L j)).2)) := fun _ => rfl
  have HAD : Hid (addQ (gt L p) (gt L q) = ((gt L p).1 + (gt L q).1, (gt L p).2 + (gt L q).2)) := rfl
  have HSS := Lib.hid (okP_add (a := gt L p) (b := gt L q) (gt_ok hok p) (gt_ok hok q))
  have hbp := okP_bounds (gt_ok hok p)
  have hbq := okP_bounds (gt_ok hok q)
  clear hA hok
  generalize (gt L p).1 = ax at *
  generalize (gt L p).2 = ay at *
  generalize (gt L q).1 = bx at *
  generalize (gt L q).2 = by' at *
  have s1 : Hid (IntKind.i64.wrap (ax + bx) = ax + bx) := IntWalk.i64_in _ (by omega)
  have s2 : Hid (IntKind.i64.wrap (ay + by') = ay + by') := IntWalk.i64_in _ (by omega)
  have hp1 : (p : Int) < (L.length : Int) := by omega
  have hp2 : (0 : Int) ≤ (p : Int) := by omega
  have hp3 : (q : Int) < (L.length : Int) := by omega
  have hp4 : (0 : Int) ≤ (q : Int) := by omega
  have hal := below1 w (.cells #[.int .i64 ax, .int .i64 ay] 54)
  have d5 := cell_on hal rfl d3; have d6 := cell_on hal rfl d4
  have n4 := (at_new w ax ay 54).alloc (.cells #[.int .i64 bx, .int .i64 by'] 54)
  have m4 := at_new (w.alloc (.cells #[.int .i64 ax, .int .i64 ay] 54)) bx by' 54
  rw [size_alloc] at m4
  have b4 := below2 w (.cells #[.int .i64 ax, .int .i64 ay] 54) (.cells #[.int .i64 bx, .int .i64 by'] 54)
  clear hal hbp hbq hrpl hrql
  go_enter Try.func122, Try.ntmps122
  go_wp2_with fail
  clear d1 d2 d3 d4 d5 d6 hp1 hp2 hp3 hp4 f1 f2 hrp hrq g1 g2 g3
  generalize ((w.alloc (.cells #[.int .i64 ax, .int .i64 ay] 54)).alloc (.cells #[.int .i64 bx, .int .i64 by'] 54)) = w4 at *
  have HA4 := Lib.hid (ptsA_on HA0.out b4)
  have HB2 := Lib.hid b4
  have HN4 := Lib.hid n4
  have HM4 := Lib.hid m4
  clear b4 n4 m4
  go_loopw [10, 11, 12, 13, 45] (fun _ _ _ _ i wr => ∃ j : Nat, j ≤ L.length ∧ i = .int .i64 j ∧ Hid (∀ t, t < j → sideB L p q t = true) ∧ Below w4.heap.size w4 wr) (fun _ _ _ _ i _ => L.length - (intOf i).toNat)
  case atStart => exact ⟨0, Nat.zero_le _, rfl, fun t h => by omega, Below.refl _ _⟩
  case round =>
    obtain ⟨wo, rfl⟩ : ∃ wo : World, wo = wr := ⟨_, rfl⟩
    obtain ⟨j, hj, rfl, HAll, hb⟩ := hrel
    by_cases hlt : j < L.length
    · obtain ⟨hr, hrl⟩ := next_int (i := j) (n := L.length) (by omega)
      rw [show (j + 1) % L.length = nx L j from rfl] at hr hrl
      have hap := ptsA_on HA4.out hb
      obtain ⟨c1, c2⟩ := gt_cells hap hlt
      obtain ⟨c3, c4⟩ := gt_cells hap hrl
      have n5 := HN4.out.step hb
      have m5 := HM4.out.step hb
      have HMM := Lib.hid (fun w => HM0.out j w)
      have HSB := Lib.hid (sideB_bif L p q j (nx L j) _ rfl (HSM.out j))
      have HST : Hid (sideB L p q j = true → ∀ t, t < j + 1 → sideB L p q t = true) := fun h t ht => by
        rcases Nat.lt_or_ge t j with h3 | h3
        · exact HAll.out t h3
        · obtain rfl : t = j := by omega
          exact h
      clear hap HAll
      generalize nx L j = r at *
      generalize (gt L j).1 = x at *
      generalize (gt L j).2 = y at *
      generalize (gt L r).1 = x' at *
      generalize (gt L r).2 = y' at *
      generalize meetI (ax, ay) (bx, by') (x, y) (x', y') = mv at *
      have f5 : wrap64 ((j : Int) + 1) = (j : Int) + 1 := IntWalk.wrap64_in _ (by omega)
      have hp1 : (r : Int) < (L.length : Int) := by omega
      have hp2 : (0 : Int) ≤ (r : Int) := by omega
      have hal := (Below.refl wo.heap.size wo).alloc (Nat.le_refl _) (.cells #[.int .i64 x, .int .i64 y] 54)
      have d3 := cell_on hal rfl c3; have d4 := cell_on hal rfl c4
      have hal2 := hal.alloc (by simp) (.cells #[.int .i64 x', .int .i64 y'] 54)
      have n6 := n5.step hal2
      have m6 := m5.step hal2
      have k1 := (at_new wo x y 54).alloc (.cells #[.int .i64 x', .int .i64 y'] 54)
      have k2 := at_new (wo.alloc (.cells #[.int .i64 x, .int .i64 y] 54)) x' y' 54
      rw [size_alloc] at k2
      have u1 := n6.c0; have u2 := n6.c1; have u3 := m6.c0; have u4 := m6.c1
      have v1 := k1.c0; have v2 := k1.c1; have v3 := k2.c0; have v4 := k2.c1
      have b7 := below_on hb hal2
      clear hal hal2 n5 m5 n6 m6 k1 k2 hb
      go_wp2_with fail
      refine (HMM.out _).mono ?_
      rintro e w8 ⟨rfl, hb8⟩
      have b8 := below_on b7 hb8
      clear hb8 b7 u1 u2 u3 u4 v1 v2 v3 v4 c1 c2 c3 c4 d3 d4
      cases g1 : ((j : Int) == (p : Int))
      case true =>
        cases h3 : (mv == 3)
        case true =>
          have HF : Hid (sideB L p q j = false) := by
            show _ = _
            rw [HSB.out, g1, h3]; rfl
          go_wp2_with fail
          go_ret
          exact ⟨ret_bool (HNO.out _ hlt HF.out).symm, below_on HB2.out b8⟩
        case false =>
          cases h2' : (mv == 2)
          case true =>
            have HF : Hid (sideB L p q j = false) := by
              show _ = _
              rw [HSB.out, g1, h3, h2']; rfl
            go_wp2_with fail
            go_ret
            exact ⟨ret_bool (HNO.out _ hlt HF.out).symm, below_on HB2.out b8⟩
          case false =>
            have HT : Hid (sideB L p q j = true) := by
              show _ = _
              rw [HSB.out, g1, h3, h2']; rfl
            have R := Lib.hid b8
            clear b8
            go_wp2_with fail
            go_roundw
            case rel => exact ⟨j + 1, by omega, by go_num, HST.out HT.out, R.out⟩
            case measure => simp [intOf]; omega
      case false =>
        cases g2 : ((j : Int) == (q : Int))
        case true =>
          cases h3 : (mv == 3)
          case true =>
            have HF : Hid (sideB L p q j = false) := by
              show _ = _
              rw [HSB.out, g1, g2, h3]; rfl
            go_wp2_with fail
            go_ret
            exact ⟨ret_bool (HNO.out _ hlt HF.out).symm, below_on HB2.out b8⟩
          case false =>
            cases h2' : (mv == 2)
            case true =>
              have HF : Hid (sideB L p q j = false) := by
                show _ = _
                rw [HSB.out, g1, g2, h3, h2']; rfl
              go_wp2_with fail
              go_ret
              exact ⟨ret_bool (HNO.out _ hlt HF.out).symm, below_on HB2.out b8⟩
            case false =>
              have HT : Hid (sideB L p q j = true) := by
                show _ = _
                rw [HSB.out, g1, g2, h3, h2']; rfl
              have R := Lib.hid b8
              clear b8
              go_wp2_with fail
              go_roundw
              case rel => exact ⟨j + 1, by omega, by go_num, HST.out HT.out, R.out⟩
              case measure => simp [intOf]; omega
        case false =>
          cases g3 : ((r : Int) == (p : Int))
          case true =>
            cases h3 : (mv == 3)
            case true =>
              have HF : Hid (sideB L p q j = false) := by
                show _ = _
                rw [HSB.out, g1, g2, g3, h3]; rfl
              go_wp2_with fail
              go_ret
              exact ⟨ret_bool (HNO.out _ hlt HF.out).symm, below_on HB2.out b8⟩
            case false =>
              cases h2' : (mv == 2)
              case true =>
                have HF : Hid (sideB L p q j = false) := by
                  show _ = _
                  rw [HSB.out, g1, g2, g3, h3, h2']; rfl
                go_wp2_with fail
                go_ret
                exact ⟨ret_bool (HNO.out _ hlt HF.out).symm, below_on HB2.out b8⟩
              case false =>
                have HT : Hid (sideB L p q j = true) := by
                  show _ = _
                  rw [HSB.out, g1, g2, g3, h3, h2']; rfl
                have R := Lib.hid b8
                clear b8
                go_wp2_with fail
                go_roundw
                case rel => exact ⟨j + 1, by omega, by go_num, HST.out HT.out, R.out⟩
                case measure => simp [intOf]; omega
          case false =>
            cases g4 : ((r : Int) == (q : Int))
            case true =>
              cases h3 : (mv == 3)
              case true =>
                have HF : Hid (sideB L p q j = false) := by
                  show _ = _
                  rw [HSB.out, g1, g2, g3, g4, h3]; rfl
                go_wp2_with fail
                go_ret
                exact ⟨ret_bool (HNO.out _ hlt HF.out).symm, below_on HB2.out b8⟩
              case false =>
                cases h2' : (mv == 2)
                case true =>
                  have HF : Hid (sideB L p q j = false) := by
                    show _ = _
                    rw [HSB.out, g1, g2, g3, g4, h3, h2']; rfl
                  go_wp2_with fail
                  go_ret
                  exact ⟨ret_bool (HNO.out _ hlt HF.out).symm, below_on HB2.out b8⟩
                case false =>
                  have HT : Hid (sideB L p q j = true) := by
                    show _ = _
                    rw [HSB.out, g1, g2, g3, g4, h3, h2']; rfl
                  have R := Lib.hid b8
                  clear b8
                  go_wp2_with fail
                  go_roundw
                  case rel => exact ⟨j + 1, by omega, by go_num, HST.out HT.out, R.out⟩
                  case measure => simp [intOf]; omega
            case false =>
              cases h0 : (mv == 0)
              case false =>
                have hne0 : (mv != 0) = true := by simp [bne, h0]
                have HF : Hid (sideB L p q j = false) := by
                  show _ = _
                  rw [HSB.out, g1, g2, g3, g4, h0]; rfl
                go_wp2_with fail
                go_ret
                exact ⟨ret_bool (HNO.out _ hlt HF.out).symm, below_on HB2.out b8⟩
              case true =>
                have hne0 : (mv != 0) = false := by simp [bne, h0]
                have HT : Hid (sideB L p q j = true) := by
                  show _ = _
                  rw [HSB.out, g1, g2, g3, g4, h0]; rfl
                have R := Lib.hid b8
                clear b8
                go_wp2_with fail
                go_roundw
                case rel => exact ⟨j + 1, by omega, by go_num, HST.out HT.out, R.out⟩
                case measure => simp [intOf]; omega
    · obtain rfl : j = L.length := by omega
      have HVV : Hid (diagB L p q = insideB (dblL L) (ax + bx, ay + by')) := by
        show _ = _
        rw [HV.out, List.all_eq_true.2 (fun t ht => HAll.out t (List.mem_range.1 ht)), HAD.out]; rfl
      have n5 := HN4.out.step hb
      have m5 := HM4.out.step hb
      have c1 := n5.c0; have c2 := n5.c1; have c3 := m5.c0; have c4 := m5.c1
      have b5 := below_on HB2.out hb
      have bd : Below w.heap.size w wo.drew := b5.drew
      have HD := Lib.hid (fun W (hb : Below w.heap.size w W) => double_any (some ⟨g, 0, none⟩) c L W (ptsA_on HA0.out hb) (by omega) h2 HAL.out)
      have HI := Lib.hid (fun A c W (hp : PtsA W A (dblL L)) => inside_sm A c (dblL L) (ax + bx) (ay + by') W hp (by rw [dbl_len]; omega) (by rw [dbl_len]; exact h2) (fun i _ => dbl_sm HAL.out i) HSS.out)
      have t1 : IntKind.i64.wrap (ax + bx) = ax + bx := s1.out
      have t2 : IntKind.i64.wrap (ay + by') = ay + by' := s2.out
      have e1 : wo.drew.cell? ⟨w.heap.size, 0, none⟩ = some (.int .i64 ax) := c1
      have e2 : wo.drew.cell? ⟨w.heap.size, 1, none⟩ = some (.int .i64 ay) := c2
      have e3 : wo.drew.cell? ⟨w.heap.size + 1, 0, none⟩ = some (.int .i64 bx) := c3
      have e4 : wo.drew.cell? ⟨w.heap.size + 1, 1, none⟩ = some (.int .i64 by') := c4
      clear n5 m5 hb b5 c1 c2 c3 c4 s1 s2 HNO HSM HM0 HOK HPP HQQ HAD
      go_upto_region 17 with (fail)
      go_region_held3 (fun w' => w'.cell? ⟨w.heap.size, 0, none⟩ = some (.int .i64 ax) ∧ w'.cell? ⟨w.heap.size, 1, none⟩ = some (.int .i64 ay) ∧ w'.cell? ⟨w.heap.size + 1, 0, none⟩ = some (.int .i64 bx) ∧ w'.cell? ⟨w.heap.size + 1, 1, none⟩ = some (.int .i64 by') ∧ Below w.heap.size w w')
        (first
          | go_keep
          | (go_split_ands
             exact ⟨cell_on hq rfl (by assumption), cell_on hq rfl (by assumption), cell_on hq rfl (by assumption), cell_on hq rfl (by assumption), below_on (by assumption) hq⟩))
        (first
          | (go_at_call 170; refine (HD.out _ (by assumption)).mono ?_; rintro e wq ⟨v1, rfl, own1, hq⟩; obtain ⟨_, A1, k1, rfl, p1⟩ := own_pts own1)
          | (go_at_call 169; refine (HI.out A1 k1 _ p1).mono ?_; rintro e wq ⟨rfl, hq⟩))
      rename_i hH
      obtain ⟨-, -, -, -, bz⟩ := hH
      clear hq p1 own1 e1 e2 e3 e4 t1 t2 bd HD HI
      go_wp2_with fail
      go_ret
      exact ⟨ret_bool HVV.out.symm, bz⟩
end Go.Proofs.Ytimkknljoeiceaa
