/-
  Walks for surroundsMiddle, isCorner, IsDiagonal of the program.
-/
import Derived.Test.YtimkknljoeiceaaDiagI
import Derived.Deep.DeepCutAuto
namespace Go.Proofs.Ytimkknljoeiceaa
open Go.RowKit

set_option maxRecDepth 100000 in
set_option maxHeartbeats 2000000 in
theorem middle_any (A : Option Addr) (c : Nat) (L : List (Int × Int)) (a b : Int × Int) (w : World) (hA : PtsA w A L) (h1 : 1 ≤ L.length) (h2 : L.length ≤ 10) (hok : allOk L = true) (ha : okP a.1 a.2 = true) (hb : okP b.1 b.2 = true) :
    Calls Try.prog 175 #[.slice A L.length c, (.agg #[.int .i64 a.1, .int .i64 a.2]), (.agg #[.int .i64 b.1, .int .i64 b.2])] w fun e w' => e = .returned (.bool (aroundB (dblL L) (addQ a b))) ∧ Below w.heap.size w w' := by
  obtain ⟨i0, hi0, hz0, hz1, hz2⟩ := info_parts infoPt
  obtain ⟨g, rfl, -⟩ := hA 0 h1
  have HP := Lib.hid (fun w => plus_ok (ax := a.1) (ay := a.2) (bx := b.1) (by' := b.2) ha hb w)
  have HPL := Lib.hid (fun k w => plus_ok (ax := (gt L k).1) (ay := (gt L k).2) (bx := (gt L k).1) (by' := (gt L k).2) (gt_ok hok k) (gt_ok hok k) w)
  have HS := Lib.hid (okP_add ha hb)
  have HD := Lib.hid (dbl_sm hok)
  have HA := Lib.hid hA
  have HV : Hid (addQ a b = (a.1 + b.1, a.2 + b.2)) := rfl
  clear hA hok ha hb
  obtain ⟨ax, ay⟩ := a
  obtain ⟨bx, by'⟩ := b
  simp only at *
  have n4 := (at_new w ax ay 54).alloc (.cells #[.int .i64 bx, .int .i64 by'] 54)
  have m4 := at_new (w.alloc (.cells #[.int .i64 ax, .int .i64 ay] 54)) bx by' 54
  rw [size_alloc] at m4
  have b4 := below2 w (.cells #[.int .i64 ax, .int .i64 ay] 54) (.cells #[.int .i64 bx, .int .i64 by'] 54)
  go_enter Try.func175, Try.ntmps175
  go_wp2_with fail
  generalize ((w.alloc (.cells #[.int .i64 ax, .int .i64 ay] 54)).alloc (.cells #[.int .i64 bx, .int .i64 by'] 54)) = w4 at *
  have HA4 := Lib.hid (ptsA_on HA.out b4)
  go_loopw [7, 9, 12] (fun s _ i wr => ∃ (k : Nat) (M : List (Int × Int)), k ≤ L.length ∧ i = .int .i64 k ∧ Hid (M = dblTill L k) ∧ wr.ownsRow w4.heap.size 54 2 s M.length (flat M) ∧ Below w4.heap.size w4 wr) (fun _ _ i _ => L.length - (intOf i).toNat)
  case atStart => exact ⟨0, [], Nat.zero_le _, rfl, rfl, World.ownsRow_nil _ _ _ _, Below.refl _ _⟩
  case round =>
    obtain ⟨wo, rfl⟩ : ∃ wo : World, wo = wr := ⟨_, rfl⟩
    obtain ⟨k, M, hk, rfl, HM, own, hb⟩ := hrel
    by_cases hlt : k < L.length
    · have HC := Lib.hid (HPL.out k)
      have HM2 : Hid (M ++ [((gt L k).1 + (gt L k).1, (gt L k).2 + (gt L k).2)] = dblTill L (k + 1)) := by
        show _ = _
        rw [dblTill_step, HM.out]
      have hML : M.length ≤ 10 := by rw [HM.out, dblTill_len]; omega
      clear HM
      obtain ⟨d5, d6⟩ := gt_cells (ptsA_on HA4.out hb) hlt
      generalize (gt L k).1 = x at *
      generalize (gt L k).2 = y at *
      have n6 := at_new wo x y 54
      have c5 := n6.c0; have c6 := n6.c1
      have b5 := hb.alloc hb.size (.cells #[.int .i64 x, .int .i64 y] 54)
      have own5 := own.alloc (.cells #[.int .i64 x, .int .i64 y] 54)
      clear hb own
      go_wp2_with fail
      refine (HC.out _).mono ?_
      rintro e w6 ⟨rfl, hb6⟩
      have b6 := below_on b5 hb6
      have own6 := own_below own5 hb6
      have hs6 := b6.size
      clear b5 hb6 c5 c6 d5 d6 own5 n6
      go_wp2_with (at_builtin; refine wpList_append_own _ rfl _ _ 27 rfl w4.heap.size 54 i0 (.agg #[.int .i64 0, .int .i64 0]) 2 16 Try.underlying27 hi0 hz0 hz1 hz2 rfl (by decide) _ _ _ rfl (own6.alloc _) ⟨w6.heap.size, 0, none⟩ 1 1 [.int .i64 (x + x), .int .i64 (y + y)] rfl rfl ?d1 ?d2 ?d3 ?d4 ?d5 ?_)
      case d1 => exact World.news_of_block (cs := #[.int .i64 (x + x), .int .i64 (y + y)]) (t := 54) (fr := (0, 0)) (heap_alloc_new w6 _)
      case d2 => simp [Value.oneCell']
      case d3 => unfold maxLen; omega
      case d4 => omega
      case d5 => simp; omega
      intro v' w7 own7 hgrow _
      have hrw := fun k hk => (own6.lt k hk).1
      have R : Hid (w7.ownsRow w4.heap.size 54 2 v' (M ++ [(x + x, y + y)]).length (flat (M ++ [(x + x, y + y)])) ∧ Below w4.heap.size w4 w7) :=
        ⟨by rw [flat_append, List.length_append]; exact own7, (b6.alloc hs6 _).grown hgrow (by simp; omega) hrw⟩
      clear own6 own7 hgrow b6 hrw
      go_wp2_with fail
      go_roundw
      case rel => exact ⟨k + 1, M ++ [(x + x, y + y)], by omega, by go_num, HM2, R.out.1, R.out.2⟩
      case measure => simp [intOf]; omega
    · have e : k = L.length := by omega
      have HQ : Hid (M = dblL L) := by
        show _ = _
        rw [HM.out, e, dblTill_all]
      have b5 := below_on b4 hb
      obtain ⟨_, A2, c2, rfl, p2⟩ := own_pts own
      have n5 := n4.step hb
      have m5 := m4.step hb
      have c0 := n5.c0; have c1 := n5.c1; have c2' := m5.c0; have c3 := m5.c1
      have HL : Hid (M.length = L.length) := by show _ = _; rw [HQ.out, dbl_len]
      have HP2 := Lib.hid p2
      clear e hb b4 HM own p2 n4 m4 n5 m5
      go_wp2_with fail
      refine (HP.out _).mono ?_
      rintro e w6 ⟨rfl, hb6⟩
      have HH := Lib.hid (around_sm A2 c2 M (ax + bx, ay + by') w6 (ptsA_on HP2.out hb6) (by rw [HL.out]; exact h1) (by rw [HL.out]; exact h2) (by rw [HQ.out]; exact HD.out) HS.out)
      have b6 := below_on b5 hb6
      clear hb6 b5
      go_wp2_with fail
      refine HH.out.mono ?_
      rintro e w7 ⟨rfl, hb7⟩
      have b7 := below_on b6 hb7
      go_wp2_with fail
      go_ret
      exact ⟨ret_bool (by rw [HV.out, HQ.out]), b7⟩

theorem corner_any (A : Option Addr) (c : Nat) (L : List (Int × Int)) (k : Int) (w : World) (hA : PtsA w A L) (hL : L.length ≤ 1048576) :
    Calls Try.prog 173 #[.slice A L.length c, .int .i64 k] w fun e w' => e = .returned (.bool (polyB L && inB k 0 ((L.length : Int) - 1))) ∧ Below w.heap.size w w' := by
  have PC := Lib.hid (impl_poly A c L w hA hL)
  have HI := Lib.hid (fun w => from_any k 0 ((L.length : Int) - 1) w)
  cases hp : polyB L
  · rw [hp] at PC
    clear hA
    go_enter Try.func173, Try.ntmps173
    go_wp2_with fail
    refine PC.out.mono ?_
    rintro e w1 ⟨rfl, hb1⟩
    go_wp2_with fail
    go_ret
    exact ⟨ret_bool rfl, hb1⟩
  · obtain ⟨h3, h10, hok⟩ := polyB_all hp
    rw [hp] at PC
    clear hA
    go_enter Try.func173, Try.ntmps173
    go_wp2_with fail
    refine PC.out.mono ?_
    rintro e w1 ⟨rfl, hb1⟩
    go_wp2_with fail
    refine (HI.out _).mono ?_
    rintro e w2 ⟨rfl, rfl⟩
    go_wp2_with fail
    go_ret
    exact ⟨ret_bool rfl, hb1⟩

def diagV (L : List (Int × Int)) (i k : Int) : Bool := polyB L && (inB i 0 ((L.length : Int) - 1) && (inB k 0 ((L.length : Int) - 1) && diagB L i.toNat k.toNat))
set_option maxRecDepth 100000 in
set_option maxHeartbeats 2000000 in
theorem impl_diag (A : Option Addr) (c : Nat) (L : List (Int × Int)) (i k : Int) (w : World) (hA : PtsA w A L) (hL : L.length ≤ 1048576) :
    Calls Try.prog 124 #[.slice A L.length c, .int .i64 i, .int .i64 k] w fun e w' => e = .returned (.bool (diagV L i k)) ∧ Below w.heap.size w w' := by
  have CI := Lib.hid (corner_any A c L i w hA hL)
  have CK := Lib.hid (fun W (hb : Below w.heap.size w W) => corner_any A c L k W (ptsA_on hA hb) hL)
  cases hi : (polyB L && inB i 0 ((L.length : Int) - 1))
  · have HV : Hid (diagV L i k = false) := by
      show _ = _
      rw [diagV, ← Bool.and_assoc, hi]; rfl
    rw [hi] at CI
    clear hA
    go_enter Try.func124, Try.ntmps124
    go_wp2_with fail
    refine CI.out.mono ?_
    rintro e w1 ⟨rfl, hb1⟩
    go_wp2_with fail
    go_ret
    exact ⟨ret_bool HV.out.symm, hb1⟩
  obtain ⟨hp, hi2⟩ := (Bool.and_eq_true _ _).mp hi
  cases hk : inB k 0 ((L.length : Int) - 1)
  · have HV : Hid (diagV L i k = false) := by
      show _ = _
      rw [diagV, hk, Bool.false_and, Bool.and_false, Bool.and_false]
    rw [hi] at CI
    rw [hp, hk] at CK
    clear hA
    go_enter Try.func124, Try.ntmps124
    go_wp2_with fail
    refine CI.out.mono ?_
    rintro e w1 ⟨rfl, hb1⟩
    go_wp2_with fail
    refine (CK.out _ hb1).mono ?_
    rintro e w2 ⟨rfl, hb2⟩
    have b2 := below_on hb1 hb2
    go_wp2_with fail
    go_ret
    exact ⟨ret_bool HV.out.symm, b2⟩
  obtain ⟨h3, h10, hok⟩ := polyB_all hp
  have hib := inB_spec.1 hi2
  have hkb := inB_spec.1 hk
  obtain ⟨p, rfl⟩ : ∃ p : Nat, i = (p : Int) := ⟨i.toNat, by omega⟩
  obtain ⟨q, rfl⟩ : ∃ q : Nat, k = (q : Int) := ⟨k.toNat, by omega⟩
  have hpl : p < L.length := by omega
  have hql : q < L.length := by omega
  have HV : Hid (diagV L p q = ((List.range L.length).all (stepQ L (gt L p) (gt L q)) && aroundB (dblL L) (addQ (gt L p) (gt L q)))) := by
    show _ = _
    rw [diagV, hp, hi2, hk, Bool.true_and, Bool.true_and, Bool.true_and]
    exact (diag_eq ((poly_iff L).1 hp) hpl hql).symm
  rw [hi] at CI
  rw [hp, hk] at CK
  obtain ⟨g, rfl, -⟩ := hA 0 (by omega)
  have HM := Lib.hid (fun W (hb : Below w.heap.size w W) => at_ends (some ⟨g, 0, none⟩) c L (gt L p) (gt L q) W (ptsA_on hA hb) (by omega) (by omega))
  have HA := Lib.hid (fun W (hb : Below w.heap.size w W) => middle_any (some ⟨g, 0, none⟩) c L (gt L p) (gt L q) W (ptsA_on hA hb) (by omega) (by omega) hok (gt_ok hok p) (gt_ok hok q))
  have HC := Lib.hid hA
  clear hA hi hi2 hk
  generalize (List.range L.length).all (stepQ L (gt L p) (gt L q)) = E at *
  generalize aroundB (dblL L) (addQ (gt L p) (gt L q)) = R at *
  go_enter Try.func124, Try.ntmps124
  go_wp2_with fail
  refine CI.out.mono ?_
  rintro e w1 ⟨rfl, hb1⟩
  go_wp2_with fail
  refine (CK.out _ hb1).mono ?_
  rintro e w2 ⟨rfl, hb2⟩
  have b2 := below_on hb1 hb2
  clear hb1 hb2 CI CK
  obtain ⟨d1, d2⟩ := gt_cells (ptsA_on HC.out b2) hpl
  obtain ⟨d3, d4⟩ := gt_cells (ptsA_on HC.out b2) hql
  have HM2 := Lib.hid (fun d os => HM.out _ (below_on b2 (below_regrown w2 d os)))
  have HA2 := Lib.hid (fun d os => HA.out _ (below_on b2 (below_regrown w2 d os)))
  generalize (gt L p).1 = x at *
  generalize (gt L p).2 = y at *
  generalize (gt L q).1 = x' at *
  generalize (gt L q).2 = y' at *
  have hp1 : (p : Int) < (L.length : Int) := by omega
  have hp2 : (0 : Int) ≤ (p : Int) := by omega
  have hp3 : (q : Int) < (L.length : Int) := by omega
  have hp4 : (0 : Int) ≤ (q : Int) := by omega
  have k1 := cell_regrown d1; have k2 := cell_regrown d2; have k3 := cell_regrown d3; have k4 := cell_regrown d4
  clear HM HA HC d1 d2 d3 d4
  cases E
  all_goals
    go_upto_region 3 with (fail)
    refine wp_region_quiet_below (by kernel_rfl) (by kernel_rfl) ?_
    repeat (first
      | go_big_quiet_step (first | exact Calls.regrown_of (HM2.out _ _) | exact Calls.regrown_of (HA2.out _ _))
      | quiet_step (first | exact Calls.regrown_of (HM2.out _ _) | exact Calls.regrown_of (HA2.out _ _)))
    refine wpQuiet_nil ?_
    rintro _ ⟨⟨dq, osq⟩, rfl⟩
    have b3 := below_on b2 (below_regrown w2 dq osq)
    go_wp2_with fail
    go_ret
    exact ⟨ret_bool HV.out.symm, b3⟩
end Go.Proofs.Ytimkknljoeiceaa
