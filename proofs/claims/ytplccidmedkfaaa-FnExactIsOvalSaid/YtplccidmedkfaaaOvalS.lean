/-
  A walk for IsOval of the model.
-/
import Derived.Test.YtplccidmedkfaaaOval
namespace Go.Proofs.Ytplccidmedkfaaa
open Go.RowKit

theorem dvs_bd {S : List (Int × Int)} (hok : allOk S = true) (i : Nat) : (gt (dvs S) i).1.natAbs ≤ 40 ∧ (gt (dvs S) i).2.natAbs ≤ 40 := by
  by_cases hi : i < S.length
  · rw [gt_at (by rw [dvs_len]; exact hi)]
    have q1 := okP_bounds (gt_ok hok i)
    have q2 := okP_bounds (gt_ok hok (nx S i))
    simp only [dvs, List.getElem_map, List.getElem_range, dvec]
    omega
  · have : gt (dvs S) i = (0, 0) := by simp [gt, List.getElem?_eq_none (show (dvs S).length ≤ i by rw [dvs_len]; omega)]
    rw [this]; decide

set_option maxRecDepth 100000 in
set_option maxHeartbeats 4000000 in
theorem spec_oval (A : Option Addr) (c : Nat) (L : List (Int × Int)) (w : World) (hA : PtsA w A L) (hL : L.length ≤ 1048576) :
    Calls Try.prog 43 #[.slice A L.length c] w fun e w' => e = .returned (.bool (ovalV L)) ∧ Below w.heap.size w w' := by
  have HP := Lib.hid (spec_conv A c L w hA hL)
  have HV : Hid (ovalV L = (convV L && ovalB (dvs (straightL L)))) := rfl
  cases hp : convV L
  · rw [hp] at HP HV
    clear hA
    go_enter Try.func43, Try.ntmps43
    go_wp2_with fail
    refine HP.out.mono ?_
    rintro e w1 ⟨rfl, b1⟩
    go_wp2_with fail
    go_ret
    exact ⟨ret_bool HV.out.symm, b1⟩
  · have hpo : polyB L = true := by
      have h := hp
      simp only [convV, Bool.and_eq_true] at h
      exact h.1
    obtain ⟨h3, h10, hok⟩ := polyB_all hpo
    obtain ⟨s3, s10, sok⟩ := polyB_all (poly_straight hpo)
    have HST : Hid (∀ W, Below w.heap.size w W → Calls Try.prog 76 #[.slice A L.length c] W fun e w' => ∃ v, e = .returned v ∧ w'.ownsRow W.heap.size 27 2 v (straightL L).length (flat (straightL L)) ∧ Below W.heap.size W w') := fun W hb => straight_any A c L W (ptsA_on hA hb) (by omega) (by omega) hok
    obtain ⟨S, hS⟩ : ∃ S, S = straightL L := ⟨_, rfl⟩
    rw [← hS] at s3 s10 sok HV HST
    rw [hp] at HP HV
    have HVE := Lib.hid (fun A c w hA => vecs_any A c S w hA (by omega) s10 sok)
    have HBD := Lib.hid (fun i => dvs_bd sok i)
    have hD3 : 3 ≤ (dvs S).length := by rw [dvs_len]; exact s3
    have hD10 : (dvs S).length ≤ 10 := by rw [dvs_len]; exact s10
    obtain ⟨D, hD⟩ : ∃ D, D = dvs S := ⟨_, rfl⟩
    rw [← hD] at HV HVE HBD hD3 hD10
    clear hA hS hok sok s3 s10 h3 h10 hpo hp hD hL
    go_enter Try.func43, Try.ntmps43
    go_wp2_with fail
    refine HP.out.mono ?_
    rintro e w1 ⟨rfl, b1⟩
    go_wp2_with fail
    refine (HST.out w1 b1).mono ?_
    rintro e w2 ⟨v, rfl, own, hb2⟩
    obtain ⟨_, A2, c2, rfl, p2⟩ := own_pts own
    have b2 := below_on b1 hb2
    clear own b1 hb2
    go_wp2_with fail
    refine (HVE.out A2 c2 w2 p2).mono ?_
    rintro e w3 ⟨v3, rfl, hr3, hb3⟩
    obtain ⟨gl, cap, rfl, ra⟩ := rows_at hr3 (by omega)
    have b3 := below_on b2 hb3
    have HRA := Lib.hid ra
    clear hr3 hb3 b2 p2 ra
    go_wp2_with fail
    go_loopw [5, 6, 8, 17] (fun _ _ _ i wr => ∃ k : Nat, k ≤ D.length ∧ i = .int .i64 k ∧ Hid (∀ i, i < k → (List.range D.length).any (fun j => backB (gt D j) (gt D i)) = true) ∧ Below w3.heap.size w3 wr) (fun _ _ _ i _ => D.length - (intOf i).toNat)
    case atStart => exact ⟨0, Nat.zero_le _, rfl, fun i hi => by omega, Below.refl _ _⟩
    case round =>
      obtain ⟨wo, rfl⟩ : ∃ wo : World, wo = wr := ⟨_, rfl⟩
      obtain ⟨k, hk, rfl, HN, hb⟩ := hrel
      by_cases hlt : k < D.length
      · obtain ⟨gs, d0, d1, d2⟩ := rowsA_on HRA.out hb k hlt
        have HC1 := Lib.hid d1
        have HC2 := Lib.hid d2
        have HBS := HBD.out k
        have HBK : Hid (∀ p, backB p (gt D k) = (p.1 == -(gt D k).1 && p.2 == -(gt D k).2)) := fun _ => rfl
        have HNQ : Hid ((List.range D.length).any (fun j => backB (gt D j) (gt D k)) = false → ovalB D = false) := fun h => oval_false hlt h
        have HNT : Hid ((List.range D.length).any (fun j => backB (gt D j) (gt D k)) = true → ∀ i, i < k + 1 → (List.range D.length).any (fun j => backB (gt D j) (gt D i)) = true) := fun h i hi => by
          rcases Nat.lt_or_ge i k with h1 | h1
          · exact HN.out i h1
          · obtain rfl : i = k := by omega
            exact h
        generalize gt D k = dk at *
        obtain ⟨s0, s1⟩ := dk
        simp only at d1 d2 HBS HC1 HC2 HBK
        have hb0 : Hid ((List.range 0).any (fun j => backB (gt D j) (s0, s1)) = false) := rfl
        obtain ⟨wb, ewb⟩ : ∃ wb, wb = wo := ⟨_, rfl⟩
        have hbb := hb
        rw [← ewb] at hbb HC1 HC2
        have hbw : Below wb.heap.size wb wo := by rw [ewb]; exact Below.refl _ _
        clear ewb d1 d2
        go_wp2_with fail
        go_loopw [6, 8, 23] (fun f _ i wr => ∃ q : Nat, q ≤ D.length ∧ i = .int .i64 q ∧ f = .bool ((List.range q).any (fun j => backB (gt D j) (s0, s1))) ∧ Below wb.heap.size wb wr) (fun _ _ i _ => D.length - (intOf i).toNat)
        case atStart => exact ⟨0, Nat.zero_le _, rfl, by rw [hb0.out], hbw⟩
        case round =>
          obtain ⟨wi, rfl⟩ : ∃ wi : World, wi = wr := ⟨_, rfl⟩
          clear hb hbw d0
          obtain ⟨q, hq, rfl, rfl, hb⟩ := hrel
          by_cases hlq : q < D.length
          · obtain ⟨gq, e0, e1, e2⟩ := rowsA_on HRA.out (hbb.trans (hb.mono hbb.size)) q hlq
            have d1 := cell_on hb rfl HC1.out
            have d2 := cell_on hb rfl HC2.out
            have HSN := Lib.hid (any_snoc (fun j => backB (gt D j) (s0, s1)) q)
            have HBQ := Lib.hid (HBK.out (gt D q))
            generalize gt D q = dq' at *
            obtain ⟨t0, t1⟩ := dq'
            simp only at e1 e2 HBQ
            have hn0 : wrap64 (-s0) = -s0 := IntWalk.wrap64_in _ (by omega)
            have hn1 : wrap64 (-s1) = -s1 := IntWalk.wrap64_in _ (by omega)
            have hn2 : IntKind.i64.wrap (-s0) = -s0 := IntWalk.i64_in _ (by omega)
            have hn3 : IntKind.i64.wrap (-s1) = -s1 := IntWalk.i64_in _ (by omega)
            have k1 := cell_regrown d1; have k2 := cell_regrown d2; have k3 := cell_regrown e1; have k4 := cell_regrown e2
            generalize (List.range q).any (fun j => backB (gt D j) (s0, s1)) = f at *
            cases f
            · cases h0 : (t0 == -s0)
              · have HE : Hid ((List.range (q + 1)).any (fun j => backB (gt D j) (s0, s1)) = false) := by
                  show _ = _
                  rw [HSN.out, HBQ.out, h0]; rfl
                go_wp2_with fail
                refine wp_region_quiet_below (by kernel_rfl) (by kernel_rfl) ?_
                repeat (first
                  | go_big_quiet_step (fail)
                  | quiet_step (fail))
                refine wpQuiet_nil ?_
                rintro _ ⟨⟨dq, osq⟩, rfl⟩
                have hb2 := below_on hb (below_regrown _ dq osq)
                clear k1 k2 k3 k4 d1 d2 e0 e1 e2 hb
                simp only at *
                generalize Go.Sort.grow (redrawn wi dq) osq = w5 at *
                go_wp2_with fail
                go_roundw
                case rel => exact ⟨q + 1, by omega, by go_num, by rw [HE.out], hb2⟩
                case measure => simp [intOf]; omega
              · have HE : Hid ((List.range (q + 1)).any (fun j => backB (gt D j) (s0, s1)) = (t1 == -s1)) := by
                  show _ = _
                  rw [HSN.out, HBQ.out, h0]; rfl
                go_wp2_with fail
                refine wp_region_quiet_below (by kernel_rfl) (by kernel_rfl) ?_
                repeat (first
                  | go_big_quiet_step (fail)
                  | quiet_step (fail))
                refine wpQuiet_nil ?_
                rintro _ ⟨⟨dq, osq⟩, rfl⟩
                have hb2 := below_on hb (below_regrown _ dq osq)
                clear k1 k2 k3 k4 d1 d2 e0 e1 e2 hb
                simp only at *
                generalize Go.Sort.grow (redrawn wi dq) osq = w5 at *
                go_wp2_with fail
                go_roundw
                case rel => exact ⟨q + 1, by omega, by go_num, by rw [HE.out], hb2⟩
                case measure => simp [intOf]; omega
            · have HE : Hid ((List.range (q + 1)).any (fun j => backB (gt D j) (s0, s1)) = true) := by
                show _ = _
                rw [HSN.out]; rfl
              go_wp2_with fail
              refine wp_region_quiet_below (by kernel_rfl) (by kernel_rfl) ?_
              repeat (first
                | go_big_quiet_step (fail)
                | quiet_step (fail))
              refine wpQuiet_nil ?_
              rintro _ ⟨⟨dq, osq⟩, rfl⟩
              have hb2 := below_on hb (below_regrown _ dq osq)
              clear k1 k2 k3 k4 d1 d2 e0 e1 e2 hb
              simp only at *
              generalize Go.Sort.grow (redrawn wi dq) osq = w5 at *
              go_wp2_with fail
              go_roundw
              case rel => exact ⟨q + 1, by omega, by go_num, by rw [HE.out], hb2⟩
              case measure => simp [intOf]; omega
          · obtain rfl : q = D.length := by omega
            have b5 := hbb.trans (hb.mono hbb.size)
            clear hb
            cases hf : (List.range D.length).any (fun j => backB (gt D j) (s0, s1))
            · have HF := Lib.hid (HNQ.out hf)
              have b6 := below_on b3 b5
              clear HNT HNQ
              go_wp2_with fail
              go_ret
              exact ⟨ret_bool (by rw [HV.out, HF.out]; rfl), b6⟩
            · have HF := Lib.hid (HNT.out hf)
              clear HNT HNQ
              go_wp2_with fail
              go_roundw
              case rel => exact ⟨k + 1, by omega, by go_num, HF.out, b5⟩
              case measure => simp [intOf]; omega
      · have HF : Hid (ovalB D = true) := oval_true fun i hi => HN.out i (by omega)
        have b6 := below_on b3 hb
        clear hb b3
        go_wp2_with fail
        go_ret
        exact ⟨ret_bool (by rw [HV.out, HF.out]; rfl), b6⟩
end Go.Proofs.Ytplccidmedkfaaa
