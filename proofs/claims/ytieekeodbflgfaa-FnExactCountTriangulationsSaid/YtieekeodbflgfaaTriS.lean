/-
  The model's count of triangulations, part by part: as many as sets of diagonals that do not cross. (Written by wip/mk_trispec.py.)
-/
import Derived.Test.YtieekeodbflgfaaTriGeo
import Derived.Test.YtieekeodbflgfaaSetsC
import Derived.Test.YtieekeodbflgfaaDiagS
namespace Go.Proofs.Ytieekeodbflgfaa
open Go.RowKit

def termN (S : List (Int × Int)) (d i k : Nat) (t : Nat) : Nat := bif seesB S i (i + 1 + t) && seesB S (i + 1 + t) k then triN S d i (i + 1 + t) * triN S d (i + 1 + t) k else 0
theorem triN_step (S : List (Int × Int)) (d i k : Nat) (h : k ≠ i + 1) : triN S (d + 1) i k = sumT' (termN S d i k) (k - i - 1) := by
  rw [triN, beq_eq_false_iff_ne.2 h]; rfl
theorem sum_small {S : List (Int × Int)} (hS : Chords S) (hl : S.length ≤ 64) {d i k : Nat} (hk : k ≤ 9) (hd : k - i ≤ d + 1) : ∀ t, t + i + 2 ≤ k → sumT' (termN S d i k) (t + 1) ≤ 1152921504606846976 := fun t ht => by
  have hO : ∀ j, i < j → j < k → OpenOk S d i j := fun j h1 h2 => tri_ok S hS d i j h1 (by omega)
  have hC : ∀ j, i < j → j < k → ShutOk S d j k := fun j h1 h2 => shut_of hS h2 (tri_ok S hS d j k h2 (by omega))
  have h := (sum_step S hS d i k (by omega) hO hC t ht).2
  have e : sumT' (termN S d i k) (t + 1) = setN (k - i - 2) (S.filter (inX i k (i + 2 + t))) := h.symm
  rw [e]
  exact setN_small (Nat.le_trans (List.length_filter_le _ _) hl) (by omega)
theorem w_mul_add {s u v : Int} (hs : 0 ≤ s) (hu : 0 ≤ u) (hv : 0 ≤ v) (h : s + u * v ≤ 1152921504606846976) : (wrap64 (u * v) = u * v ∧ IntKind.i64.wrap (u * v) = u * v) ∧ (wrap64 (s + u * v) = s + u * v ∧ IntKind.i64.wrap (s + u * v) = s + u * v) := by
  have hp : 0 ≤ u * v := Int.mul_nonneg hu hv
  generalize u * v = p at *
  exact ⟨⟨IntWalk.wrap64_in _ (by omega), IntWalk.i64_in _ (by omega)⟩, IntWalk.wrap64_in _ (by omega), IntWalk.i64_in _ (by omega)⟩
theorem w_nx {j : Int} (h : 0 ≤ j) (h2 : j ≤ 100) : wrap64 (j + 1) = j + 1 ∧ IntKind.i64.wrap (j + 1) = j + 1 := ⟨IntWalk.wrap64_in _ (by omega), IntWalk.i64_in _ (by omega)⟩
/-- What the model answers for parts of at most d sides. -/
def PartOk (A : Option Addr) (c : Nat) (L : List (Int × Int)) (d : Nat) : Prop :=
  ∀ (i k : Nat) (iv kv : Int) (w : World), iv = (i : Int) → kv = (k : Int) → i < k → k < L.length → k - i ≤ d → PtsA w A L → Sees L i k →
    Calls Try.prog 96 #[.slice A L.length c, .int .i64 iv, .int .i64 kv] w fun e w' => e = .returned (.int .i64 (triN (allD L L.length) d i k : Nat)) ∧ Below w.heap.size w w'
set_option maxRecDepth 100000 in
set_option maxHeartbeats 8000000 in
theorem part_step (A : Option Addr) (c : Nat) (L : List (Int × Int)) (hp : polyB L = true) (h8 : L.length ≤ 8) (d : Nat) (ih : PartOk A c L d) : PartOk A c L (d + 1) := by
  intro i k iv kv w hi hk hik hkL hd hA hs
  obtain ⟨h3, h10, hok⟩ := polyB_all hp
  obtain ⟨g, rfl, -⟩ := hA 0 (by omega)
  have hg := (poly_iff L).1 hp
  obtain ⟨S, hS⟩ : ∃ S, S = allD L L.length := ⟨_, rfl⟩
  have hch : Chords S := by rw [hS]; exact allD_chords L
  have h64 : S.length ≤ 64 := by rw [hS]; exact allD_64 L h8
  have HI := Lib.hid hi
  have HK := Lib.hid hk
  have HPA := Lib.hid hA
  have i0 : 0 ≤ iv := by omega
  have HNI := Lib.hid (w_nx (j := iv) i0 (by omega))
  rw [← hS]
  clear hA hi hk
  by_cases he : k = i + 1
  · have q1 : (kv == iv + 1) = true := by rw [HI.out, HK.out, beq_iff_eq]; omega
    have HV : Hid ((triN S (d + 1) i k : Int) = 1) := by
      show _ = _
      rw [triN, he]; simp
    have m1 := HNI.out.1; have m1' := HNI.out.2
    clear hs ih hch h64 hS hd he
    go_enter Try.func96, Try.ntmps96
    go_wp2_with fail
    go_ret
    exact ⟨by rw [HV.out]; rfl, Below.refl _ _⟩
  · have q1 : (kv == iv + 1) = false := by rw [HI.out, HK.out, beq_eq_false_iff_ne]; omega
    have HV : Hid (triN S (d + 1) i k = sumT' (termN S d i k) (k - i - 1)) := triN_step S d i k he
    have IH := Lib.hid ih
    have HSEE := Lib.hid hs
    have HSS := Lib.hid hS
    have HSM := Lib.hid (sum_small hch h64 (d := d) (i := i) (k := k) (by omega) hd)
    have HG0 := Lib.hid hg
    have HOK := Lib.hid hok
    have m1 := HNI.out.1; have m1' := HNI.out.2
    clear hs ih hS hg hok hch h64
    go_enter Try.func96, Try.ntmps96
    go_wp2_with fail
    clear m1 m1'
    go_loopw [7, 8, 9, 10] (fun s j _ _ wr => ∃ (t : Nat) (jv sv : Int), i + 1 + t ≤ k ∧ Hid (jv = ((i + 1 + t : Nat) : Int)) ∧ s = .int .i64 sv ∧ j = .int .i64 jv ∧ Hid (sv = (sumT' (termN S d i k) t : Nat)) ∧ Hid (Below w.heap.size w wr)) (fun _ j _ _ _ => ((kv - intOf j).toNat))
    case atStart => exact ⟨0, iv + 1, 0, by omega, by show iv + 1 = _; rw [HI.out]; omega, rfl, rfl, rfl, Below.refl _ _⟩
    case round =>
      obtain ⟨wo, rfl⟩ : ∃ wo : World, wo = wr := ⟨_, rfl⟩
      obtain ⟨t, jv, sv, hjk', HJ, rfl, rfl, HSV, HBo⟩ := hrel
      obtain ⟨jn, hjn⟩ : ∃ jn, jn = i + 1 + t := ⟨_, rfl⟩
      by_cases hlt : jn < k
      · have c0 : decide (jv < kv) = true := decide_eq_true (by rw [HJ.out, HK.out]; omega)
        have c0' : jv < kv := by rw [HJ.out, HK.out]; omega
        have hjk : i + 1 + (t + 1) ≤ k := by omega
        have hiL : i < L.length := by omega
        have hjL : jn < L.length := by omega
        replace HJ : Hid (jv = (jn : Int)) := by show _ = _; rw [HJ.out, hjn]
        have j0 : 0 ≤ jv := by rw [HJ.out]; omega
        have HNX := Lib.hid (w_nx (j := jv) j0 (by rw [HJ.out]; omega))
        have HJ1 : Hid (Hid (jv + 1 = ((i + 1 + (t + 1) : Nat) : Int))) := by show _ = _; rw [HJ.out, hjn]; omega
        have HMS : Hid ((kv - (jv + 1)).toNat < (kv - jv).toNat) := by show _ < _; omega
        have HSE : Hid (seesB S i jn = (jn == i + 1 || diagB L i jn) ∧ seesB S jn k = (k == jn + 1 || diagB L jn k)) := by
          show _ ∧ _
          rw [HSS.out]
          exact ⟨sees_all L (by omega) hjL, sees_all L hlt hkL⟩
        obtain ⟨X, HXE⟩ : ∃ X, Hid (X = crossP (gt L i) (gt L jn) (gt L k)) := ⟨_, rfl⟩
        have FX : Hid (seesB S i jn = true → seesB S jn k = true → X ≠ 0) := fun h1 h2 => by
          rw [HXE.out]
          rw [HSS.out] at h1 h2
          exact sees_cross HG0.out (by omega) hlt hkL (sees_of (by omega) hjL h1) (sees_of hlt hkL h2) HSEE.out
        have HCR : Hid (∀ W, Calls Try.prog 112 #[(.agg #[.int .i64 (gt L i).1, .int .i64 (gt L i).2]), (.agg #[.int .i64 (gt L jn).1, .int .i64 (gt L jn).2]), (.agg #[.int .i64 (gt L k).1, .int .i64 (gt L k).2])] W fun e w' => e = .returned (.int .i64 X) ∧ Below W.heap.size W w') := fun W => by
          rw [HXE.out]
          exact crossS_on _ _ _ _ _ _ W (all_at HOK.out hiL) (all_at HOK.out hjL) (all_at HOK.out hkL)
        obtain ⟨u, HU⟩ : ∃ u : Int, Hid (u = (triN S d i jn : Nat)) := ⟨_, rfl⟩
        obtain ⟨v, HVV⟩ : ∃ v : Int, Hid (v = (triN S d jn k : Nat)) := ⟨_, rfl⟩
        have HIJ : Hid (∀ W, Below w.heap.size w W → seesB S i jn = true → Calls Try.prog 96 #[.slice (some ⟨g, 0, none⟩) L.length c, .int .i64 iv, .int .i64 jv] W fun e w' => e = .returned (.int .i64 u) ∧ Below W.heap.size W w') := fun W hb h1 => by
          have q := IH.out i jn iv jv W HI.out HJ.out (by omega) hjL (by omega) (ptsA_on HPA.out hb) (sees_of (by omega) hjL (by rw [← HSS.out]; exact h1))
          rw [← HSS.out, ← HU.out] at q
          exact q
        have HJK : Hid (∀ W, Below w.heap.size w W → seesB S jn k = true → Calls Try.prog 96 #[.slice (some ⟨g, 0, none⟩) L.length c, .int .i64 jv, .int .i64 kv] W fun e w' => e = .returned (.int .i64 v) ∧ Below W.heap.size W w') := fun W hb h1 => by
          have q := IH.out jn k jv kv W HJ.out HK.out hlt hkL (by omega) (ptsA_on HPA.out hb) (sees_of hlt hkL (by rw [← HSS.out]; exact h1))
          rw [← HSS.out, ← HVV.out] at q
          exact q
        have HDI : Hid (∀ W, Below w.heap.size w W → Calls Try.prog 78 #[.slice (some ⟨g, 0, none⟩) L.length c, .int .i64 iv, .int .i64 jv] W fun e w' => e = .returned (.bool (diagB L i jn)) ∧ Below W.heap.size W w') := fun W hb => by
          rw [HI.out, HJ.out]
          exact diagS_any _ c L i jn W (ptsA_on HPA.out hb) h3 h10 HOK.out hiL hjL
        have HDK : Hid (∀ W, Below w.heap.size w W → Calls Try.prog 78 #[.slice (some ⟨g, 0, none⟩) L.length c, .int .i64 jv, .int .i64 kv] W fun e w' => e = .returned (.bool (diagB L jn k)) ∧ Below W.heap.size W w') := fun W hb => by
          rw [HK.out, HJ.out]
          exact diagS_any _ c L jn k W (ptsA_on HPA.out hb) h3 h10 HOK.out hjL hkL
        have HTE : Hid (sumT' (termN S d i k) (t + 1) = sumT' (termN S d i k) t + bif seesB S i jn && seesB S jn k then triN S d i jn * triN S d jn k else 0) := by
          show _ = _
          rw [hjn]; rfl
        have HW0 : Hid (seesB S i jn = false ∨ seesB S jn k = false → Hid (sv = (sumT' (termN S d i k) (t + 1) : Nat))) := fun h => by
          show _ = _
          rw [HTE.out, HSV.out]
          rcases h with h | h <;> simp [h]
        have HW : Hid (seesB S i jn = true → seesB S jn k = true → (wrap64 (u * v) = u * v ∧ IntKind.i64.wrap (u * v) = u * v ∧ wrap64 (sv + u * v) = sv + u * v ∧ IntKind.i64.wrap (sv + u * v) = sv + u * v) ∧ Hid (sv + u * v = (sumT' (termN S d i k) (t + 1) : Nat))) := fun h1 h2 => by
          have e1 : sv + u * v = (sumT' (termN S d i k) (t + 1) : Nat) := by
            rw [HTE.out, HSV.out, HU.out, HVV.out, h1, h2, Bool.and_self, cond_true]
            simp
          have e2 := HSM.out t (by omega)
          obtain ⟨⟨a1, a2⟩, a3, a4⟩ := w_mul_add (s := sv) (u := u) (v := v) (by rw [HSV.out]; omega) (by rw [HU.out]; omega) (by rw [HVV.out]; omega) (by rw [e1]; omega)
          exact ⟨⟨a1, a2, a3, a4⟩, e1⟩
        have n0 := HNI.out.1; have n0' := HNI.out.2
        have B0 : Hid (Below wo.heap.size wo wo) := Below.refl _ _
        by_cases e1 : jn = i + 1
        · have q0 : (jv == iv + 1) = true := by rw [HI.out, HJ.out, beq_iff_eq]; omega
          have HF : Hid (seesB S i jn = true) := by show _ = _; rw [e1]; simp [seesB]
          clear hjn e1
          as_aux_lemma =>
            go_upto_region 8 with (fail)
            clear n0 n0'
            by_cases e2 : k = jn + 1
            · have q2 : (kv == jv + 1) = true := by rw [HK.out, HJ.out, beq_iff_eq]; omega
              have HG : Hid (seesB S jn k = true) := by show _ = _; rw [e2]; simp [seesB]
              clear e2
              have m1 := HNX.out.1; have m1' := HNX.out.2
              obtain rfl : iv = (i : Int) := HI.out
              obtain rfl : kv = (k : Int) := HK.out
              obtain rfl : jv = (jn : Int) := HJ.out
              have HX := Lib.hid (FX.out HF.out HG.out)
              have hap := ptsA_on HPA.out (below_on HBo.out B0.out)
              obtain ⟨c1, c2⟩ := gt_cells hap hiL
              obtain ⟨c3, c4⟩ := gt_cells hap hjL
              obtain ⟨c5, c6⟩ := gt_cells hap hkL
              have k1 := cell_regrown c1; have k2 := cell_regrown c2; have k3 := cell_regrown c3; have k4 := cell_regrown c4; have k5 := cell_regrown c5; have k6 := cell_regrown c6
              have p1 : (i : Int) < (L.length : Int) := Int.ofNat_lt.2 hiL; have p2 : (jn : Int) < (L.length : Int) := Int.ofNat_lt.2 hjL; have p3 : (k : Int) < (L.length : Int) := Int.ofNat_lt.2 hkL
              have p4 : (0 : Int) ≤ (i : Int) := Int.natCast_nonneg _; have p5 : (0 : Int) ≤ (jn : Int) := Int.natCast_nonneg _; have p6 : (0 : Int) ≤ (k : Int) := Int.natCast_nonneg _
              have hx0 : (X == 0) = false := beq_eq_false_iff_ne.2 HX.out
              clear hap
              go_upto_region 9 with (fail)
              refine wp_region_quiet_below (by kernel_rfl) (by kernel_rfl) ?_
              repeat (first
                | go_big_quiet_step (first | exact Calls.regrown_of (HCR.out _))
                | quiet_step (first | exact Calls.regrown_of (HCR.out _)))
              refine wpQuiet_nil ?_
              rintro _ ⟨⟨dq, osq⟩, rfl⟩
              have B9 := Lib.hid (below_on (below_on HBo.out B0.out) (below_regrown wo dq osq))
              have B9' := Lib.hid (below_on B0.out (below_regrown wo dq osq))
              clear k1 k2 k3 k4 k5 k6 c1 c2 c3 c4 c5 c6
              generalize Go.Sort.grow (redrawn wo dq) osq = w9 at *
              go_wp2_with fail
              refine (HIJ.out w9 B9.out HF.out).mono ?_
              rintro e w10 ⟨rfl, hb10⟩
              have B10 := Lib.hid (below_on B9.out hb10)
              clear hb10 B9 B9'
              go_wp2_with fail
              refine (HJK.out w10 B10.out HG.out).mono ?_
              rintro e w11 ⟨rfl, hb11⟩
              have B11 := Lib.hid (below_on B10.out hb11)
              clear hb11 B10
              obtain ⟨g1, g1', g2, g2'⟩ := (HW.out HF.out HG.out).1
              have HS2 := Lib.hid (HW.out HF.out HG.out).2
              have n1 := HNX.out.1; have n1' := HNX.out.2
              go_wp2_with fail
              clear g1 g1' g2 g2' n1 n1'
              go_roundw
              case rel => exact ⟨t + 1, (jn : Int) + 1, sv + u * v, hjk, HJ1.out, rfl, rfl, HS2, B11⟩
              case measure => exact HMS.out
            · have q2 : (kv == jv + 1) = false := by rw [HK.out, HJ.out, beq_eq_false_iff_ne]; omega
              have m1 := HNX.out.1; have m1' := HNX.out.2
              go_wp2_with fail
              refine (HDK.out wo (below_on HBo.out B0.out)).mono ?_
              rintro e w7 ⟨rfl, hb7⟩
              have B7 := Lib.hid (below_on B0.out hb7)
              clear hb7 m1 m1'
              cases hd2 : diagB L jn k
              · have HG : Hid (seesB S jn k = false) := by show _ = _; rw [HSE.out.2, hd2, beq_eq_false_iff_ne.2 e2]; rfl
                have B9 := Lib.hid (below_on HBo.out B7.out)
                have HS2 := Lib.hid (HW0.out (Or.inr HG.out))
                have n1 := HNX.out.1; have n1' := HNX.out.2
                go_upto_region 9 with (fail)
                refine wp_region_quiet_below (by kernel_rfl) (by kernel_rfl) ?_
                repeat (first
                  | go_big_quiet_step (first | exact Calls.regrown_of (HCR.out _))
                  | quiet_step (first | exact Calls.regrown_of (HCR.out _)))
                refine wpQuiet_nil ?_
                rintro _ ⟨⟨dq, osq⟩, rfl⟩
                have B10 := Lib.hid (below_on B9.out (below_regrown w7 dq osq))
                clear B9
                go_wp2_with fail
                clear n1 n1'
                go_roundw
                case rel => exact ⟨t + 1, jv + 1, sv, hjk, HJ1.out, rfl, rfl, HS2, B10⟩
                case measure => exact HMS.out
              · have HG : Hid (seesB S jn k = true) := by show _ = _; rw [HSE.out.2, hd2, Bool.or_true]
                obtain rfl : iv = (i : Int) := HI.out
                obtain rfl : kv = (k : Int) := HK.out
                obtain rfl : jv = (jn : Int) := HJ.out
                have HX := Lib.hid (FX.out HF.out HG.out)
                have hap := ptsA_on HPA.out (below_on HBo.out B7.out)
                obtain ⟨c1, c2⟩ := gt_cells hap hiL
                obtain ⟨c3, c4⟩ := gt_cells hap hjL
                obtain ⟨c5, c6⟩ := gt_cells hap hkL
                have k1 := cell_regrown c1; have k2 := cell_regrown c2; have k3 := cell_regrown c3; have k4 := cell_regrown c4; have k5 := cell_regrown c5; have k6 := cell_regrown c6
                have p1 : (i : Int) < (L.length : Int) := Int.ofNat_lt.2 hiL; have p2 : (jn : Int) < (L.length : Int) := Int.ofNat_lt.2 hjL; have p3 : (k : Int) < (L.length : Int) := Int.ofNat_lt.2 hkL
                have p4 : (0 : Int) ≤ (i : Int) := Int.natCast_nonneg _; have p5 : (0 : Int) ≤ (jn : Int) := Int.natCast_nonneg _; have p6 : (0 : Int) ≤ (k : Int) := Int.natCast_nonneg _
                have hx0 : (X == 0) = false := beq_eq_false_iff_ne.2 HX.out
                clear hap
                go_upto_region 9 with (fail)
                refine wp_region_quiet_below (by kernel_rfl) (by kernel_rfl) ?_
                repeat (first
                  | go_big_quiet_step (first | exact Calls.regrown_of (HCR.out _))
                  | quiet_step (first | exact Calls.regrown_of (HCR.out _)))
                refine wpQuiet_nil ?_
                rintro _ ⟨⟨dq, osq⟩, rfl⟩
                have B9 := Lib.hid (below_on (below_on HBo.out B7.out) (below_regrown w7 dq osq))
                have B9' := Lib.hid (below_on B7.out (below_regrown w7 dq osq))
                clear k1 k2 k3 k4 k5 k6 c1 c2 c3 c4 c5 c6
                generalize Go.Sort.grow (redrawn w7 dq) osq = w9 at *
                go_wp2_with fail
                refine (HIJ.out w9 B9.out HF.out).mono ?_
                rintro e w10 ⟨rfl, hb10⟩
                have B10 := Lib.hid (below_on B9.out hb10)
                clear hb10 B9 B9'
                go_wp2_with fail
                refine (HJK.out w10 B10.out HG.out).mono ?_
                rintro e w11 ⟨rfl, hb11⟩
                have B11 := Lib.hid (below_on B10.out hb11)
                clear hb11 B10
                obtain ⟨g1, g1', g2, g2'⟩ := (HW.out HF.out HG.out).1
                have HS2 := Lib.hid (HW.out HF.out HG.out).2
                have n1 := HNX.out.1; have n1' := HNX.out.2
                go_wp2_with fail
                clear g1 g1' g2 g2' n1 n1'
                go_roundw
                case rel => exact ⟨t + 1, (jn : Int) + 1, sv + u * v, hjk, HJ1.out, rfl, rfl, HS2, B11⟩
                case measure => exact HMS.out
        · have q0 : (jv == iv + 1) = false := by rw [HI.out, HJ.out, beq_eq_false_iff_ne]; omega
          have HE1 := Lib.hid e1
          clear hjn e1
          go_wp2_with fail
          refine (HDI.out _ HBo.out).mono ?_
          rintro e w5 ⟨rfl, hb5⟩
          have B5 := Lib.hid hb5
          clear hb5 n0 n0' B0
          cases hd1 : diagB L i jn
          · have HF : Hid (seesB S i jn = false) := by show _ = _; rw [HSE.out.1, hd1, beq_eq_false_iff_ne.2 HE1.out]; rfl
            as_aux_lemma =>
              go_upto_region 8 with (fail)
              by_cases e2 : k = jn + 1
              · have q2 : (kv == jv + 1) = true := by rw [HK.out, HJ.out, beq_iff_eq]; omega
                have HG : Hid (seesB S jn k = true) := by show _ = _; rw [e2]; simp [seesB]
                clear e2
                have m1 := HNX.out.1; have m1' := HNX.out.2
                have B9 := Lib.hid (below_on HBo.out B5.out)
                have HS2 := Lib.hid (HW0.out (Or.inl HF.out))
                have n1 := HNX.out.1; have n1' := HNX.out.2
                go_upto_region 9 with (fail)
                refine wp_region_quiet_below (by kernel_rfl) (by kernel_rfl) ?_
                repeat (first
                  | go_big_quiet_step (first | exact Calls.regrown_of (HCR.out _))
                  | quiet_step (first | exact Calls.regrown_of (HCR.out _)))
                refine wpQuiet_nil ?_
                rintro _ ⟨⟨dq, osq⟩, rfl⟩
                have B10 := Lib.hid (below_on B9.out (below_regrown w5 dq osq))
                clear B9
                go_wp2_with fail
                clear n1 n1'
                go_roundw
                case rel => exact ⟨t + 1, jv + 1, sv, hjk, HJ1.out, rfl, rfl, HS2, B10⟩
                case measure => exact HMS.out
              · have q2 : (kv == jv + 1) = false := by rw [HK.out, HJ.out, beq_eq_false_iff_ne]; omega
                have m1 := HNX.out.1; have m1' := HNX.out.2
                go_wp2_with fail
                refine (HDK.out w5 (below_on HBo.out B5.out)).mono ?_
                rintro e w7 ⟨rfl, hb7⟩
                have B7 := Lib.hid (below_on B5.out hb7)
                clear hb7 m1 m1'
                cases hd2 : diagB L jn k
                · have HG : Hid (seesB S jn k = false) := by show _ = _; rw [HSE.out.2, hd2, beq_eq_false_iff_ne.2 e2]; rfl
                  have B9 := Lib.hid (below_on HBo.out B7.out)
                  have HS2 := Lib.hid (HW0.out (Or.inl HF.out))
                  have n1 := HNX.out.1; have n1' := HNX.out.2
                  go_upto_region 9 with (fail)
                  refine wp_region_quiet_below (by kernel_rfl) (by kernel_rfl) ?_
                  repeat (first
                    | go_big_quiet_step (first | exact Calls.regrown_of (HCR.out _))
                    | quiet_step (first | exact Calls.regrown_of (HCR.out _)))
                  refine wpQuiet_nil ?_
                  rintro _ ⟨⟨dq, osq⟩, rfl⟩
                  have B10 := Lib.hid (below_on B9.out (below_regrown w7 dq osq))
                  clear B9
                  go_wp2_with fail
                  clear n1 n1'
                  go_roundw
                  case rel => exact ⟨t + 1, jv + 1, sv, hjk, HJ1.out, rfl, rfl, HS2, B10⟩
                  case measure => exact HMS.out
                · have HG : Hid (seesB S jn k = true) := by show _ = _; rw [HSE.out.2, hd2, Bool.or_true]
                  have B9 := Lib.hid (below_on HBo.out B7.out)
                  have HS2 := Lib.hid (HW0.out (Or.inl HF.out))
                  have n1 := HNX.out.1; have n1' := HNX.out.2
                  go_upto_region 9 with (fail)
                  refine wp_region_quiet_below (by kernel_rfl) (by kernel_rfl) ?_
                  repeat (first
                    | go_big_quiet_step (first | exact Calls.regrown_of (HCR.out _))
                    | quiet_step (first | exact Calls.regrown_of (HCR.out _)))
                  refine wpQuiet_nil ?_
                  rintro _ ⟨⟨dq, osq⟩, rfl⟩
                  have B10 := Lib.hid (below_on B9.out (below_regrown w7 dq osq))
                  clear B9
                  go_wp2_with fail
                  clear n1 n1'
                  go_roundw
                  case rel => exact ⟨t + 1, jv + 1, sv, hjk, HJ1.out, rfl, rfl, HS2, B10⟩
                  case measure => exact HMS.out
          · have HF : Hid (seesB S i jn = true) := by show _ = _; rw [HSE.out.1, hd1, Bool.or_true]
            as_aux_lemma =>
              go_upto_region 8 with (fail)
              by_cases e2 : k = jn + 1
              · have q2 : (kv == jv + 1) = true := by rw [HK.out, HJ.out, beq_iff_eq]; omega
                have HG : Hid (seesB S jn k = true) := by show _ = _; rw [e2]; simp [seesB]
                clear e2
                have m1 := HNX.out.1; have m1' := HNX.out.2
                obtain rfl : iv = (i : Int) := HI.out
                obtain rfl : kv = (k : Int) := HK.out
                obtain rfl : jv = (jn : Int) := HJ.out
                have HX := Lib.hid (FX.out HF.out HG.out)
                have hap := ptsA_on HPA.out (below_on HBo.out B5.out)
                obtain ⟨c1, c2⟩ := gt_cells hap hiL
                obtain ⟨c3, c4⟩ := gt_cells hap hjL
                obtain ⟨c5, c6⟩ := gt_cells hap hkL
                have k1 := cell_regrown c1; have k2 := cell_regrown c2; have k3 := cell_regrown c3; have k4 := cell_regrown c4; have k5 := cell_regrown c5; have k6 := cell_regrown c6
                have p1 : (i : Int) < (L.length : Int) := Int.ofNat_lt.2 hiL; have p2 : (jn : Int) < (L.length : Int) := Int.ofNat_lt.2 hjL; have p3 : (k : Int) < (L.length : Int) := Int.ofNat_lt.2 hkL
                have p4 : (0 : Int) ≤ (i : Int) := Int.natCast_nonneg _; have p5 : (0 : Int) ≤ (jn : Int) := Int.natCast_nonneg _; have p6 : (0 : Int) ≤ (k : Int) := Int.natCast_nonneg _
                have hx0 : (X == 0) = false := beq_eq_false_iff_ne.2 HX.out
                clear hap
                go_upto_region 9 with (fail)
                refine wp_region_quiet_below (by kernel_rfl) (by kernel_rfl) ?_
                repeat (first
                  | go_big_quiet_step (first | exact Calls.regrown_of (HCR.out _))
                  | quiet_step (first | exact Calls.regrown_of (HCR.out _)))
                refine wpQuiet_nil ?_
                rintro _ ⟨⟨dq, osq⟩, rfl⟩
                have B9 := Lib.hid (below_on (below_on HBo.out B5.out) (below_regrown w5 dq osq))
                have B9' := Lib.hid (below_on B5.out (below_regrown w5 dq osq))
                clear k1 k2 k3 k4 k5 k6 c1 c2 c3 c4 c5 c6
                generalize Go.Sort.grow (redrawn w5 dq) osq = w9 at *
                go_wp2_with fail
                refine (HIJ.out w9 B9.out HF.out).mono ?_
                rintro e w10 ⟨rfl, hb10⟩
                have B10 := Lib.hid (below_on B9.out hb10)
                clear hb10 B9 B9'
                go_wp2_with fail
                refine (HJK.out w10 B10.out HG.out).mono ?_
                rintro e w11 ⟨rfl, hb11⟩
                have B11 := Lib.hid (below_on B10.out hb11)
                clear hb11 B10
                obtain ⟨g1, g1', g2, g2'⟩ := (HW.out HF.out HG.out).1
                have HS2 := Lib.hid (HW.out HF.out HG.out).2
                have n1 := HNX.out.1; have n1' := HNX.out.2
                go_wp2_with fail
                clear g1 g1' g2 g2' n1 n1'
                go_roundw
                case rel => exact ⟨t + 1, (jn : Int) + 1, sv + u * v, hjk, HJ1.out, rfl, rfl, HS2, B11⟩
                case measure => exact HMS.out
              · have q2 : (kv == jv + 1) = false := by rw [HK.out, HJ.out, beq_eq_false_iff_ne]; omega
                have m1 := HNX.out.1; have m1' := HNX.out.2
                go_wp2_with fail
                refine (HDK.out w5 (below_on HBo.out B5.out)).mono ?_
                rintro e w7 ⟨rfl, hb7⟩
                have B7 := Lib.hid (below_on B5.out hb7)
                clear hb7 m1 m1'
                cases hd2 : diagB L jn k
                · have HG : Hid (seesB S jn k = false) := by show _ = _; rw [HSE.out.2, hd2, beq_eq_false_iff_ne.2 e2]; rfl
                  have B9 := Lib.hid (below_on HBo.out B7.out)
                  have HS2 := Lib.hid (HW0.out (Or.inr HG.out))
                  have n1 := HNX.out.1; have n1' := HNX.out.2
                  go_upto_region 9 with (fail)
                  refine wp_region_quiet_below (by kernel_rfl) (by kernel_rfl) ?_
                  repeat (first
                    | go_big_quiet_step (first | exact Calls.regrown_of (HCR.out _))
                    | quiet_step (first | exact Calls.regrown_of (HCR.out _)))
                  refine wpQuiet_nil ?_
                  rintro _ ⟨⟨dq, osq⟩, rfl⟩
                  have B10 := Lib.hid (below_on B9.out (below_regrown w7 dq osq))
                  clear B9
                  go_wp2_with fail
                  clear n1 n1'
                  go_roundw
                  case rel => exact ⟨t + 1, jv + 1, sv, hjk, HJ1.out, rfl, rfl, HS2, B10⟩
                  case measure => exact HMS.out
                · have HG : Hid (seesB S jn k = true) := by show _ = _; rw [HSE.out.2, hd2, Bool.or_true]
                  obtain rfl : iv = (i : Int) := HI.out
                  obtain rfl : kv = (k : Int) := HK.out
                  obtain rfl : jv = (jn : Int) := HJ.out
                  have HX := Lib.hid (FX.out HF.out HG.out)
                  have hap := ptsA_on HPA.out (below_on HBo.out B7.out)
                  obtain ⟨c1, c2⟩ := gt_cells hap hiL
                  obtain ⟨c3, c4⟩ := gt_cells hap hjL
                  obtain ⟨c5, c6⟩ := gt_cells hap hkL
                  have k1 := cell_regrown c1; have k2 := cell_regrown c2; have k3 := cell_regrown c3; have k4 := cell_regrown c4; have k5 := cell_regrown c5; have k6 := cell_regrown c6
                  have p1 : (i : Int) < (L.length : Int) := Int.ofNat_lt.2 hiL; have p2 : (jn : Int) < (L.length : Int) := Int.ofNat_lt.2 hjL; have p3 : (k : Int) < (L.length : Int) := Int.ofNat_lt.2 hkL
                  have p4 : (0 : Int) ≤ (i : Int) := Int.natCast_nonneg _; have p5 : (0 : Int) ≤ (jn : Int) := Int.natCast_nonneg _; have p6 : (0 : Int) ≤ (k : Int) := Int.natCast_nonneg _
                  have hx0 : (X == 0) = false := beq_eq_false_iff_ne.2 HX.out
                  clear hap
                  go_upto_region 9 with (fail)
                  refine wp_region_quiet_below (by kernel_rfl) (by kernel_rfl) ?_
                  repeat (first
                    | go_big_quiet_step (first | exact Calls.regrown_of (HCR.out _))
                    | quiet_step (first | exact Calls.regrown_of (HCR.out _)))
                  refine wpQuiet_nil ?_
                  rintro _ ⟨⟨dq, osq⟩, rfl⟩
                  have B9 := Lib.hid (below_on (below_on HBo.out B7.out) (below_regrown w7 dq osq))
                  have B9' := Lib.hid (below_on B7.out (below_regrown w7 dq osq))
                  clear k1 k2 k3 k4 k5 k6 c1 c2 c3 c4 c5 c6
                  generalize Go.Sort.grow (redrawn w7 dq) osq = w9 at *
                  go_wp2_with fail
                  refine (HIJ.out w9 B9.out HF.out).mono ?_
                  rintro e w10 ⟨rfl, hb10⟩
                  have B10 := Lib.hid (below_on B9.out hb10)
                  clear hb10 B9 B9'
                  go_wp2_with fail
                  refine (HJK.out w10 B10.out HG.out).mono ?_
                  rintro e w11 ⟨rfl, hb11⟩
                  have B11 := Lib.hid (below_on B10.out hb11)
                  clear hb11 B10
                  obtain ⟨g1, g1', g2, g2'⟩ := (HW.out HF.out HG.out).1
                  have HS2 := Lib.hid (HW.out HF.out HG.out).2
                  have n1 := HNX.out.1; have n1' := HNX.out.2
                  go_wp2_with fail
                  clear g1 g1' g2 g2' n1 n1'
                  go_roundw
                  case rel => exact ⟨t + 1, (jn : Int) + 1, sv + u * v, hjk, HJ1.out, rfl, rfl, HS2, B11⟩
                  case measure => exact HMS.out
      · have c0 : decide (jv < kv) = false := decide_eq_false (by rw [HJ.out, HK.out]; omega)
        have c0' : ¬ jv < kv := by rw [HJ.out, HK.out]; omega
        have HE : Hid (sv = (triN S (d + 1) i k : Nat)) := by
          show _ = _
          rw [HSV.out, HV.out, show t = k - i - 1 from by omega]
        clear hjn
        go_wp2_with fail
        go_ret
        exact ⟨by rw [HE.out]; rfl, HBo.out⟩
theorem part_all (A : Option Addr) (c : Nat) (L : List (Int × Int)) (hp : polyB L = true) (h8 : L.length ≤ 8) : ∀ d, PartOk A c L d
  | 0 => fun i k _ _ _ _ _ h1 _ h2 => by omega
  | d + 1 => part_step A c L hp h8 d (part_all A c L hp h8 d)
end Go.Proofs.Ytieekeodbflgfaa
