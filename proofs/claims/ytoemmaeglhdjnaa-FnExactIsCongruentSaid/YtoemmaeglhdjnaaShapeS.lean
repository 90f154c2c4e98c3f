/-
  The model's shapes: l06Before, l06Shape, ShapeOf, IsCongruent.
-/
import Derived.Test.YtoemmaeglhdjnaaShapeP
import Derived.Test.YtoemmaeglhdjnaaMoveS
import Derived.Test.YtoemmaeglhdjnaaEqual
namespace Go.Proofs.Ytoemmaeglhdjnaa
open Go.RowKit

def bestK (q c : List Pt) (k : Nat) : List Pt := minB c ((List.range k).flatMap (bothK q))
theorem minB_append (c : List Pt) (xs ys : List (List Pt)) : minB c (xs ++ ys) = minB (minB c xs) ys := List.foldl_append
theorem bestK_step (q c : List Pt) (k : Nat) : bestK q c (k + 1) = stepB (stepB (bestK q c k) (rotL q k)) (turnL (rotL q k)) := by
  unfold bestK
  rw [List.range_succ, List.flatMap_append, minB_append]
  simp [bothK, minB]
def bestM (s : List Pt) (m : Nat) : List Pt := minB (moveL s 0) ((List.range m).flatMap fun j => allK (moveL s j))
theorem bestM_step (s : List Pt) (m : Nat) : bestM s (m + 1) = bestK (moveL s m) (bestM s m) (moveL s m).length := by
  unfold bestM bestK
  rw [List.range_succ, List.flatMap_append, minB_append]
  simp [allK]
theorem bestM_all (s : List Pt) : bestM s 8 = shapeL s := rfl
theorem stepB_yes {c x : List Pt} (h : befL x c = true) : stepB c x = x := if_pos h
theorem stepB_no {c x : List Pt} (h : befL x c = false) : stepB c x = c := if_neg (by rw [h]; exact Bool.false_ne_true)
def shapeV (L : List Pt) : List Pt := bif polyB L then shapeL (straightL L) else []
theorem shapeL_len {s : List Pt} (h : 0 < s.length) : (shapeL s).length = s.length := by
  rcases List.mem_cons.1 (minB_mem (allS s) (moveL s 0)) with e | e
  · rw [shapeL, e]; exact moveL_len s 0
  · obtain ⟨m, _, k, _, hk⟩ := allS_mem.1 e
    rw [shapeL, both_len (by rw [moveL_len]; exact h) hk, moveL_len]

set_option maxRecDepth 100000 in
set_option maxHeartbeats 1000000 in
theorem bef_any (A B : Option Addr) (c d : Nat) (L M : List Pt) (w : World) (hA : PtsA w A L) (hB : PtsA w B M) (hl : L.length = M.length) (h1 : L.length ≤ 1048576) :
    Calls Try.prog 110 #[.slice A L.length c, .slice B M.length d] w fun e w' => e = .returned (.bool (befL L M)) ∧ Below w.heap.size w w' := by
  have HA := Lib.hid hA
  have HB := Lib.hid hB
  have HL := Lib.hid hl
  obtain ⟨n, hn⟩ : ∃ n, n = L.length := ⟨_, rfl⟩
  have HN := Lib.hid hn
  have hm : M.length = n := by omega
  have hn2 : n ≤ 1048576 := by omega
  rw [hm, ← hn]
  clear hA hB hl hn hm h1
  go_enter Try.func110, Try.ntmps110
  go_wp2_with fail
  go_loopw [5, 6, 9] (fun _ _ i wr => ∃ k : Nat, k ≤ n ∧ i = .int .i64 k ∧ Hid (L.take k = M.take k) ∧ Below w.heap.size w wr) (fun _ _ i _ => n - (intOf i).toNat)
  case atStart => exact ⟨0, Nat.zero_le _, rfl, rfl, Below.refl _ _⟩
  case round =>
    obtain ⟨wo, rfl⟩ : ∃ wo : World, wo = wr := ⟨_, rfl⟩
    obtain ⟨k, hk, rfl, HK, hb⟩ := hrel
    by_cases hlt : k < n
    · have hkL : k < L.length := by have := HN.out; omega
      have hkM : k < M.length := by have := HN.out; have := HL.out; omega
      obtain ⟨g1, rfl, -⟩ := HA.out k hkL
      obtain ⟨g2, rfl, -⟩ := HB.out k hkM
      obtain ⟨c1, c2⟩ := gt_cells (ptsA_on HA.out hb) hkL
      obtain ⟨c3, c4⟩ := gt_cells (ptsA_on HB.out hb) hkM
      have GP := guard_pt
      have EP := fun w x y x' y' => neq_pt w x y x' y'
      have HBE : Hid (befP (gt L k) (gt M k) = beforeB (gt L k).1 (gt L k).2 (gt M k).1 (gt M k).2) := rfl
      obtain ⟨x, hx⟩ : ∃ x, x = (gt L k).1 := ⟨_, rfl⟩
      obtain ⟨y, hy⟩ : ∃ y, y = (gt L k).2 := ⟨_, rfl⟩
      obtain ⟨x', hx'⟩ : ∃ x', x' = (gt M k).1 := ⟨_, rfl⟩
      obtain ⟨y', hy'⟩ : ∃ y', y' = (gt M k).2 := ⟨_, rfl⟩
      have HX : Hid ((gt L k = (x, y)) ∧ (gt M k = (x', y'))) := ⟨by rw [hx, hy], by rw [hx', hy']⟩
      rw [← hx, ← hy, ← hx', ← hy'] at HBE
      rw [← hx] at c1; rw [← hy] at c2; rw [← hx'] at c3; rw [← hy'] at c4
      clear hx hy hx' hy'
      have hal := below1 wo (.cells #[.int .i64 x, .int .i64 y] 56)
      have d3 := cell_on hal rfl c3; have d4 := cell_on hal rfl c4
      have n1 := at_new wo x y 56
      have n3 := cell_on hal rfl c3; have n4 := cell_on hal rfl c4
      have d1 := n1.c0; have d2 := n1.c1
      have k1 := cell_regrown d1; have k2 := cell_regrown d2; have k3 := cell_regrown d3; have k4 := cell_regrown d4
      have b2 := hb.trans (hal.mono hb.size)
      have hki : (k : Int) < (n : Int) := by omega
      cases he : (x == x' && y == y')
      · have HD : Hid (befL L M = beforeB x y x' y') := by
          show _ = _
          rw [befL_at k L M hkL hkM HK.out, HBE.out]
          rw [HX.out.1, HX.out.2]
          intro e
          simp only [Prod.mk.injEq] at e
          rw [e.1, e.2] at he; simp at he
        have HS := Lib.hid (fun w => spec_before x y x' y' w)
        go_wp2_with fail
        refine wp_region_quiet_below (by kernel_rfl) (by kernel_rfl) ?_
        repeat (first
          | go_big_quiet_step (fail)
          | quiet_step (fail))
        refine wpQuiet_nil ?_
        rintro _ ⟨⟨dq, osq⟩, rfl⟩
        have b3 := b2.trans ((below_regrown _ dq osq).mono b2.size)
        have e1 := k1 dq osq; have e2 := k2 dq osq; have e3 := k3 dq osq; have e4 := k4 dq osq
        clear k1 k2 k3 k4 d1 d2 d3 d4 c1 c2 c3 c4 n1 n3 n4 hal b2
        generalize Go.Sort.grow (redrawn (wo.alloc (.cells #[.int .i64 x, .int .i64 y] 56)) dq) osq = w5 at *
        have k1 := cell_regrown e1; have k2 := cell_regrown e2; have k3 := cell_regrown e3; have k4 := cell_regrown e4
        go_wp2_with fail
        refine wp_region_quiet_below (by kernel_rfl) (by kernel_rfl) ?_
        repeat (first
          | go_big_quiet_step (first | exact Calls.regrown_of (HS.out _))
          | quiet_step (first | exact Calls.regrown_of (HS.out _)))
        refine wpQuiet_nil ?_
        rintro _ ⟨⟨dz, osz⟩, rfl⟩
        have b4 := below_on b3 (below_regrown w5 dz osz)
        clear k1 k2 k3 k4 e1 e2 e3 e4
        go_wp2_with fail
        go_ret
        exact ⟨ret_bool HD.out.symm, b4⟩
      · have HT : Hid (L.take (k + 1) = M.take (k + 1)) := take_step hkL hkM HK.out (by
          rw [HX.out.1, HX.out.2]
          simp only [Bool.and_eq_true, beq_iff_eq] at he
          rw [he.1, he.2])
        go_wp2_with fail
        refine wp_region_quiet_below (by kernel_rfl) (by kernel_rfl) ?_
        repeat (first
          | go_big_quiet_step (fail)
          | quiet_step (fail))
        refine wpQuiet_nil ?_
        rintro _ ⟨⟨dq, osq⟩, rfl⟩
        have b3 := b2.trans ((below_regrown _ dq osq).mono b2.size)
        clear k1 k2 k3 k4 d1 d2 d3 d4 c1 c2 c3 c4 n1 n3 n4 hal
        go_wp2_with fail
        go_roundw
        case rel => exact ⟨k + 1, by omega, by go_num, HT, b3⟩
        case measure => simp [intOf]; omega
    · obtain rfl : k = n := by omega
      have HD : Hid (befL L M = false) := by
        have h3 := HK.out
        rw [List.take_of_length_le (by have := HN.out; omega), List.take_of_length_le (by have := HN.out; have := HL.out; omega)] at h3
        show _ = _
        rw [h3]; exact befL_self M
      go_wp2_with fail
      go_ret
      exact ⟨ret_bool HD.out.symm, hb⟩
set_option maxRecDepth 100000 in
set_option maxHeartbeats 2000000 in
theorem shape_any (A : Option Addr) (c : Nat) (L : List Pt) (w : World) (hA : PtsA w A L) (hp : polyB L = true) :
    Calls Try.prog 74 #[.slice A L.length c] w (Lists w (shapeL (straightL L))) := by
  obtain ⟨h3, h10, hok⟩ := polyB_all hp
  obtain ⟨k3, k10, kok⟩ := polyB_all (poly_straight hp)
  have HS := Lib.hid (straight_any A c L w hA (by omega) h10 hok)
  unfold Lists at HS
  have HM := Lib.hid (fun A c m w (hp : PtsA w A (straightL L)) (hm : m < 8) => move_any A c (straightL L) m w hp (by omega) k10 kok hm)
  unfold Lists at HM
  have HB0 : Hid (bestM (straightL L) 0 = moveL (straightL L) 0) := rfl
  have HB8 := Lib.hid (bestM_all (straightL L))
  have HBS := Lib.hid (bestM_step (straightL L))
  have HLN := Lib.hid (moveL_len (straightL L))
  clear hA hok hp h3 h10 kok
  generalize straightL L = s at *
  go_enter Try.func74, Try.ntmps74
  go_wp2_with fail
  refine HS.out.mono ?_
  rintro e w1 ⟨v1, rfl, own1, b1⟩
  obtain ⟨_, A1, c1, rfl, p1⟩ := own_pts own1
  clear own1 HS
  go_wp2_with fail
  have h0 := HM.out A1 c1 0 w1 p1 (by omega)
  have HM0 := Lib.hid h0
  clear h0
  refine HM0.out.mono ?_
  rintro e w2 ⟨v2, rfl, own2, hb2⟩
  rw [← HB0.out] at own2
  have b2 := below_on b1 hb2
  replace own2 := own_base own2 b1.size
  replace p1 := ptsA_on p1 hb2
  have hl0 : Hid ((bestM s 0).length = s.length) := by
    show _ = _
    rw [HB0.out]; exact HLN.out 0
  have HP1 := Lib.hid p1
  clear hb2 b1 HM0 p1
  go_wp2_with fail
  go_loopw [4, 5, 6, 7, 8, 9] (fun v i _ _ _ _ wr => ∃ (m : Nat) (T : List Pt), m ≤ 8 ∧ i = .int .i64 m ∧ Hid (T = bestM s m) ∧ Hid (T.length = s.length) ∧ wr.ownsRow w.heap.size 56 2 v T.length (flat T) ∧ Below w2.heap.size w2 wr) (fun _ i _ _ _ _ _ => 8 - (intOf i).toNat)
  case atStart => exact ⟨0, bestM s 0, by omega, rfl, rfl, hl0, own2, Below.refl _ _⟩
  case round =>
    clear own2 hl0
    obtain ⟨wo, rfl⟩ : ∃ wo : World, wo = wr := ⟨_, rfl⟩
    obtain ⟨m, T, hm, rfl, HT, HTL, own, hb⟩ := hrel
    by_cases hlt : m < 8
    · have HMM := Lib.hid (HM.out A1 c1 m wo (ptsA_on HP1.out hb) hlt)
      have HSTEP := Lib.hid (HBS.out m)
      rw [← HT.out] at HSTEP
      have hql := Lib.hid (HLN.out m)
      obtain ⟨q, hq⟩ : ∃ q, q = moveL s m := ⟨_, rfl⟩
      rw [← hq] at HMM HSTEP hql
      clear hq HT
      go_wp2_with fail
      refine HMM.out.mono ?_
      rintro e w3 ⟨v3, rfl, own3, hb3⟩
      have b3 := below_on hb hb3
      replace own := own_below own hb3
      obtain ⟨_, A3, c3, rfl, p3, q3⟩ := own_ptsc own3
      have HP3 := Lib.hid p3
      have HQ3 := Lib.hid q3
      have hqn : q.length ≤ 10 := by have := hql.out; omega
      have hqn1 : 1 ≤ q.length := by have := hql.out; omega
      clear hb3 own3 p3 q3 HMM hb
      have HT0 : Hid (bestK q T 0 = T) := rfl
      go_wp2_with fail
      go_loopw [4, 7, 8, 9, 23] (fun v _ _ _ i wr => ∃ (k : Nat) (U : List Pt), k ≤ q.length ∧ i = .int .i64 k ∧ Hid (U = bestK q T k) ∧ Hid (U.length = q.length) ∧ wr.ownsRow w.heap.size 56 2 v U.length (flat U) ∧ Below w3.heap.size w3 wr) (fun _ _ _ _ i _ => q.length - (intOf i).toNat)
      case atStart => exact ⟨0, T, by omega, rfl, rfl, by show _ = _; rw [HTL.out]; exact hql.out.symm, own, Below.refl _ _⟩
      case round =>
        clear own
        obtain ⟨wi, rfl⟩ : ∃ wi : World, wi = wr := ⟨_, rfl⟩
        obtain ⟨k, U, hk, rfl, HU, HUL, own, hb⟩ := hrel
        by_cases hlk : k < q.length
        · have HST := Lib.hid (start_any A3 c3 k q wi (ptsA_on HP3.out hb) hlk HQ3.out (by omega))
          unfold Lists at HST
          have HK := Lib.hid (bestK_step q T k)
          rw [← HU.out] at HK
          have hal := Lib.hid (rotL_len q k)
          obtain ⟨a, ha⟩ : ∃ a, a = rotL q k := ⟨_, rfl⟩
          rw [← ha] at HST HK hal
          have hbl : Hid ((turnL a).length = q.length) := by
            show _ = _
            rw [turnL_len a (by have := hal.out; omega), hal.out]
          have hu1 := own.1
          clear ha HU hu1
          go_wp2_with fail
          refine HST.out.mono ?_
          rintro e w4 ⟨v4, rfl, own4, hb4⟩
          have b4 := below_on hb hb4
          replace own := own_below own hb4
          have hs4 := b4.size
          have hw4 := hb.size
          have ownA := own_base own4 (show w3.heap.size ≤ wi.heap.size from hw4)
          obtain ⟨_, A4, c4, rfl, p4⟩ := own_pts own4
          have HTU := Lib.hid (turn_any A4 c4 a w4 p4 (by have := hal.out; omega) (by have := hal.out; omega))
          unfold Lists at HTU
          clear hb4 hb own4 HST p4
          obtain ⟨b, hbq⟩ : ∃ b, b = turnL a := ⟨_, rfl⟩
          rw [← hbq] at HTU HK hbl
          clear hbq
          go_wp2_with fail
          refine HTU.out.mono ?_
          rintro e w5 ⟨v5, rfl, own5, hb5⟩
          have b5 := below_on b4 hb5
          replace own := own_below own hb5
          replace ownA := own_below ownA hb5
          have ownB := own_base own5 (show w3.heap.size ≤ w4.heap.size from hs4)
          obtain ⟨_, A5, c5, rfl, p5⟩ := own_pts own5
          obtain ⟨_, Au, cu, rfl, pu⟩ := own_pts own
          have HB1 := Lib.hid (bef_any A4 Au c4 cu a U w5 (ptsA_of ownA) pu (by rw [hal.out, HUL.out]) (by have := hal.out; omega))
          clear hb5 b4 own5 HTU p5 pu
          cases h1 : befL a U
          · rw [h1] at HB1
            have HK2 : Hid (bestK q T (k + 1) = stepB U b) := by
              show _ = _
              rw [HK.out, stepB_no h1]
            clear h1
            go_wp2_with fail
            refine HB1.out.mono ?_
            rintro e w6 ⟨rfl, hb6⟩
            have b6 := below_on b5 hb6
            replace own := own_below own hb6
            replace ownB := own_below ownB hb6
            have HB2 := Lib.hid (bef_any A5 Au c5 cu b U w6 (ptsA_of ownB) (ptsA_of own) (by rw [hbl.out, HUL.out]) (by have := hbl.out; omega))
            clear hb6 b5 ownA
            cases h2 : befL b U
            · rw [h2] at HB2
              have HK3 : Hid (U = bestK q T (k + 1)) := by
                show _ = _
                rw [HK2.out, stepB_no h2]
              go_wp2_with fail
              refine HB2.out.mono ?_
              rintro e w7 ⟨rfl, hb7⟩
              have b7 := below_on b6 hb7
              replace own := own_below own hb7
              clear hb7 b6 ownB
              go_wp2_with fail
              go_roundw
              case rel => exact ⟨k + 1, U, by omega, by go_num, HK3, HUL, own, b7⟩
              case measure => simp [intOf]; omega
            · rw [h2] at HB2
              have HK3 : Hid (b = bestK q T (k + 1)) := by
                show _ = _
                rw [HK2.out, stepB_yes h2]
              go_wp2_with fail
              refine HB2.out.mono ?_
              rintro e w7 ⟨rfl, hb7⟩
              have b7 := below_on b6 hb7
              replace ownB := own_base (own_below ownB hb7) (show w.heap.size ≤ w3.heap.size from Nat.le_trans b2.size b3.size)
              clear hb7 b6 own
              go_wp2_with fail
              go_roundw
              case rel => exact ⟨k + 1, b, by omega, by go_num, HK3, hbl, ownB, b7⟩
              case measure => simp [intOf]; omega
          · rw [h1] at HB1
            have HK2 : Hid (bestK q T (k + 1) = stepB a b) := by
              show _ = _
              rw [HK.out, stepB_yes h1]
            clear h1
            go_wp2_with fail
            refine HB1.out.mono ?_
            rintro e w6 ⟨rfl, hb6⟩
            have b6 := below_on b5 hb6
            replace ownA := own_below ownA hb6
            replace ownB := own_below ownB hb6
            have HB2 := Lib.hid (bef_any A5 A4 c5 c4 b a w6 (ptsA_of ownB) (ptsA_of ownA) (by rw [hbl.out, hal.out]) (by have := hbl.out; omega))
            clear hb6 b5 own
            cases h2 : befL b a
            · rw [h2] at HB2
              have HK3 : Hid (a = bestK q T (k + 1)) := by
                show _ = _
                rw [HK2.out, stepB_no h2]
              go_wp2_with fail
              refine HB2.out.mono ?_
              rintro e w7 ⟨rfl, hb7⟩
              have b7 := below_on b6 hb7
              replace ownA := own_base (own_below ownA hb7) (show w.heap.size ≤ w3.heap.size from Nat.le_trans b2.size b3.size)
              clear hb7 b6 ownB
              go_wp2_with fail
              go_roundw
              case rel => exact ⟨k + 1, a, by omega, by go_num, HK3, hal, ownA, b7⟩
              case measure => simp [intOf]; omega
            · rw [h2] at HB2
              have HK3 : Hid (b = bestK q T (k + 1)) := by
                show _ = _
                rw [HK2.out, stepB_yes h2]
              go_wp2_with fail
              refine HB2.out.mono ?_
              rintro e w7 ⟨rfl, hb7⟩
              have b7 := below_on b6 hb7
              replace ownB := own_base (own_below ownB hb7) (show w.heap.size ≤ w3.heap.size from Nat.le_trans b2.size b3.size)
              clear hb7 b6 ownA
              go_wp2_with fail
              go_roundw
              case rel => exact ⟨k + 1, b, by omega, by go_num, HK3, hbl, ownB, b7⟩
              case measure => simp [intOf]; omega
        · have e : k = q.length := by omega
          have HUM : Hid (U = bestM s (m + 1)) := by
            show _ = _
            rw [HU.out, e, HSTEP.out]
          have HUS : Hid (U.length = s.length) := by
            show _ = _
            rw [HUL.out, hql.out]
          have b8 := below_on b3 hb
          clear e hb HU
          go_wp2_with fail
          go_roundw
          case rel => exact ⟨m + 1, U, by omega, by go_num, HUM, HUS, own, b8⟩
          case measure => simp [intOf]; omega
    · have e : m = 8 := by omega
      have HQ : Hid (T = shapeL s) := by
        show _ = _
        rw [HT.out, e, HB8.out]
      have b9 := below_on b2 hb
      clear HT e hb
      go_wp2_with fail
      go_ret
      rw [← HQ.out]
      exact ⟨_, rfl, own, b9⟩
end Go.Proofs.Ytoemmaeglhdjnaa
