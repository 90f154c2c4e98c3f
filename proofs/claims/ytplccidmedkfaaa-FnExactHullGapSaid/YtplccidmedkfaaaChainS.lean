/-
  A walk for l04Chain of the model.
-/
import Derived.Test.YtplccidmedkfaaaHullM
namespace Go.Proofs.Ytplccidmedkfaaa
open Go.RowKit

theorem cells1c (w : World) (x y : Int) (t : TypeId) : (w.alloc (.cells #[.int .i64 x, .int .i64 y] t)).cell? ⟨w.heap.size, 0, none⟩ = some (.int .i64 x) ∧ (w.alloc (.cells #[.int .i64 x, .int .i64 y] t)).cell? ⟨w.heap.size, 1, none⟩ = some (.int .i64 y) :=
  ⟨(at_new w x y t).c0, (at_new w x y t).c1⟩
def slLen : Value → Nat
  | .slice _ n _ => n
  | _ => 0
theorem flat_take (M : List P2) : ∀ k, flat (M.take k) = (flat M).take (k * 2) := by
  induction M with
  | nil => intro k; simp [flat]
  | cons p M ih =>
    intro k
    have e : ∀ (p : P2) (M : List P2), flat (p :: M) = .int .i64 p.1 :: .int .i64 p.2 :: flat M := fun _ _ => rfl
    cases k with
    | zero => simp [flat]
    | succ k =>
      have h2 : (k + 1) * 2 = k * 2 + 1 + 1 := by omega
      rw [List.take_succ_cons, e, e, ih k, h2, List.take_succ_cons, List.take_succ_cons]
theorem own_cut {w : World} {B g n cap : Nat} {M : List P2} (h : w.ownsRow B 27 2 (.slice (some ⟨g, 0, none⟩) n cap) n (flat M)) (k : Nat) (hk : k ≤ n) : w.ownsRow B 27 2 (.slice (some ⟨g, 0, none⟩) k cap) k (flat (M.take k)) := by
  have hl : M.length = n := by have := h.1; rw [flat_len] at this; omega
  rcases h.2 with ⟨h1, _⟩ | ⟨g', cap', cur, hv, hB, hg, hn, hc, hs, ht⟩
  · cases h1
  · simp only [Value.slice.injEq, Option.some.injEq, Addr.mk.injEq, and_true, true_and] at hv
    obtain ⟨rfl, rfl⟩ := hv
    refine ⟨by rw [flat_len, List.length_take]; omega, .inr ⟨g, cap, cur, rfl, hB, hg, by omega, hc, hs, ?_⟩⟩
    rw [flat_take, ← ht, List.take_take, Nat.min_eq_left (by omega)]
theorem own_last {w : World} {B g cap : Nat} {M : List P2} (h : w.ownsRow B 27 2 (.slice (some ⟨g, 0, none⟩) M.length cap) M.length (flat M)) : w.ownsRow B 27 2 (.slice (some ⟨g, 0, none⟩) (M.length - 1) cap) (M.length - 1) (flat M.dropLast) := by
  have := own_cut h (M.length - 1) (by omega)
  rwa [← List.dropLast_eq_take] at this
theorem ok_mem {P : List P2} (hok : allOk P = true) {x : P2} (hx : x ∈ P) : okP x.1 x.2 = true := by
  simp only [allOk, List.all_eq_true] at hok
  exact hok x hx
theorem gt_mem {M : List P2} {i : Nat} (hi : i < M.length) : gt M i ∈ M := by
  rw [gt_at hi]; exact List.getElem_mem hi
set_option maxRecDepth 100000 in
set_option maxHeartbeats 4000000 in
theorem chainS_any (A : Option Addr) (c : Nat) (P : List P2) (w : World) (hA : PtsA w A P) (h2 : P.length ≤ 1000) (hok : allOk P = true) :
    Calls Try.prog 98 #[.slice A P.length c] w (Lists w (chL P)) := by
  have HA := Lib.hid hA; have HOK := Lib.hid hok
  clear hA hok
  obtain ⟨i0, hi0, hz0, hz1, hz2⟩ := info_parts infoPt
  have HU : Hid (Lists w (chL P) = fun e w' => ∃ v, e = .returned v ∧ w'.ownsRow w.heap.size 27 2 v (chL P).length (flat (chL P)) ∧ Below w.heap.size w w') := rfl
  have own0 := World.ownsRow_lit (base := w.heap.size) (e := 27) (size := 2) w #[] 0 (Nat.le_refl _) (by decide) rfl
  have b0 := below1 w (.cells #[] 27)
  go_enter Try.func98, Try.ntmps98
  go_wp2_with fail
  go_loopw [3, 5, 9] (fun s _ i wr => ∃ (k g5 cap : Nat) (M : List P2), k ≤ P.length ∧ i = .int .i64 k ∧ s = .slice (some ⟨g5, 0, none⟩) M.length cap ∧ Hid (M = chL (P.take k)) ∧ wr.ownsRow w.heap.size 27 2 (.slice (some ⟨g5, 0, none⟩) M.length cap) M.length (flat M) ∧ Below w.heap.size w wr) (fun _ _ i _ => P.length - (intOf i).toNat)
  case atStart => exact ⟨0, w.heap.size, 0, [], Nat.zero_le _, rfl, rfl, rfl, own0, b0⟩
  case round =>
    obtain ⟨wo, rfl⟩ : ∃ wo : World, wo = wr := ⟨_, rfl⟩
    clear own0 b0
    obtain ⟨k, g5, cap, M, hk, rfl, rfl, HM, hown, hb⟩ := hrel
    by_cases hlt : k < P.length
    · obtain ⟨g, rfl, -⟩ := HA.out k hlt
      obtain ⟨c1, c2⟩ := gt_cells (ptsA_on HA.out hb) hlt
      have HST : Hid (chL (P.take (k + 1)) = popF (gt P k) M ++ [gt P k]) := by
        show _ = _
        rw [chL_take hlt, ← HM.out]; rfl
      have HSUB : Hid (∀ x ∈ M, okP x.1 x.2 = true) := fun x hx => ok_mem HOK.out (List.mem_of_mem_take (chL_sub _ x (by rw [← HM.out]; exact hx)))
      have HPO := Lib.hid (all_at HOK.out hlt)
      have hML : M.length ≤ 1000 := by
        rw [HM.out]
        have := chL_len _ (P.take k) rfl
        rw [List.length_take] at this
        omega
      clear HM
      generalize gt P k = p at *
      obtain ⟨x, y⟩ := p
      simp only at c1 c2 HPO
      have n1 := at_new wo x y 27
      obtain ⟨w1, e1⟩ : ∃ w1, w1 = wo.alloc (.cells #[.int .i64 x, .int .i64 y] 27) := ⟨_, rfl⟩
      have HW1 := Lib.hid e1
      have b1 := hb.alloc hb.size (.cells #[.int .i64 x, .int .i64 y] 27)
      have own1 := hown.alloc (.cells #[.int .i64 x, .int .i64 y] 27)
      have hs1 := size_alloc wo (.cells #[.int .i64 x, .int .i64 y] 27)
      rw [← e1] at n1 b1 own1 hs1
      obtain ⟨xb, hxb⟩ : ∃ xb, xb = wo.heap.size := ⟨_, rfl⟩
      clear e1 hown hb
      go_wp2_with fail
      rw [← HW1.out]
      rw [← hxb] at n1 hs1 ⊢
      clear hxb HW1 c1 c2
      go_loopw [3] (fun s wr => ∃ M' : List P2, M'.length ≤ M.length ∧ s = .slice (some ⟨g5, 0, none⟩) M'.length cap ∧ Hid (popF (x, y) M' = popF (x, y) M ∧ ∀ q ∈ M', okP q.1 q.2 = true) ∧ wr.ownsRow w.heap.size 27 2 (.slice (some ⟨g5, 0, none⟩) M'.length cap) M'.length (flat M') ∧ Below w1.heap.size w1 wr) (fun s _ => slLen s)
      case atStart => exact ⟨M, Nat.le_refl _, rfl, ⟨rfl, HSUB.out⟩, own1, Below.refl _ _⟩
      case round =>
        obtain ⟨wi, rfl⟩ : ∃ wi : World, wi = wr := ⟨_, rfl⟩
        clear own1
        obtain ⟨M', hMl, rfl, HM', own, hb⟩ := hrel
        have HSM : Hid (bendB M' (x, y) = (decide (2 ≤ M'.length) && !(decide (0 < crossP (gt M' (M'.length - 2)) (gt M' (M'.length - 1)) (x, y))))) := rfl
        have m1 := n1.step hb
        have d1 := m1.c0; have d2 := m1.c1
        by_cases h2m : 2 ≤ M'.length
        · have hP := pts_own own rfl
          have p1 := hP (M'.length - 2) (by omega)
          have p2 := hP (M'.length - 1) (by omega)
          have HCR := Lib.hid (fun w => crossS_on _ _ _ _ _ _ w (HM'.out.2 _ (gt_mem (show M'.length - 2 < M'.length by omega))) (HM'.out.2 _ (gt_mem (show M'.length - 1 < M'.length by omega))) HPO.out)
          have hcap := own_cap own
          have HL := Lib.hid (own_last own)
          have HY := Lib.hid (fun h => popF_yes (M := M') (p := (x, y)) h)
          have HN := Lib.hid (fun h => popF_no (M := M') (p := (x, y)) h)
          have HDL : Hid (M'.dropLast.length = M'.length - 1 ∧ ∀ q ∈ M'.dropLast, okP q.1 q.2 = true) := ⟨List.length_dropLast, fun q hq => HM'.out.2 q (List.dropLast_subset _ hq)⟩
          have HD := Lib.hid (decide_eq_true h2m)
          obtain ⟨q, hq⟩ : ∃ q, q = M'.length - 2 := ⟨_, rfl⟩
          have hq1 : M'.length - 1 = q + 1 := by omega
          have hlq : (M'.length : Int) = (q : Int) + 2 := by omega
          rw [← hq] at p1 HCR HSM
          rw [hq1] at p2 HCR HSM HL HDL
          have f1 : wrap64 ((M'.length : Int) - 2) = (q : Int) := by rw [IntWalk.wrap64_in _ (by omega)]; omega
          have f2 : wrap64 ((M'.length : Int) - 1) = ((q + 1 : Nat) : Int) := by rw [IntWalk.wrap64_in _ (by omega)]; omega
          have f3 : IntKind.i64.wrap ((M'.length : Int) - 2) = (q : Int) := by rw [IntWalk.i64_in _ (by omega)]; omega
          have f4 : IntKind.i64.wrap ((M'.length : Int) - 1) = ((q + 1 : Nat) : Int) := by rw [IntWalk.i64_in _ (by omega)]; omega
          have f5 : (q : Int) < (M'.length : Int) := by omega
          have f6 : ((q + 1 : Nat) : Int) < (M'.length : Int) := by omega
          have f7 : q + 1 ≤ cap := by omega
          have f8 : ((q + 1 : Nat) : Int) ≤ (cap : Int) := by omega
          have HSM2 : Hid (bendB M' (x, y) = !(decide (0 < crossP ((gt M' q).1, (gt M' q).2) ((gt M' (q + 1)).1, (gt M' (q + 1)).2) (x, y)))) := by
            show _ = _
            rw [HSM.out, HD.out]; rfl
          clear HSM
          generalize (gt M' q).1 = ax at *
          generalize (gt M' q).2 = ay at *
          generalize (gt M' (q + 1)).1 = bx at *
          generalize (gt M' (q + 1)).2 = by' at *
          generalize crossP (ax, ay) (bx, by') (x, y) = C at *
          obtain ⟨p3, p4⟩ := p1
          obtain ⟨p5, p6⟩ := p2
          have k1 := cell_regrown p3; have k2 := cell_regrown p4; have k3 := cell_regrown p5; have k4 := cell_regrown p6; have k5 := cell_regrown d1; have k6 := cell_regrown d2
          have hg1 : (2 : Int) ≤ (M'.length : Int) := by omega
          have hg2 : decide ((2 : Int) ≤ (M'.length : Int)) = true := decide_eq_true hg1
          clear hq hq1 hP hlq
          by_cases hC : 0 < C
          · have HBF : Hid (bendB M' (x, y) = false) := by
              show _ = _
              rw [HSM2.out, decide_eq_true hC]; rfl
            have hC2 : decide (C ≤ 0) = false := decide_eq_false (by omega)
            have hC3 : ¬ C ≤ 0 := by omega
            go_wp2_with fail
            refine wp_region_quiet_below (by kernel_rfl) (by kernel_rfl) ?_
            repeat (first
              | go_big_quiet_step (first | exact Calls.regrown_of (HCR.out _))
              | quiet_step (first | exact Calls.regrown_of (HCR.out _)))
            refine wpQuiet_nil ?_
            rintro _ ⟨⟨dq, osq⟩, rfl⟩
            have hst := below_regrown wi dq osq
            have b15 := hb.trans (hst.mono hb.size)
            have own5 := own_below own hst
            have m5 := m1.step hst
            clear k1 k2 k3 k4 k5 k6 p3 p4 p5 p6 d1 d2 hst hb own m1
            simp only at *
            generalize Go.Sort.grow (redrawn wi dq) osq = w5 at *
            have d1 := m5.c0; have d2 := m5.c1
            clear f1 f2 f3 f4 f5 f6 f7 f8
            have HEX : Hid (M' ++ [(x, y)] = chL (P.take (k + 1))) := by
              show _ = _
              rw [HST.out, ← HM'.out.1, HN.out HBF.out]
            have b5 := b1.trans (b15.mono b1.size)
            have hs5 := b5.size
            clear b15
            go_wp2_with (at_builtin; refine wpList_append_lies _ rfl _ _ 23 rfl w.heap.size 27 i0 (.agg #[.int .i64 0, .int .i64 0]) 2 16 Try.underlying23 hi0 hz0 hz1 hz2 rfl (by decide) _ _ _ rfl (own5.alloc _) ⟨w5.heap.size, 0, none⟩ 1 1 [.int .i64 x, .int .i64 y] rfl rfl ?d1 ?d2 (by omega) ?d3 ?d4 ?d5 (w5.heap.size + 1) (by simp) ?_)
            case d1 => exact World.news_of_block (cs := #[.int .i64 x, .int .i64 y]) (t := 27) (fr := (0, 0)) (heap_alloc_new w5 _)
            case d2 => simp [Value.oneCell']
            case d3 => unfold maxLen; omega
            case d4 => omega
            case d5 => simp; omega
            intro g6 cp6 w6 own6 hgrow _ _
            have hrw := fun k hk => (own5.lt k hk).1
            have HNN : Hid ((M' ++ [(x, y)]).length = M'.length + 1) := by simp [Hid]
            have R : Hid (w6.ownsRow w.heap.size 27 2 (.slice (some ⟨g6, 0, none⟩) (M' ++ [(x, y)]).length cp6) (M' ++ [(x, y)]).length (flat (M' ++ [(x, y)])) ∧ Below w.heap.size w w6) :=
              ⟨by rw [flat_append, HNN.out]; exact own6, (b5.alloc hs5 _).grown hgrow (by simp; omega) hrw⟩
            clear own5 own6 hgrow b5 d1 d2 m5
            go_wp2_with fail
            first
              | exact ⟨⟨k + 1, g6, cp6, M' ++ [(x, y)], by omega, by go_num, by rw [HNN.out], HEX, R.out.1, R.out.2⟩, by simp [intOf]; omega⟩
              | (go_roundw
                 case rel => exact ⟨k + 1, g6, cp6, M' ++ [(x, y)], by omega, by go_num, by rw [HNN.out], HEX, R.out.1, R.out.2⟩
                 case measure => simp [intOf]; omega)
          · have HBT : Hid (bendB M' (x, y) = true) := by
              show _ = _
              rw [HSM2.out, decide_eq_false hC]; rfl
            have hC2 : decide (C ≤ 0) = true := decide_eq_true (by omega)
            have hC3 : C ≤ 0 := by omega
            go_wp2_with fail
            refine wp_region_quiet_below (by kernel_rfl) (by kernel_rfl) ?_
            repeat (first
              | go_big_quiet_step (first | exact Calls.regrown_of (HCR.out _))
              | quiet_step (first | exact Calls.regrown_of (HCR.out _)))
            refine wpQuiet_nil ?_
            rintro _ ⟨⟨dq, osq⟩, rfl⟩
            have hst := below_regrown wi dq osq
            have b15 := hb.trans (hst.mono hb.size)
            have own5 := own_below HL.out hst
            clear k1 k2 k3 k4 k5 k6 p3 p4 p5 p6 d1 d2 hst hb own m1
            simp only at *
            generalize Go.Sort.grow (redrawn wi dq) osq = w5 at *
            have HR : Hid (w5.ownsRow w.heap.size 27 2 (.slice (some ⟨g5, 0, none⟩) M'.dropLast.length cap) M'.dropLast.length (flat M'.dropLast) ∧ popF (x, y) M'.dropLast = popF (x, y) M) := by
              rw [HDL.out.1]
              exact ⟨own5, by rw [← HY.out HBT.out]; exact HM'.out.1⟩
            have HLE : Hid (M'.dropLast.length = q + 1) := HDL.out.1
            clear own5
            go_wp2_with fail
            go_roundw
            case rel => exact ⟨M'.dropLast, by have := HLE.out; omega, by rw [HLE.out], ⟨HR.out.2, HDL.out.2⟩, HR.out.1, b15⟩
            case measure => simp [slLen]; omega
        · have HBF : Hid (bendB M' (x, y) = false) := by
            show _ = _
            rw [HSM.out, decide_eq_false h2m]; rfl
          have hN := Lib.hid (popF_no (M := M') (p := (x, y)) HBF.out)
          have hn2 : decide (2 ≤ (M'.length : Int)) = false := decide_eq_false (by omega)
          have hn3 : ¬ (2 : Int) ≤ (M'.length : Int) := by omega
          have k5 := cell_regrown d1; have k6 := cell_regrown d2
          go_wp2_with fail
          refine wp_region_quiet_below (by kernel_rfl) (by kernel_rfl) ?_
          repeat (first
            | go_big_quiet_step (fail)
            | quiet_step (fail))
          refine wpQuiet_nil ?_
          rintro _ ⟨⟨dq, osq⟩, rfl⟩
          have hst := below_regrown wi dq osq
          have b15 := hb.trans (hst.mono hb.size)
          have own5 := own_below own hst
          have m5 := m1.step hst
          clear k5 k6 d1 d2 hst hb own m1
          simp only at *
          generalize Go.Sort.grow (redrawn wi dq) osq = w5 at *
          have d1 := m5.c0; have d2 := m5.c1
          clear hn2 hn3
          have HEX : Hid (M' ++ [(x, y)] = chL (P.take (k + 1))) := by
            show _ = _
            rw [HST.out, ← HM'.out.1, hN.out]
          have b5 := b1.trans (b15.mono b1.size)
          have hs5 := b5.size
          clear b15
          go_wp2_with (at_builtin; refine wpList_append_lies _ rfl _ _ 23 rfl w.heap.size 27 i0 (.agg #[.int .i64 0, .int .i64 0]) 2 16 Try.underlying23 hi0 hz0 hz1 hz2 rfl (by decide) _ _ _ rfl (own5.alloc _) ⟨w5.heap.size, 0, none⟩ 1 1 [.int .i64 x, .int .i64 y] rfl rfl ?d1 ?d2 (by omega) ?d3 ?d4 ?d5 (w5.heap.size + 1) (by simp) ?_)
          case d1 => exact World.news_of_block (cs := #[.int .i64 x, .int .i64 y]) (t := 27) (fr := (0, 0)) (heap_alloc_new w5 _)
          case d2 => simp [Value.oneCell']
          case d3 => unfold maxLen; omega
          case d4 => omega
          case d5 => simp; omega
          intro g6 cp6 w6 own6 hgrow _ _
          have hrw := fun k hk => (own5.lt k hk).1
          have HNN : Hid ((M' ++ [(x, y)]).length = M'.length + 1) := by simp [Hid]
          have R : Hid (w6.ownsRow w.heap.size 27 2 (.slice (some ⟨g6, 0, none⟩) (M' ++ [(x, y)]).length cp6) (M' ++ [(x, y)]).length (flat (M' ++ [(x, y)])) ∧ Below w.heap.size w w6) :=
            ⟨by rw [flat_append, HNN.out]; exact own6, (b5.alloc hs5 _).grown hgrow (by simp; omega) hrw⟩
          clear own5 own6 hgrow b5 d1 d2 m5
          go_wp2_with fail
          first
            | exact ⟨⟨k + 1, g6, cp6, M' ++ [(x, y)], by omega, by go_num, by rw [HNN.out], HEX, R.out.1, R.out.2⟩, by simp [intOf]; omega⟩
            | (go_roundw
               case rel => exact ⟨k + 1, g6, cp6, M' ++ [(x, y)], by omega, by go_num, by rw [HNN.out], HEX, R.out.1, R.out.2⟩
               case measure => simp [intOf]; omega)
    · have HQ : Hid (M = chL P) := by
        show _ = _
        rw [HM.out, List.take_of_length_le (by omega)]
      have R := Lib.hid hown
      clear hown HM
      go_wp2_with fail
      go_ret
      rw [HU.out]
      exact ⟨_, rfl, by rw [← HQ.out]; exact R.out, hb⟩
end Go.Proofs.Ytplccidmedkfaaa
