/-
  Walks for turnsLeft and leftChain of the program.
-/
import Derived.Test.YtplccidmedkfaaaOrder
import Derived.Test.YtplccidmedkfaaaSortS
import Derived.ArgAppend
namespace Go.Proofs.Ytplccidmedkfaaa
open Go.RowKit

set_option maxRecDepth 100000 in
set_option maxHeartbeats 2000000 in
theorem turnL_any (A : Option Addr) (c : Nat) (M : List P2) (x y : Int) (w : World) (hA : PtsA w A M) (h2 : 2 ≤ M.length) (hM : M.length ≤ 1000) (hok : ∀ q ∈ M, okP q.1 q.2 = true) (hp : okP x y = true) :
    Calls Try.prog 101 #[.slice A M.length c, (.agg #[.int .i64 x, .int .i64 y])] w fun e w' => e = .returned (.bool (lfB (gt M (M.length - 2)) (gt M (M.length - 1)) (x, y))) ∧ Below w.heap.size w w' := by
  obtain ⟨g, rfl, -⟩ := hA 0 (by omega)
  have hb0 := below1 w (.cells #[.int .i64 x, .int .i64 y] 27)
  have hA1 := ptsA_on hA hb0
  obtain ⟨q, hq⟩ : ∃ q, q = M.length - 2 := ⟨_, rfl⟩
  have hq1 : M.length - 1 = q + 1 := by omega
  obtain ⟨p3, p4⟩ := gt_cells hA1 (i := q) (by omega)
  obtain ⟨p5, p6⟩ := gt_cells hA1 (i := q + 1) (by omega)
  obtain ⟨d1, d2⟩ := cells1c w x y 27
  have HC : Hid (∀ w, Calls Try.prog 79 #[(.agg #[.int .i64 (gt M q).1, .int .i64 (gt M q).2]), (.agg #[.int .i64 (gt M (q + 1)).1, .int .i64 (gt M (q + 1)).2]), (.agg #[.int .i64 x, .int .i64 y])] w fun e w' => e = .returned (.int .i64 (sgn (crossP ((gt M q).1, (gt M q).2) ((gt M (q + 1)).1, (gt M (q + 1)).2) (x, y)))) ∧ Below w.heap.size w w') := fun w => by
    have h := impl_side (gt M q).1 (gt M q).2 (gt M (q + 1)).1 (gt M (q + 1)).2 x y w
    rw [crossV_ok (hok _ (gt_mem (by omega))) (hok _ (gt_mem (by omega))) hp] at h
    exact h
  have HV : Hid (lfB (gt M (M.length - 2)) (gt M (M.length - 1)) (x, y) = decide (0 < crossP ((gt M q).1, (gt M q).2) ((gt M (q + 1)).1, (gt M (q + 1)).2) (x, y))) := by
    show _ = _
    rw [← hq, hq1]; rfl
  have f1 : wrap64 ((M.length : Int) - 2) = (q : Int) := by rw [IntWalk.wrap64_in _ (by omega)]; omega
  have f2 : wrap64 ((M.length : Int) - 1) = ((q + 1 : Nat) : Int) := by rw [IntWalk.wrap64_in _ (by omega)]; omega
  have f3 : IntKind.i64.wrap ((M.length : Int) - 2) = (q : Int) := by rw [IntWalk.i64_in _ (by omega)]; omega
  have f4 : IntKind.i64.wrap ((M.length : Int) - 1) = ((q + 1 : Nat) : Int) := by rw [IntWalk.i64_in _ (by omega)]; omega
  have f5 : (q : Int) < (M.length : Int) := by omega
  have f6 : ((q + 1 : Nat) : Int) < (M.length : Int) := by omega
  generalize (gt M q).1 = ax at *
  generalize (gt M q).2 = ay at *
  generalize (gt M (q + 1)).1 = bx at *
  generalize (gt M (q + 1)).2 = by' at *
  generalize crossP (ax, ay) (bx, by') (x, y) = C at *
  have HG := Lib.hid (sgn_gt C)
  generalize sgn C = sg at *
  have k1 := cell_regrown p3; have k2 := cell_regrown p4; have k3 := cell_regrown p5; have k4 := cell_regrown p6; have k5 := cell_regrown d1; have k6 := cell_regrown d2
  clear hA hA1 hq hq1 hok hp
  go_enter Try.func101, Try.ntmps101
  go_wp2_with fail
  refine wp_region_quiet_below (by kernel_rfl) (by kernel_rfl) ?_
  repeat (first
    | go_big_quiet_step (first | exact Calls.regrown_of (HC.out _))
    | quiet_step (first | exact Calls.regrown_of (HC.out _)))
  refine wpQuiet_nil ?_
  rintro _ ⟨⟨dq, osq⟩, rfl⟩
  have hb1 := below_on hb0 (below_regrown _ dq osq)
  clear k1 k2 k3 k4 k5 k6 p3 p4 p5 p6 d1 d2
  go_wp2_with fail
  go_ret
  exact ⟨ret_bool (by rw [HV.out, ← HG.out]), hb1⟩

/-- A chain: its cells; it lies in memory of the call's own, or has no room behind it. -/
def Chn (w : World) (B gc cap : Nat) (M : List P2) : Prop := PtsA w (some ⟨gc, 0, none⟩) M ∧ M.length ≤ cap ∧ 1 ≤ M.length ∧ ((cap = 1 ∧ M.length = 1) ∨ w.ownsRow B 27 2 (.slice (some ⟨gc, 0, none⟩) M.length cap) M.length (flat M))
theorem Chn.on {w w' : World} {B gc cap : Nat} {M : List P2} (h : Chn w B gc cap M) (hb : Below w.heap.size w w') : Chn w' B gc cap M :=
  ⟨ptsA_on h.1 hb, h.2.1, h.2.2.1, h.2.2.2.elim .inl (fun o => .inr (own_below o hb))⟩
theorem Chn.pop {w : World} {B gc cap : Nat} {M : List P2} (h : Chn w B gc cap M) (h2 : 2 ≤ M.length) : Chn w B gc cap M.dropLast := by
  have hl : M.dropLast.length = M.length - 1 := List.length_dropLast
  refine ⟨fun k hk => ?_, by have := h.2.1; omega, by omega, ?_⟩
  · obtain ⟨g, e, h1, h3⟩ := h.1 k (by omega)
    exact ⟨g, e, by rw [List.getElem_dropLast]; exact h1, by rw [List.getElem_dropLast]; exact h3⟩
  · rcases h.2.2.2 with ⟨h1, h3⟩ | o
    · omega
    · right; rw [hl]; exact own_last o
theorem Chn.of {w : World} {B gc cap : Nat} {M : List P2} (h1 : 1 ≤ M.length) (o : w.ownsRow B 27 2 (.slice (some ⟨gc, 0, none⟩) M.length cap) M.length (flat M)) : Chn w B gc cap M :=
  ⟨ptsA_of o, own_cap o, h1, .inr o⟩

set_option maxRecDepth 100000 in
set_option maxHeartbeats 8000000 in
theorem left_any (gp cp : Nat) (P : List P2) (w : World) (hA : PtsA w (some ⟨gp, 0, none⟩) P) (h1 : 2 ≤ P.length) (h2 : P.length ≤ 1000) (hcp : P.length ≤ cp) (hok : allOk P = true) :
    Calls Try.prog 72 #[.slice (some ⟨gp, 0, none⟩) P.length cp] w (Lists w (chL P)) := by
  have HA := Lib.hid hA; have HOK := Lib.hid hok
  have HP0 : Hid (chL (P.take 1) = [gt P 0]) := by
    show _ = _
    rw [chL_take (by omega)]; rfl
  have hch0 : Chn w w.heap.size gp 1 (chL (P.take 1)) := by
    rw [HP0.out]
    refine ⟨fun k hk => ?_, Nat.le_refl _, Nat.le_refl _, .inl ⟨rfl, rfl⟩⟩
    obtain rfl : k = 0 := by simp at hk; omega
    obtain ⟨g, e, h3, h4⟩ := hA 0 (by omega)
    refine ⟨g, e, ?_, ?_⟩
    · simpa [gt_at (show 0 < P.length by omega)] using h3
    · simpa [gt_at (show 0 < P.length by omega)] using h4
  have HCH0 := Lib.hid hch0
  have hl0 : Hid ((chL (P.take 1)).length = 1) := by
    show _ = _
    rw [HP0.out]; rfl
  clear hA hok hch0
  obtain ⟨i0, hi0, hz0, hz1, hz2⟩ := info_parts infoPt
  have HU : Hid (Lists w (chL P) = fun e w' => ∃ v, e = .returned v ∧ w'.ownsRow w.heap.size 27 2 v (chL P).length (flat (chL P)) ∧ Below w.heap.size w w') := rfl
  obtain ⟨n1, hn1⟩ : ∃ n1, n1 = P.length - 1 := ⟨_, rfl⟩
  have HN1 := Lib.hid hn1
  have s1 : (1 : Int) ≤ (cp : Int) := by omega
  have s2 : (1 : Int) ≤ (P.length : Int) := by omega
  have s3 : (P.length : Int) ≤ (cp : Int) := by omega
  have s4 : ¬ cp = 1 := by omega
  have s5 : ¬ 1 = cp := by omega
  have s6 : 1 ≤ cp := by omega
  have s7 : 1 ≤ P.length := by omega
  go_enter Try.func72, Try.ntmps72
  go_wp2_with fail
  rw [← hn1]
  clear hn1 s1 s2 s3 s4 s5 s6 s7
  go_loopw [3, 5, 11] (fun s _ i wr => ∃ (k g5 cap : Nat) (M : List P2), k ≤ n1 ∧ i = .int .i64 k ∧ s = .slice (some ⟨g5, 0, none⟩) M.length cap ∧ Hid (M = chL (P.take (k + 1))) ∧ Hid (Chn wr w.heap.size g5 cap M) ∧ Below w.heap.size w wr ∧ Hid (k = n1 → wr.ownsRow w.heap.size 27 2 (.slice (some ⟨g5, 0, none⟩) M.length cap) M.length (flat M))) (fun _ _ i _ => n1 - (intOf i).toNat)
  case atStart => exact ⟨0, gp, 1, chL (P.take 1), Nat.zero_le _, rfl, by rw [hl0.out], rfl, HCH0.out, Below.refl _ _, fun h => by have := HN1.out; omega⟩
  case round =>
    obtain ⟨wo, rfl⟩ : ∃ wo : World, wo = wr := ⟨_, rfl⟩
    obtain ⟨k, g5, cap, M, hk, rfl, rfl, HM, HCH, hb, HE⟩ := hrel
    by_cases hlt : k < n1
    · have hk1 : k + 1 < P.length := by have := HN1.out; omega
      have hcc := gt_cells (ptsA_on HA.out hb) hk1
      have e0 : (k + 1) * 2 = 2 + k * 2 := by omega
      rw [e0] at hcc
      obtain ⟨c1, c2⟩ := hcc
      have HST : Hid (chL (P.take (k + 1 + 1)) = popF (gt P (k + 1)) M ++ [gt P (k + 1)]) := by
        show _ = _
        rw [chL_take hk1, ← HM.out]; rfl
      have HSUB : Hid (∀ x ∈ M, okP x.1 x.2 = true) := fun x hx => ok_mem HOK.out (List.mem_of_mem_take (chL_sub _ x (by rw [← HM.out]; exact hx)))
      have HPO := Lib.hid (all_at HOK.out hk1)
      have hML : M.length ≤ 1000 := by
        rw [HM.out]
        have := chL_len _ (P.take (k + 1)) rfl
        rw [List.length_take] at this
        omega
      clear HM HE e0
      generalize gt P (k + 1) = p at *
      obtain ⟨x, y⟩ := p
      simp only at c1 c2 HPO
      have nn1 := at_new wo x y 27
      obtain ⟨w1, e1⟩ : ∃ w1, w1 = wo.alloc (.cells #[.int .i64 x, .int .i64 y] 27) := ⟨_, rfl⟩
      have HW1 := Lib.hid e1
      have b1 := hb.alloc hb.size (.cells #[.int .i64 x, .int .i64 y] 27)
      have HCH1 := Lib.hid (HCH.out.on (below1 wo (.cells #[.int .i64 x, .int .i64 y] 27)))
      rw [← e1] at nn1 b1 HCH1
      obtain ⟨xb, hxb⟩ : ∃ xb, xb = wo.heap.size := ⟨_, rfl⟩
      have hki : (k : Int) < (n1 : Int) := by omega
      clear e1 hb HCH
      go_wp2_with fail
      rw [← HW1.out]
      rw [← hxb] at nn1 ⊢
      clear hxb HW1 c1 c2
      go_loopw [3] (fun s wr => ∃ M' : List P2, M'.length ≤ M.length ∧ s = .slice (some ⟨g5, 0, none⟩) M'.length cap ∧ Hid (popF (x, y) M' = popF (x, y) M ∧ ∀ q ∈ M', okP q.1 q.2 = true) ∧ Hid (Chn wr w.heap.size g5 cap M') ∧ Below w1.heap.size w1 wr) (fun s _ => slLen s)
      case atStart => exact ⟨M, Nat.le_refl _, rfl, ⟨rfl, HSUB.out⟩, HCH1.out, Below.refl _ _⟩
      case round =>
        obtain ⟨wi, rfl⟩ : ∃ wi : World, wi = wr := ⟨_, rfl⟩
        obtain ⟨M', hMl, rfl, HM', HC', hb⟩ := hrel
        have m1 := nn1.step hb
        have d1 := m1.c0; have d2 := m1.c1
        by_cases h2m : 2 ≤ M'.length
        · have HT := Lib.hid (fun w5 (hb5 : Below wi.heap.size wi w5) => turnL_any (some ⟨g5, 0, none⟩) cap M' x y w5 (ptsA_on HC'.out.1 hb5) h2m (by omega) HM'.out.2 HPO.out)
          have HBD : Hid (bendB M' (x, y) = !(lfB (gt M' (M'.length - 2)) (gt M' (M'.length - 1)) (x, y))) := by
            show _ = _
            unfold bendB; rw [decide_eq_true h2m, Bool.true_and]
          have g1 : (1 : Int) < (M'.length : Int) := by omega
          have hcap : M'.length ≤ cap := HC'.out.2.1
          generalize lfB (gt M' (M'.length - 2)) (gt M' (M'.length - 1)) (x, y) = b at *
          cases b
          · have HY := Lib.hid (popF_yes (M := M') (p := (x, y)) (by rw [HBD.out]; rfl))
            have HDL : Hid (M'.dropLast.length = M'.length - 1 ∧ ∀ q ∈ M'.dropLast, okP q.1 q.2 = true) := ⟨List.length_dropLast, fun q hq => HM'.out.2 q (List.dropLast_subset _ hq)⟩
            have HCD := Lib.hid (HC'.out.pop h2m)
            go_wp2_with fail
            refine (HT.out wi (Below.refl _ _)).mono ?_
            rintro e w5 ⟨rfl, hb5⟩
            have b15 := hb.trans (hb5.mono hb.size)
            have HC5 := Lib.hid (HCD.out.on hb5)
            clear hb hb5 d1 d2 m1
            go_wp2_with fail
            refine (end_any (some ⟨g5, 0, none⟩) M'.length cap w5 (by omega) hcap (by omega)).mono ?_
            rintro e w6 ⟨rfl, rfl⟩
            go_wp2_with fail
            go_roundw
            case rel => exact ⟨M'.dropLast, by have := HDL.out.1; omega, by rw [HDL.out.1], ⟨by rw [← HY.out]; exact HM'.out.1, HDL.out.2⟩, HC5.out, b15⟩
            case measure => simp [slLen]; omega
          · have HPN : Hid (popF (x, y) M' = M') := popF_no (by rw [HBD.out]; rfl)
            go_wp2_with fail
            refine (HT.out wi (Below.refl _ _)).mono ?_
            rintro e w5 ⟨rfl, hb5⟩
            have b15 := hb.trans (hb5.mono hb.size)
            have HC5 := Lib.hid (HC'.out.on hb5)
            have m5 := m1.step hb5
            clear hb hb5 d1 d2 m1
            have d1 := m5.c0; have d2 := m5.c1
            have HEX : Hid (M' ++ [(x, y)] = chL (P.take (k + 1 + 1))) := by
              show _ = _
              rw [HST.out, ← HM'.out.1, HPN.out]
            have b5 := b1.trans (b15.mono b1.size)
            have hs5 := b5.size
            have HNN : Hid ((M' ++ [(x, y)]).length = M'.length + 1) := by simp [Hid]
            have HB5 := Lib.hid b5
            clear b15 b5
            rcases HC5.out.2.2.2 with ⟨hc1, hM1⟩ | own5
            · have hpc := ptsA_news (ptsA_on HC5.out.1 (below1 w5 (.cells #[.int .i64 x, .int .i64 y] 27))) 0
              rw [List.drop_zero, Nat.zero_mul] at hpc
              have HPC := Lib.hid hpc
              have HCAP := Lib.hid hc1
              have HM1 := Lib.hid hM1
              clear hpc hc1 hM1
              go_wp2_with (at_builtin; refine wpList_append_grows _ rfl _ _ 23 rfl 27 i0 (.agg #[.int .i64 0, .int .i64 0]) 2 16 Try.underlying23 hi0 hz0 hz1 hz2 rfl (by decide) (some ⟨g5, 0, none⟩) M'.length cap (flat M') rfl (fun h => by cases h) (flat_len M') (fun b hb => by cases hb; exact HPC.out) ⟨w5.heap.size, 0, none⟩ 1 1 [.int .i64 x, .int .i64 y] rfl rfl ?d1 ?d2 ?d3 ?d4 ?d5 ?_)
              case d1 => exact World.news_of_block (cs := #[.int .i64 x, .int .i64 y]) (t := 27) (fr := (0, 0)) (heap_alloc_new w5 _)
              case d2 => simp [Value.oneCell']
              case d3 => have := HCAP.out; have := HM1.out; omega
              case d4 => unfold maxLen; omega
              case d5 => omega
              intro v6 w6 own6 hgrow
              obtain ⟨g6, cp6, rfl⟩ := own_pos own6 (by omega)
              have R : Hid (w6.ownsRow w.heap.size 27 2 (.slice (some ⟨g6, 0, none⟩) (M' ++ [(x, y)]).length cp6) (M' ++ [(x, y)]).length (flat (M' ++ [(x, y)])) ∧ Below w.heap.size w w6) :=
                ⟨by rw [flat_append, HNN.out]; exact own_base own6 (by first | omega | (rw [size_alloc]; omega)), (HB5.out.alloc hs5 _).grown hgrow (by simp; omega) (fun k e => by cases e)⟩
              clear own6 hgrow d1 d2 m5
              go_wp2_with fail
              first
                | exact ⟨⟨k + 1, g6, cp6, M' ++ [(x, y)], by omega, by go_num, by rw [HNN.out], HEX, Chn.of (by rw [HNN.out]; omega) R.out.1, R.out.2, fun _ => R.out.1⟩, by simp [intOf]; omega⟩
                | (go_roundw
                   case rel => exact ⟨k + 1, g6, cp6, M' ++ [(x, y)], by omega, by go_num, by rw [HNN.out], HEX, Chn.of (by rw [HNN.out]; omega) R.out.1, R.out.2, fun _ => R.out.1⟩
                   case measure => simp [intOf]; omega)
            · go_wp2_with (at_builtin; refine wpList_append_lies _ rfl _ _ 23 rfl w.heap.size 27 i0 (.agg #[.int .i64 0, .int .i64 0]) 2 16 Try.underlying23 hi0 hz0 hz1 hz2 rfl (by decide) _ _ _ rfl (own5.alloc _) ⟨w5.heap.size, 0, none⟩ 1 1 [.int .i64 x, .int .i64 y] rfl rfl ?d1 ?d2 (by omega) ?d3 ?d4 ?d5 (w5.heap.size + 1) (by simp) ?_)
              case d1 => exact World.news_of_block (cs := #[.int .i64 x, .int .i64 y]) (t := 27) (fr := (0, 0)) (heap_alloc_new w5 _)
              case d2 => simp [Value.oneCell']
              case d3 => unfold maxLen; omega
              case d4 => omega
              case d5 => simp; omega
              intro g6 cp6 w6 own6 hgrow _ _
              have hrw := fun k hk => (own5.lt k hk).1
              have R : Hid (w6.ownsRow w.heap.size 27 2 (.slice (some ⟨g6, 0, none⟩) (M' ++ [(x, y)]).length cp6) (M' ++ [(x, y)]).length (flat (M' ++ [(x, y)])) ∧ Below w.heap.size w w6) :=
                ⟨by rw [flat_append, HNN.out]; exact own6, (HB5.out.alloc hs5 _).grown hgrow (by simp; omega) hrw⟩
              clear own5 own6 hgrow d1 d2 m5
              go_wp2_with fail
              first
                | exact ⟨⟨k + 1, g6, cp6, M' ++ [(x, y)], by omega, by go_num, by rw [HNN.out], HEX, Chn.of (by rw [HNN.out]; omega) R.out.1, R.out.2, fun _ => R.out.1⟩, by simp [intOf]; omega⟩
                | (go_roundw
                   case rel => exact ⟨k + 1, g6, cp6, M' ++ [(x, y)], by omega, by go_num, by rw [HNN.out], HEX, Chn.of (by rw [HNN.out]; omega) R.out.1, R.out.2, fun _ => R.out.1⟩
                   case measure => simp [intOf]; omega)
        · have HPN : Hid (popF (x, y) M' = M') := popF_no (by unfold bendB; rw [decide_eq_false h2m, Bool.false_and])
          have g1 : decide ((1 : Int) < (M'.length : Int)) = false := decide_eq_false (by omega)
          obtain ⟨w5, rfl⟩ : ∃ w5, w5 = wi := ⟨_, rfl⟩
          have b15 := hb
          have HC5 := HC'
          have m5 := m1
          clear hb m1
          have HEX : Hid (M' ++ [(x, y)] = chL (P.take (k + 1 + 1))) := by
            show _ = _
            rw [HST.out, ← HM'.out.1, HPN.out]
          have b5 := b1.trans (b15.mono b1.size)
          have hs5 := b5.size
          have HNN : Hid ((M' ++ [(x, y)]).length = M'.length + 1) := by simp [Hid]
          have HB5 := Lib.hid b5
          clear b15 b5
          rcases HC5.out.2.2.2 with ⟨hc1, hM1⟩ | own5
          · have hpc := ptsA_news (ptsA_on HC5.out.1 (below1 w5 (.cells #[.int .i64 x, .int .i64 y] 27))) 0
            rw [List.drop_zero, Nat.zero_mul] at hpc
            have HPC := Lib.hid hpc
            have HCAP := Lib.hid hc1
            have HM1 := Lib.hid hM1
            clear hpc hc1 hM1
            go_wp2_with (at_builtin; refine wpList_append_grows _ rfl _ _ 23 rfl 27 i0 (.agg #[.int .i64 0, .int .i64 0]) 2 16 Try.underlying23 hi0 hz0 hz1 hz2 rfl (by decide) (some ⟨g5, 0, none⟩) M'.length cap (flat M') rfl (fun h => by cases h) (flat_len M') (fun b hb => by cases hb; exact HPC.out) ⟨w5.heap.size, 0, none⟩ 1 1 [.int .i64 x, .int .i64 y] rfl rfl ?d1 ?d2 ?d3 ?d4 ?d5 ?_)
            case d1 => exact World.news_of_block (cs := #[.int .i64 x, .int .i64 y]) (t := 27) (fr := (0, 0)) (heap_alloc_new w5 _)
            case d2 => simp [Value.oneCell']
            case d3 => have := HCAP.out; have := HM1.out; omega
            case d4 => unfold maxLen; omega
            case d5 => omega
            intro v6 w6 own6 hgrow
            obtain ⟨g6, cp6, rfl⟩ := own_pos own6 (by omega)
            have R : Hid (w6.ownsRow w.heap.size 27 2 (.slice (some ⟨g6, 0, none⟩) (M' ++ [(x, y)]).length cp6) (M' ++ [(x, y)]).length (flat (M' ++ [(x, y)])) ∧ Below w.heap.size w w6) :=
              ⟨by rw [flat_append, HNN.out]; exact own_base own6 (by first | omega | (rw [size_alloc]; omega)), (HB5.out.alloc hs5 _).grown hgrow (by simp; omega) (fun k e => by cases e)⟩
            clear own6 hgrow d1 d2 m5
            go_wp2_with fail
            first
              | exact ⟨⟨k + 1, g6, cp6, M' ++ [(x, y)], by omega, by go_num, by rw [HNN.out], HEX, Chn.of (by rw [HNN.out]; omega) R.out.1, R.out.2, fun _ => R.out.1⟩, by simp [intOf]; omega⟩
              | (go_roundw
                 case rel => exact ⟨k + 1, g6, cp6, M' ++ [(x, y)], by omega, by go_num, by rw [HNN.out], HEX, Chn.of (by rw [HNN.out]; omega) R.out.1, R.out.2, fun _ => R.out.1⟩
                 case measure => simp [intOf]; omega)
          · go_wp2_with (at_builtin; refine wpList_append_lies _ rfl _ _ 23 rfl w.heap.size 27 i0 (.agg #[.int .i64 0, .int .i64 0]) 2 16 Try.underlying23 hi0 hz0 hz1 hz2 rfl (by decide) _ _ _ rfl (own5.alloc _) ⟨w5.heap.size, 0, none⟩ 1 1 [.int .i64 x, .int .i64 y] rfl rfl ?d1 ?d2 (by omega) ?d3 ?d4 ?d5 (w5.heap.size + 1) (by simp) ?_)
            case d1 => exact World.news_of_block (cs := #[.int .i64 x, .int .i64 y]) (t := 27) (fr := (0, 0)) (heap_alloc_new w5 _)
            case d2 => simp [Value.oneCell']
            case d3 => unfold maxLen; omega
            case d4 => omega
            case d5 => simp; omega
            intro g6 cp6 w6 own6 hgrow _ _
            have hrw := fun k hk => (own5.lt k hk).1
            have R : Hid (w6.ownsRow w.heap.size 27 2 (.slice (some ⟨g6, 0, none⟩) (M' ++ [(x, y)]).length cp6) (M' ++ [(x, y)]).length (flat (M' ++ [(x, y)])) ∧ Below w.heap.size w w6) :=
              ⟨by rw [flat_append, HNN.out]; exact own6, (HB5.out.alloc hs5 _).grown hgrow (by simp; omega) hrw⟩
            clear own5 own6 hgrow d1 d2 m5
            go_wp2_with fail
            first
              | exact ⟨⟨k + 1, g6, cp6, M' ++ [(x, y)], by omega, by go_num, by rw [HNN.out], HEX, Chn.of (by rw [HNN.out]; omega) R.out.1, R.out.2, fun _ => R.out.1⟩, by simp [intOf]; omega⟩
              | (go_roundw
                 case rel => exact ⟨k + 1, g6, cp6, M' ++ [(x, y)], by omega, by go_num, by rw [HNN.out], HEX, Chn.of (by rw [HNN.out]; omega) R.out.1, R.out.2, fun _ => R.out.1⟩
                 case measure => simp [intOf]; omega)
    · have hkn : k = n1 := by omega
      have HQ : Hid (M = chL P) := by
        show _ = _
        rw [HM.out, List.take_of_length_le (by have := HN1.out; omega)]
      have HO := Lib.hid (HE.out hkn)
      clear HM HE HCH hkn
      go_wp2_with fail
      go_ret
      rw [HU.out]
      exact ⟨_, rfl, by rw [← HQ.out]; exact HO.out, hb⟩
end Go.Proofs.Ytplccidmedkfaaa
