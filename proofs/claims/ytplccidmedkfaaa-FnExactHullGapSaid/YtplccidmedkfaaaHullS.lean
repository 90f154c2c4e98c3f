/-
  Walks for l04Hull and HullOf of the model.
-/
import Derived.Test.YtplccidmedkfaaaSortS
namespace Go.Proofs.Ytplccidmedkfaaa
open Go.RowKit

theorem sort_ok {P : List P2} (hok : allOk P = true) : allOk (sortD P) = true := by
  simp only [allOk, List.all_eq_true] at *
  intro x hx
  exact hok x (((sortD_spec _ P rfl).2 x).1 hx)
theorem rev_ok {P : List P2} (hok : allOk P = true) : allOk P.reverse = true := by
  simp only [allOk, List.all_eq_true] at *
  intro x hx
  exact hok x (List.mem_reverse.1 hx)
set_option maxRecDepth 100000 in
set_option maxHeartbeats 8000000 in
theorem hullL_any (A : Option Addr) (c : Nat) (P : List P2) (w : World) (hA : PtsA w A P) (h2 : P.length ≤ 100) (hok : allOk P = true) :
    Calls Try.prog 69 #[.slice A P.length c] w (Lists w (hullM P)) := by
  obtain ⟨i0, hi0, hz0, hz1, hz2⟩ := info_parts infoPt
  have HS : Hid (Calls Try.prog 97 #[.slice A P.length c] w fun e w' => ∃ v, e = .returned v ∧ w'.ownsRow w.heap.size 27 2 v (sortD P).length (flat (sortD P)) ∧ Below w.heap.size w w') := sortS_any A c P w hA (by omega)
  have hDl := sortD_len _ P rfl
  have hDok := sort_ok hok
  cases hd : decide ((sortD P).length < 3)
  case true =>
    have HU : Hid (Lists w (hullM P) = fun e w' => ∃ v, e = .returned v ∧ w'.ownsRow w.heap.size 27 2 v 0 [] ∧ Below w.heap.size w w') := by
      show _ = _
      unfold hullM; rw [hd]; rfl
    have hlt := of_decide_eq_true hd
    obtain ⟨D, hD⟩ : ∃ D, D = sortD P := ⟨_, rfl⟩
    rw [← hD] at HS hlt
    clear hA hok hD hd hDok hDl
    have f1 : (D.length : Int) < 3 := by omega
    go_enter Try.func69, Try.ntmps69
    go_wp2_with fail
    refine HS.out.mono ?_
    rintro e w1 ⟨v, rfl, own, hb1⟩
    obtain ⟨_, A1, c1, rfl, _⟩ := own_pts own
    clear own
    go_wp2_with fail
    go_ret
    rw [HU.out]
    exact ⟨_, rfl, World.ownsRow_nil _ _ _ _, hb1⟩
  case false =>
    have hge : 3 ≤ (sortD P).length := by have := of_decide_eq_false hd; omega
    have HU : Hid (Lists w (hullM P) = fun e w' => ∃ v, e = .returned v ∧ w'.ownsRow w.heap.size 27 2 v (hullS (sortD P)).length (flat (hullS (sortD P))) ∧ Below w.heap.size w w') := by
      show _ = _
      unfold hullM; rw [hd]; rfl
    obtain ⟨D, hD⟩ : ∃ D, D = sortD P := ⟨_, rfl⟩
    rw [← hD] at HS HU hge hDl hDok
    have HC : Hid (∀ A c (Q : List P2) w, PtsA w A Q → Q.length ≤ 1000 → allOk Q = true → Calls Try.prog 98 #[.slice A Q.length c] w fun e w' => ∃ v, e = .returned v ∧ w'.ownsRow w.heap.size 27 2 v (chL Q).length (flat (chL Q)) ∧ Below w.heap.size w w') := fun A c Q w hA h2 hok => chainS_any A c Q w hA h2 hok
    have HDOK := Lib.hid hDok
    have hD100 : D.length ≤ 100 := by omega
    clear hA hok hD hd hDok hDl
    have f1 : ¬ (D.length : Int) < 3 := by omega
    have f2 : wrap64 ((D.length : Int) - 1) = (D.length : Int) - 1 := IntWalk.wrap64_in _ (by omega)
    go_enter Try.func69, Try.ntmps69
    go_wp2_with fail
    refine HS.out.mono ?_
    rintro e w1 ⟨v, rfl, own, hb1⟩
    obtain ⟨gd, cd, rfl⟩ := own_pos own (by omega)
    have p1 := Lib.hid (ptsA_of own)
    clear own
    go_wp2_with fail
    refine (HC.out _ _ D w1 p1.out (by omega) HDOK.out).mono ?_
    rintro e w2 ⟨v2, rfl, own2, hb2⟩
    have hR2 := chL_two (P := D) (by omega)
    have hRl := chL_len _ D rfl
    obtain ⟨gr, cr, rfl⟩ := own_pos own2 (by omega)
    have hcr := own_cap own2
    have q2 := Lib.hid (ptsA_of own2)
    have p2 := Lib.hid (ptsA_on p1.out hb2)
    have b2 := below_on hb1 hb2
    clear own2 hb2 hb1 p1
    have own3 := World.ownsRow_lit (base := w2.heap.size) (e := 27) (size := 2) w2 #[] 0 (Nat.le_refl _) (by decide) rfl
    have b3 := below1 w2 (.cells #[] 27)
    go_wp2_with fail
    go_loopw [5, 6] (fun s i wr => ∃ (m : Nat) (M : List P2) (g5 cap : Nat), m ≤ D.length ∧ i = .int .i64 ((m : Int) - 1) ∧ s = .slice (some ⟨g5, 0, none⟩) M.length cap ∧ Hid (M = (D.drop m).reverse) ∧ wr.ownsRow w2.heap.size 27 2 (.slice (some ⟨g5, 0, none⟩) M.length cap) M.length (flat M) ∧ Below w2.heap.size w2 wr) (fun _ i _ => (intOf i + 1).toNat)
    case atStart => exact ⟨D.length, [], _, _, Nat.le_refl _, rfl, rfl, by show _ = _; simp, own3, b3⟩
    case round =>
      obtain ⟨wo, rfl⟩ : ∃ wo : World, wo = wr := ⟨_, rfl⟩
      clear own3 b3
      obtain ⟨m, M, g5, cap, hm, rfl, rfl, HM, own, hb⟩ := hrel
      by_cases hm0 : 0 < m
      · obtain ⟨c1, c2⟩ := gt_cells (ptsA_on p2.out hb) (i := m - 1) (by omega)
        have HST : Hid (M ++ [((gt D (m - 1)).1, (gt D (m - 1)).2)] = (D.drop (m - 1)).reverse) := by
          show _ = _
          rw [List.drop_eq_getElem_cons (show m - 1 < D.length by omega), List.reverse_cons, show m - 1 + 1 = m by omega, ← HM.out, gt_at (by omega)]
        have hMl : M.length ≤ 100 := by rw [HM.out]; simp; omega
        obtain ⟨r, hr⟩ : ∃ r, r = m - 1 := ⟨_, rfl⟩
        rw [← hr] at c1 c2 HST
        have e1 : (m : Int) - 1 = (r : Int) := by omega
        rw [e1]
        have f3 : (0 : Int) ≤ (r : Int) := by omega
        have f4 : (r : Int) < (D.length : Int) := by omega
        have f5 : wrap64 ((r : Int) - 1) = (r : Int) - 1 := IntWalk.wrap64_in _ (by omega)
        have f6 : IntKind.i64.wrap ((r : Int) - 1) = (r : Int) - 1 := IntWalk.i64_in _ (by omega)
        have hsz := hb.size
        have hrD : r ≤ D.length := by omega
        clear HM e1 hr hm hm0
        generalize (gt D r).1 = x at *
        generalize (gt D r).2 = y at *
        go_wp2_with (at_builtin; refine wpList_append_lies _ rfl _ _ 23 rfl w2.heap.size 27 i0 (.agg #[.int .i64 0, .int .i64 0]) 2 16 Try.underlying23 hi0 hz0 hz1 hz2 rfl (by decide) _ _ _ rfl (own.alloc _) ⟨wo.heap.size, 0, none⟩ 1 1 [.int .i64 x, .int .i64 y] rfl rfl ?d1 ?d2 (by omega) ?d3 ?d4 ?d5 (wo.heap.size + 1) (by simp) ?_)
        case d1 => exact World.news_of_block (cs := #[.int .i64 x, .int .i64 y]) (t := 27) (fr := (0, 0)) (heap_alloc_new wo _)
        case d2 => simp [Value.oneCell']
        case d3 => unfold maxLen; omega
        case d4 => omega
        case d5 => simp; omega
        intro g6 cp6 w6 own6 hgrow _ _
        have hrw := fun k hk => (own.lt k hk).1
        have HN : Hid ((M ++ [(x, y)]).length = M.length + 1) := by simp [Hid]
        have R : Hid (w6.ownsRow w2.heap.size 27 2 (.slice (some ⟨g6, 0, none⟩) (M ++ [(x, y)]).length cp6) (M ++ [(x, y)]).length (flat (M ++ [(x, y)])) ∧ Below w2.heap.size w2 w6) :=
          ⟨by rw [flat_append, HN.out]; exact own6, (hb.alloc hsz _).grown hgrow (by simp; omega) hrw⟩
        clear own own6 hgrow hb c1 c2
        go_wp2_with fail
        first
          | exact ⟨⟨r, M ++ [(x, y)], g6, cp6, hrD, by first | rfl | go_num, by rw [HN.out], HST, R.out.1, R.out.2⟩, by first | (simp [intOf]; done) | (simp [intOf]; omega)⟩
          | (go_roundw
             case rel => exact ⟨r, M ++ [(x, y)], g6, cp6, hrD, by first | rfl | go_num, by rw [HN.out], HST, R.out.1, R.out.2⟩
             case measure => simp [intOf]; omega)
      · have hMr : M = D.reverse := by rw [HM.out, show m = 0 by omega]; simp
        have f3 : ¬ (0 : Int) ≤ (m : Int) - 1 := by omega
        have HMR := Lib.hid hMr
        have hMl : M.length ≤ 100 := by rw [hMr, List.length_reverse]; exact hD100
        have hM3 : 3 ≤ M.length := by rw [hMr, List.length_reverse]; exact hge
        have pm := ptsA_of own
        have b4 := below_on b2 hb
        have q4 := Lib.hid (ptsA_on q2.out hb)
        have HCM := Lib.hid (HC.out _ cap M wo pm (by omega) (by rw [hMr]; exact rev_ok HDOK.out))
        clear hMr own hb pm b2 HM
        go_wp2_with fail
        refine HCM.out.mono ?_
        rintro e w5 ⟨v5, rfl, own5, hb5⟩
        have hL2 := chL_two (P := M) (by omega)
        have hLl := chL_len _ M rfl
        obtain ⟨gl, cl, rfl⟩ := own_pos own5 (by omega)
        have hcl := own_cap own5
        have HGL := Lib.hid (own5.lt gl rfl).2
        have b5 := below_on b4 hb5
        have q5 := Lib.hid (ptsA_on q4.out hb5)
        have r5 := Lib.hid (ptsA_of own5)
        have HHS : Hid (hullS D = (chL D).dropLast ++ (chL M).dropLast) := by
          show _ = _
          unfold hullS; rw [← HMR.out]
        obtain ⟨R, hR⟩ : ∃ R, R = chL D := ⟨_, rfl⟩
        obtain ⟨T, hT⟩ : ∃ T, T = chL M := ⟨_, rfl⟩
        rw [← hR] at HHS hR2 hRl hcr q5 ⊢
        rw [← hT] at HHS hL2 hLl hcl r5 ⊢
        obtain ⟨r1, hr1⟩ : ∃ r1, r1 = R.length - 1 := ⟨_, rfl⟩
        obtain ⟨t1, ht1⟩ : ∃ t1, t1 = T.length - 1 := ⟨_, rfl⟩
        have HU2 : Hid (Lists w (hullM P) = fun e w' => ∃ v, e = .returned v ∧ w'.ownsRow w.heap.size 27 2 v (r1 + t1) (flat R.dropLast ++ flat T.dropLast) ∧ Below w.heap.size w w') := by
          show _ = _
          rw [HU.out, HHS.out, List.length_append, List.length_dropLast, List.length_dropLast, flat_append, ← hr1, ← ht1]
        have fr : wrap64 ((R.length : Int) - 1) = (r1 : Int) := by rw [IntWalk.wrap64_in _ (by omega)]; omega
        have ft : wrap64 ((T.length : Int) - 1) = (t1 : Int) := by rw [IntWalk.wrap64_in _ (by omega)]; omega
        have fr2 : IntKind.i64.wrap ((R.length : Int) - 1) = (r1 : Int) := by rw [IntWalk.i64_in _ (by omega)]; omega
        have ft2 : IntKind.i64.wrap ((T.length : Int) - 1) = (t1 : Int) := by rw [IntWalk.i64_in _ (by omega)]; omega
        have fr3 : (R.length : Int) - 1 = (r1 : Int) := by omega
        have ft3 : (T.length : Int) - 1 = (t1 : Int) := by omega
        have fr4 : IntKind.i64.wrap (r1 : Int) = (r1 : Int) := IntWalk.i64_in _ (by omega)
        have ft4 : IntKind.i64.wrap (t1 : Int) = (t1 : Int) := IntWalk.i64_in _ (by omega)
        have gr1 : r1 ≤ cr := by omega
        have gt1 : t1 ≤ cl := by omega
        have gr2 : (r1 : Int) ≤ (cr : Int) := by omega
        have gt2 : (t1 : Int) ≤ (cl : Int) := by omega
        have hr100 : r1 ≤ 100 := by omega
        have ht100 : t1 ≤ 100 := by omega
        have own6 := (World.ownsRow_lit (base := w.heap.size) (e := 27) (size := 2) w5 #[] 0 b5.size (by decide) rfl).drew
        have b6 := (b5.alloc b5.size (.cells #[] 27)).drew
        have b56 : Below w5.heap.size w5 (w5.alloc (.cells #[] 27)).drew := (below1 w5 (.cells #[] 27)).drew
        have q6 := Lib.hid (ptsA_on q5.out b56)
        have r6 := Lib.hid (ptsA_on r5.out b56)
        have hgl5 : gl < w5.heap.size := HGL.out
        have LR : Hid ((flat R.dropLast).length = r1 * 2 ∧ R.dropLast = R.take r1) := ⟨by rw [flat_len, List.length_dropLast, ← hr1], by rw [List.dropLast_eq_take, ← hr1]⟩
        have LT : Hid ((flat T.dropLast).length = t1 * 2 ∧ T.dropLast = T.take t1) := ⟨by rw [flat_len, List.length_dropLast, ← ht1], by rw [List.dropLast_eq_take, ← ht1]⟩
        clear own5 hb5 b4 hR hT b5 b56 q5 r5 HHS HU hr1 ht1 hR2 hL2 hRl hLl
        go_wp2_with fail
        go_region_law (first
          | (refine step_append_any (by rfl) (.tmp 32) (.tmp 37) 23 (by rfl) w.heap.size 27 i0 _ 2 16 Try.underlying23 hi0 hz0 hz1 hz2 rfl (by omega) (.slice (some ⟨w5.heap.size, 0, none⟩) 0 0) 0 _ (by rfl) own6 ⟨gr, 0, none⟩ r1 cr (flat R.dropLast) (by rfl) LR.out.1 (by rw [LR.out.2]; exact ptsA_take q6.out _) (flat_one _) (by unfold maxLen; omega) (by omega) b6.size ?_; intro v7 w7 own7 hg7; simp only [Nat.zero_add, List.nil_append] at own7; have b7 := b6.grown hg7 b6.size (fun q hq => (own6.lt q hq).1))
          | (refine step_append_any (by rfl) (.tmp 38) (.tmp 43) 23 (by rfl) w.heap.size 27 i0 _ 2 16 Try.underlying23 hi0 hz0 hz1 hz2 rfl (by omega) v7 r1 _ (by rfl) own7 ⟨gl, 0, none⟩ t1 cl (flat T.dropLast) (by rfl) LT.out.1 (by rw [LT.out.2]; exact ptsA_take (ptsA_grown r6.out hg7 (by simp [Value.ownBlock]; omega)) _) (flat_one _) (by unfold maxLen; omega) (by omega) b7.size ?_; intro v8 w8 own8 hg8))
        all_goals
          have b8 := b7.grown hg8 b7.size (fun q hq => (own7.lt q hq).1)
          have RR := Lib.hid (And.intro own8 b8)
          clear own6 own7 own8 b6 b7 b8 hg7 hg8
          go_wp2_with fail
          go_ret
          rw [HU2.out]
          exact ⟨_, rfl, RR.out.1, RR.out.2⟩
end Go.Proofs.Ytplccidmedkfaaa
