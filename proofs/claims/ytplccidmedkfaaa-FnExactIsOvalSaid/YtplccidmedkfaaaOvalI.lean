/-
  A walk for IsOval of the program.
-/
import Derived.Test.YtplccidmedkfaaaOvalS
import Derived.Test.YtplccidmedkfaaaConvFn
import Derived.Test.YtplccidmedkfaaaSides2
namespace Go.Proofs.Ytplccidmedkfaaa
open Go.RowKit Go.Shelf Go.Sort
attribute [local go_sem] Oper.semAt_some

theorem has_back (D : List (Int × Int)) (p : Int × Int) : hasP D (-p.1) (-p.2) = (List.range D.length).any (fun j => backB (gt D j) p) := by
  rw [Bool.eq_iff_iff]
  simp only [hasP, List.any_eq_true, List.mem_range, backB, Bool.and_eq_true, beq_iff_eq]
  constructor
  · rintro ⟨q, hq, e1, e2⟩
    obtain ⟨j, hj, e⟩ := List.getElem_of_mem hq
    exact ⟨j, hj, by rw [gt_at hj, e]; exact ⟨e1, e2⟩⟩
  · rintro ⟨j, hj, e1, e2⟩
    rw [gt_at hj] at e1 e2
    exact ⟨D[j], List.getElem_mem hj, e1, e2⟩
theorem minus_vec {S : List (Int × Int)} (hok : allOk S = true) (i : Nat) (w : World) :
    Calls Try.prog 62 #[(.agg #[.int .i64 (gt S (nx S i)).1, .int .i64 (gt S (nx S i)).2]), (.agg #[.int .i64 (gt S i).1, .int .i64 (gt S i).2])] w fun e w' => e = .returned (.agg #[.int .i64 (dvec S i).1, .int .i64 (dvec S i).2]) ∧ Below w.heap.size w w' := by
  have q1 := okP_bounds (gt_ok hok i)
  have q2 := okP_bounds (gt_ok hok (nx S i))
  have h := minus_any (gt S (nx S i)).1 (gt S (nx S i)).2 (gt S i).1 (gt S i).2 w
  rw [IntWalk.wrap64_in _ (by omega), IntWalk.wrap64_in _ (by omega)] at h
  exact h
theorem minus_zero {x y : Int} (h : x.natAbs ≤ 40 ∧ y.natAbs ≤ 40) (w : World) :
    Calls Try.prog 62 #[(.agg #[.int .i64 0, .int .i64 0]), (.agg #[.int .i64 x, .int .i64 y])] w fun e w' => e = .returned (.agg #[.int .i64 (-x), .int .i64 (-y)]) ∧ Below w.heap.size w w' := by
  have h1 := minus_any 0 0 x y w
  rw [IntWalk.wrap64_in _ (by omega), IntWalk.wrap64_in _ (by omega), show (0 : Int) - x = -x by omega, show (0 : Int) - y = -y by omega] at h1
  exact h1

set_option maxRecDepth 100000 in
set_option maxHeartbeats 8000000 in
theorem impl_oval_yes (A : Option Addr) (c : Nat) (L : List (Int × Int)) (w : World) (hA : PtsA w A L) (hcv : convV L = true) :
    Calls Try.prog 44 #[.slice A L.length c] w fun e w' => e = .returned (.bool (ovalB (dvs (straightL L)))) ∧ Below w.heap.size w w' := by
  obtain ⟨i0, hi0, hz0, hz1, hz2⟩ := info_parts infoPt
  have hpo : polyB L = true := by
    have h := hcv
    simp only [convV, Bool.and_eq_true] at h
    exact h.1
  obtain ⟨h3, h10, hok⟩ := polyB_all hpo
  obtain ⟨s3, s10, sok⟩ := polyB_all (poly_straight hpo)
  refine (callsIn_wide (n := 6)).1 ?_
  refine callsIn_of_wp_marks Try.func44 rfl trivial ?_ rfl
  simp only [Try.ntmps44, List.size_toArray, List.length_cons, List.length_nil, Nat.reduceAdd, Nat.reduceSub, Array.replicate_succ, Array.replicate_zero, List.push_toArray, List.append_toArray, List.nil_append, List.cons_append]
  have PC := Lib.hid (impl_conv A c L w hA (by omega))
  rw [hcv] at PC
  have hv : straightV L = straightL L := by unfold straightV; rw [hpo]; rfl
  have HST : Hid (∀ W, Below w.heap.size w W → Calls Try.prog 13 #[.slice A L.length c] W fun e w' => ∃ v, e = .returned v ∧ w'.ownsRow W.heap.size 27 2 v (straightL L).length (flat (straightL L)) ∧ Below W.heap.size W w') := fun W hb => by
    have := impl_straight A c L W (ptsA_on hA hb) (by omega)
    rw [hv] at this
    exact this
  obtain ⟨S, hS⟩ : ∃ S, S = straightL L := ⟨_, rfl⟩
  rw [← hS] at s3 s10 sok HST ⊢
  have HSN : Hid (∀ l : List Nat, (l.map (dvec S)).length = l.length) := fun l => by simp
  clear hv hA hS hok hpo hcv
  gi_wp2
  refine ⟨trivial, (wide0.calls PC.out).mono ?_⟩
  rintro e w1 ⟨rfl, hb1⟩
  have hB1 := hb1.alloc hb1.size (.cells #[.slice none 0 0] 23)
  gi_wp2
  refine ⟨trivial, (wide0.calls (HST.out _ hB1)).mono ?_⟩
  rintro e w2 ⟨v2, rfl, ownS, hb2⟩
  have bV := boxed_on (Boxed.new w1 23 (.slice none 0 0)) hb2
  have hB2 := hB1.trans (hb2.mono hB1.size)
  have hs12 : w1.heap.size + 1 ≤ w2.heap.size := by have := hb2.size; simpa using this
  obtain ⟨_, A2, c2, rfl, p2⟩ := own_pts ownS
  obtain ⟨gS, rfl, -⟩ := p2 0 (by omega)
  have hgS := ownS.lt gS rfl
  simp only [World.size_alloc] at hgS
  have hs1 := hb1.size
  have P2 := Lib.hid p2
  clear ownS hb2 hB1 p2
  gi_wp2
  refine ⟨trivial, (wide0.calls (sides_any _ S.length c2 _)).mono ?_⟩
  rintro e w3 ⟨rfl, rfl⟩
  gi_wp2
  have hb23 := below1 w2 (.cells #[.slice (some ⟨gS, 0, none⟩) S.length c2] 23)
  have bB := boxed_on bV hb23
  have bN := Boxed.new w2 23 (.slice (some ⟨gS, 0, none⟩) S.length c2)
  have hB0 := below_on hB2 hb23
  have P3 := ptsA_on P2.out hb23
  have hsz : (w2.alloc (.cells #[.slice (some ⟨gS, 0, none⟩) S.length c2] 23)).heap.size = w2.heap.size + 1 := by simp
  obtain ⟨W0, hW0⟩ : ∃ W0, w2.alloc (.cells #[.slice (some ⟨gS, 0, none⟩) S.length c2] 23) = W0 := ⟨_, rfl⟩
  rw [hW0] at bB bN hB0 hsz P3 ⊢
  clear hW0 hb23 bV
  refine wpIn_rangeFunc_ownH rfl (by decide) (gf := 88) (lb := #[.pointer (some ⟨w2.heap.size, 0, none⟩)]) rfl trivial (enters_of Try.func88 (by kernel_rfl) rfl)
    (sidesQ_stops 5 w2.heap.size gS w.heap.size c2 S W0 (by omega) (by omega) P3 (by omega) (by omega) (by omega) bN.cell) keepQ_t (keepQ_b (by omega) (by omega) (by omega)) (Below.refl _ _) (fun _ => rfl)
    (fun pre W => ((∃ v, Boxed W w1.heap.size 23 v ∧ W.ownsRow (w2.heap.size + 1) 27 2 v (pre.map (dvec S)).length (flat (pre.map (dvec S))) ∧ True) ∧ Boxed W w2.heap.size 23 (.slice (some ⟨gS, 0, none⟩) S.length c2)) ∧ Below w.heap.size w W)
    (fun _ _ _ => False)
    (OwnFrom.and (OwnFrom.and (Own.from (holdsRow_own (w2.heap.size + 1) w1.heap.size 23 27 2 (fun (pre : List Nat) => (pre.map (dvec S)).length) (fun pre => flat (pre.map (dvec S))) (fun _ _ => True)) _) (Own.from (boxed_own _ _ _) _)) (ownFrom_below (Nat.le_refl _) (by omega)))
    (fun _ => ownFrom_pure _ (fun _ => False))
    ⟨⟨⟨_, bB, World.ownsRow_nil _ _ _ _, trivial⟩, bN⟩, hB0⟩
    (fun x a' W => ∃ Bx, w2.heap.size < Bx ∧ SideAt W Bx S x ∧ a' = { tmps := #[.slice A L.length c, undef, .bool false, .pointer (some ⟨w1.heap.size, 0, none⟩), undef, .pointer (some ⟨Bx, 0, none⟩), undef, undef, .slice A L.length c, .bool true, .bool false, .slice A L.length c, .slice (some ⟨gS, 0, none⟩) S.length c2, .func (.func 88) #[] #[.pointer (some ⟨w2.heap.size, 0, none⟩)], .int .i64 (x : Int), .agg #[.int .i64 (gt S x).1, .int .i64 (gt S x).2, .int .i64 (gt S (nx S x)).1, .int .i64 (gt S (nx S x)).2], undef, undef, undef, undef, undef, undef, undef, undef, undef, undef, undef, undef, undef, undef, undef, undef, undef, undef, undef, undef, undef], defers := [] })
    (fun x a' _ X Y row hs hg hr => by obtain ⟨Bx, e1, e2, e3⟩ := hs; exact ⟨Bx, e1, sideAt_own Bx S x _ () X Y row e2 hg hr, e3⟩)
    ?assign ?body ?done ?stop
  case assign =>
    rintro l pre x W K ⟨⟨⟨v, bB4, own4, -⟩, bN4⟩, hB4⟩ hK
    simp only [sideV]
    gi_wp2
    have hs4 := hB4.size
    have hb := below1 W (.cells #[.int .i64 (gt S x).1, .int .i64 (gt S x).2, .int .i64 (gt S (nx S x)).1, .int .i64 (gt S (nx S x)).2] 59)
    have hlN := bN4.lt
    exact hK _ _ (keepsFrom_below hb) (KeepQ.of_below hb hs4 hlN (by omega)) ⟨⟨⟨v, boxed_on bB4 hb, own_below own4 hb, trivial⟩, boxed_on bN4 hb⟩, hB4.trans (hb.mono hs4)⟩ ⟨W.heap.size, hlN, sideAt_new W S x, rfl⟩
  case body =>
    rintro l pre x a' W hl - ⟨⟨⟨v, bB4, own4, -⟩, bN4⟩, hB4⟩ ⟨Bx, hBx, sX, rfl⟩ hlt
    have hs4 := hB4.size
    have hlN := bN4.lt
    have HO := Lib.hid (fun W => minus_vec sok x W)
    have hlen := HSN.out pre
    obtain ⟨M, hM⟩ : ∃ M, M = pre.map (dvec S) := ⟨_, rfl⟩
    obtain ⟨px, hpx⟩ : ∃ px, px = (dvec S x).1 := ⟨_, rfl⟩
    obtain ⟨py, hpy⟩ : ∃ py, py = (dvec S x).2 := ⟨_, rfl⟩
    have HSS : Hid ((pre ++ [x]).map (dvec S) = M ++ [(px, py)]) := by
      show _ = _
      rw [hM, hpx, hpy]; simp
    rw [← hpx, ← hpy] at HO
    rw [← hM] at own4 hlen
    have hl10 : M.length ≤ 9 := by omega
    clear hM hpx hpy hlen
    obtain ⟨x0, x1, x2, x3⟩ := sX.cells
    have cB := bB4.cell
    have k0 := cell_regrown x0; have k1 := cell_regrown x1; have k2 := cell_regrown x2; have k3 := cell_regrown x3; have k6 := cell_regrown cB
    gi_wp2
    refine region_make_in 5 (wideR l) (by kernel_rfl) (by kernel_rfl) (by kernel_rfl) ?_
    simp only [List.take_succ_cons, List.take_zero, List.drop_succ_cons, List.drop_zero]
    repeat (first
      | go_big_quiet_step (fail)
      | quiet_step (fail))
    refine wpQuiet_nil ?_
    rintro _ ⟨⟨dq, osq⟩, rfl⟩
    have hb4 := below_regrown W dq osq
    clear k0 k1 k2 k3 k6 x0 x1 x2 x3 cB
    generalize grow (redrawn W dq) osq = W4 at *
    gi_wp2
    refine ⟨trivial, ((wideR l).calls (HO.out _)).mono ?_⟩
    rintro e W5 ⟨rfl, hb5'⟩
    have hb5 := hb4.trans (hb5'.mono hb4.size)
    clear hb5' hb4
    have hB5 := hB4.trans (hb5.mono hs4)
    have bB5 := boxed_on bB4 hb5
    have bN5 := boxed_on bN4 hb5
    have own5 := own_below own4 hb5
    have hK5 := KeepQ.of_below (g := gS) hb5 hs4 hlN (by omega)
    have hF5 := keepsFrom_below (B := W0.heap.size) hb5
    have hs5 := hb5.size
    gi_wp2
    refine ⟨hb5, ?_⟩
    gi_wp2
    refine ⟨hb5.alloc hb5.size _, ?_⟩
    clear hb5 hB4 bB4 bN4 sX HO own4 hs4
    have cB := bB5.cell
    have fB := bB5.frozen
    have hrw := fun k hk => (own5.lt k hk).1
    have hs6 := hB5.size
    gi_wp2_with (gi_at_builtin; refine wpListIn_append_own _ rfl _ _ 23 rfl (w2.heap.size + 1) 27 i0 (.agg #[.int .i64 0, .int .i64 0]) 2 16 Try.underlying23 hi0 hz0 hz1 hz2 rfl (by decide) _ _ _ rfl (own5.alloc _) ⟨W5.heap.size, 0, none⟩ 1 1 [.int .i64 px, .int .i64 py] rfl rfl ?d1 ?d2 ?d3 ?d4 ?d5 ?_)
    case d1 => exact World.news_of_block (cs := #[.int .i64 px, .int .i64 py]) (t := 27) (fr := (0, 0)) (heap_alloc_new W5 _)
    case d2 => simp [Value.oneCell']
    case d3 => unfold maxLen; omega
    case d4 => omega
    case d5 => simp; omega
    intro v' w6 own6 hgrow _
    obtain ⟨g6, cp6, rfl⟩ := ownsRow_succ own6
    obtain ⟨hv1, hv2, hr2, hk2, hb2⟩ := bB5.appended (by decide) (own_base own5 (show w.heap.size ≤ w2.heap.size + 1 by omega)) hs6 hs1 (own_base own6 (show w.heap.size ≤ w2.heap.size + 1 by omega)) hgrow
    have hc6 := hv1.cell
    have hf6 := hv1.frozen
    have bN6 := (bN5.alloc (.cells #[.int .i64 px, .int .i64 py] 27)).kept hgrow (fun e => by have := hrw _ e.symm; omega)
    have hv3 := hrow_other own6 0 (show w1.heap.size < w2.heap.size + 1 by omega) (.slice (some ⟨g6, 0, none⟩) (M.length + 1) cp6)
    have bN7 := bN6.other (B' := w1.heap.size) (by omega) (.slice (some ⟨g6, 0, none⟩) (M.length + 1) cp6)
    have hB7 := hB5.trans hb2
    have hlN5 : w2.heap.size < W5.heap.size := by omega
    have hKB : ∀ q, q ≠ w1.heap.size → q ≤ w2.heap.size → (w6.setCell ⟨w1.heap.size, 0, none⟩ (.slice (some ⟨g6, 0, none⟩) (M.length + 1) cp6)).heap[q]? = W5.heap[q]? := fun q hq1 hq2 =>
      (Below.heap_setCell w6 ⟨w1.heap.size, 0, none⟩ _ q hq1).trans ((hgrow.block _ (by simp; omega) (fun e => by have := hrw _ e.symm; omega)).trans (Below.heap_alloc _ _ _ (by omega)))
    have hK7 : KeepQ w.heap.size w2.heap.size gS W (w6.setCell ⟨w1.heap.size, 0, none⟩ (.slice (some ⟨g6, 0, none⟩) (M.length + 1) cp6)) := keepQ_t hK5 ⟨⟨hb2, hKB w2.heap.size (by omega) (Nat.le_refl _)⟩, hKB gS (by omega) (by omega)⟩
    have hF7 := hF5.trans (hk2.from W0.heap.size)
    have R := Lib.hid (And.intro hv2 (And.intro hv3 (And.intro bN7 (And.intro hB7 (And.intro hK7 hF7)))))
    clear hv2 hr2 hk2 hb2 hv3 bN7 hB7 hK7 hF7 hKB hgrow own6 own5 bN6 bN5 bB5 cB fB hK5 hF5 hB5 hv1
    gi_wp2
    obtain ⟨r1, r2, r3, r4, r5, r6⟩ := R.out
    refine ⟨r6, r5, ?_⟩
    simp only [HSS.out, List.length_append, List.length_cons, List.length_nil, flat_append]
    exact ⟨⟨⟨_, r1, r2, trivial⟩, r3⟩, r4⟩
  case done =>
    rintro D zs W hD rfl ⟨⟨⟨v, bB4, own4, -⟩, bN4⟩, hB4⟩ hK
    have hs9 := hB0.size
    have hd3 : 3 ≤ (dvs S).length := by rw [dvs_len]; exact s3
    have hd10 : (dvs S).length ≤ 10 := by rw [dvs_len]; exact s10
    have HBD := Lib.hid (fun i => dvs_bd sok i)
    change W.ownsRow _ _ _ _ (dvs S).length (flat (dvs S)) at own4
    obtain ⟨DV, hDV⟩ : ∃ DV, DV = dvs S := ⟨_, rfl⟩
    have HU : Hid (ovalB (dvs S) = ovalB DV) := by rw [hDV]; rfl
    rw [← hDV] at own4 hd3 hd10 HBD
    obtain ⟨_, Av, cv, rfl, pv⟩ := own_pts own4
    obtain ⟨gv, rfl, -⟩ := pv 0 (by omega)
    have PV := Lib.hid pv
    have cB := bB4.cell
    have HCB := Lib.hid cB
    have HK := Lib.hid hK
    have HD := Lib.hid hD
    have hDlt : D < W.heap.size := (Array.getElem?_eq_some_iff.1 hK).1
    clear hDV pv bB4 own4 bN4 hD
    gi_wp2
    gi_loopw [7, 26] (fun _ i wr => ∃ k : Nat, k ≤ DV.length ∧ i = .int .i64 k ∧ Hid (∀ i, i < k → (List.range DV.length).any (fun j => backB (gt DV j) (gt DV i)) = true) ∧ Below W.heap.size W wr) (fun _ i _ => DV.length - (intOf i).toNat)
    case atStart => exact ⟨0, Nat.zero_le _, rfl, fun i hi => by omega, Below.refl _ _⟩
    case round =>
      obtain ⟨wo, rfl⟩ : ∃ wo : World, wo = wr := ⟨_, rfl⟩
      obtain ⟨k, hk, rfl, HN, hb⟩ := hrel
      clear cB
      by_cases hlt : k < DV.length
      · have pw := ptsA_on PV.out hb
        obtain ⟨c1, c2⟩ := gt_cells pw hlt
        have cB := cell_on hb rfl HCB.out
        have HHB := Lib.hid (has_back DV (gt DV k))
        have HBK := Lib.hid (HBD.out k)
        have HNQ : Hid ((List.range DV.length).any (fun j => backB (gt DV j) (gt DV k)) = false → ovalB DV = false) := fun h => oval_false hlt h
        have HNT : Hid ((List.range DV.length).any (fun j => backB (gt DV j) (gt DV k)) = true → ∀ i, i < k + 1 → (List.range DV.length).any (fun j => backB (gt DV j) (gt DV i)) = true) := fun h i hi => by
          rcases Nat.lt_or_ge i k with h1 | h1
          · exact HN.out i h1
          · obtain rfl : i = k := by omega
            exact h
        generalize gt DV k = dk at *
        obtain ⟨px, py⟩ := dk
        simp only at c1 c2 HHB HBK
        have hbw := below1 wo (.cells #[.int .i64 px, .int .i64 py] 27)
        have b2 := hb.trans (hbw.mono hb.size)
        have n1 := at_new wo px py 27
        have k1 := cell_regrown n1.c0; have k2 := cell_regrown n1.c1; have k3 := cell_regrown (cell_on hbw rfl cB)
        have HMZ := Lib.hid (fun w => minus_zero HBK.out w)
        have HQ := Lib.hid (fun d os => has_any (some ⟨gv, 0, none⟩) cv DV (-px) (-py) _ (ptsA_on (ptsA_on pw hbw) (below_regrown (wo.alloc (.cells #[.int .i64 px, .int .i64 py] 27)) d os)) (by omega))
        rw [HHB.out] at HQ
        clear pw n1 hbw hb
        gi_wp2
        refine region_quiet_in wide0 (by kernel_rfl) (by kernel_rfl) (by kernel_rfl) ?_
        repeat (first
          | go_big_quiet_step (first | exact Calls.regrown_of (HMZ.out _) | exact Calls.regrown_of (HQ.out _ _))
          | quiet_step (first | exact Calls.regrown_of (HMZ.out _) | exact Calls.regrown_of (HQ.out _ _)))
        refine wpQuiet_nil ?_
        rintro _ ⟨⟨dq, osq⟩, rfl⟩
        have b3 := b2.trans ((below_regrown _ dq osq).mono b2.size)
        clear k1 k2 k3 c1 c2 cB b2
        generalize grow (redrawn (wo.alloc (.cells #[.int .i64 px, .int .i64 py] 27)) dq) osq = w5 at *
        cases hf : (List.range DV.length).any (fun j => backB (gt DV j) (px, py))
        · have HF := Lib.hid (HNQ.out hf)
          clear HNT HNQ
          gi_wp2
          have hK5 : w5.heap[D]? = some (.deferred (some [])) := (b3.block D hDlt).trans HK.out
          have hsW := hB4.size
          have hDD := HD.out
          refine ⟨by simp, .inl ⟨_, _, rfl, run_takeDeferred hK5, ?_⟩⟩
          exact ⟨.bool false, by simp [results, Try.results44, go_sem], ret_bool (by rw [HU.out, HF.out]), (hB4.trans (b3.mono hsW)).trans (belowK_b (w := w) (Nat.le_refl _) w5 D _ _ (by omega) hK5 rfl rfl)⟩
        · have HF := Lib.hid (HNT.out hf)
          clear HNT HNQ
          gi_wp2
          go_roundw
          case rel => exact ⟨k + 1, by omega, by go_num, HF.out, b3⟩
          case measure => simp [intOf]; omega
      · have HF : Hid (ovalB DV = true) := oval_true fun i hi => HN.out i (by omega)
        gi_wp2
        have hK5 : wo.heap[D]? = some (.deferred (some [])) := (hb.block D hDlt).trans HK.out
        have hsW := hB4.size
        have hDD := HD.out
        refine ⟨by simp, .inl ⟨_, _, rfl, run_takeDeferred hK5, ?_⟩⟩
        exact ⟨.bool true, by simp [results, Try.results44, go_sem], ret_bool (by rw [HU.out, HF.out]), (hB4.trans (hb.mono hsW)).trans (belowK_b (w := w) (Nat.le_refl _) wo D _ _ (by omega) hK5 rfl rfl)⟩
  case stop =>
    rintro D k pre W hD hpre h hK
    exact h.elim

theorem impl_oval (A : Option Addr) (c : Nat) (L : List (Int × Int)) (w : World) (hA : PtsA w A L) (hL : L.length ≤ 1048576) :
    Calls Try.prog 44 #[.slice A L.length c] w fun e w' => e = .returned (.bool (ovalV L)) ∧ Below w.heap.size w w' := by
  have HV : Hid (ovalV L = (convV L && ovalB (dvs (straightL L)))) := rfl
  cases hp : convV L
  · have PC := Lib.hid (impl_conv A c L w hA hL)
    rw [hp] at PC HV
    go_enter Try.func44, Try.ntmps44
    go_wp2_with fail
    refine PC.out.mono ?_
    rintro e w1 ⟨rfl, hb1⟩
    go_wp2_with fail
    go_ret
    exact ⟨ret_bool HV.out.symm, hb1⟩
  · have h := impl_oval_yes A c L w hA hp
    rw [HV.out, hp]
    exact h
end Go.Proofs.Ytplccidmedkfaaa
