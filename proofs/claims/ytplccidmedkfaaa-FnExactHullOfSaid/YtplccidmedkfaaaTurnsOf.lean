/-
  Walks for turnsOf and IsConvex of the program.
-/
import Derived.Test.YtplccidmedkfaaaConv
import Derived.Test.YtplccidmedkfaaaMaker
namespace Go.Proofs.Ytplccidmedkfaaa
open Go.RowKit Go.Shelf Go.Sort
attribute [local go_sem] Oper.semAt_some

theorem infoInt : (Try.prog.info? 3).map (fun i => (i.zero, i.size, i.bytes)) = some (some (.int .i64 0), 1, 8) := by kernel_rfl
def sgnQ (a b p : Int × Int) : Int := sgn (crossV a.1 a.2 b.1 b.2 p.1 p.2)
theorem side_pt (a b p : Int × Int) (w : World) :
    Calls Try.prog 79 #[(.agg #[.int .i64 a.1, .int .i64 a.2]), (.agg #[.int .i64 b.1, .int .i64 b.2]), (.agg #[.int .i64 p.1, .int .i64 p.2])] w fun e w' => e = .returned (.int .i64 (sgnQ a b p)) ∧ Below w.heap.size w w' := impl_side a.1 a.2 b.1 b.2 p.1 p.2 w
def tnStep (L : List (Int × Int)) (s : Nat × List Int) (i : Nat) : Nat × List Int := (i, s.2 ++ [sgnQ (gt L s.1) (gt L i) (gt L (nx L i))])
def tnP (L : List (Int × Int)) (l : List Nat) : Nat × List Int := l.foldl (tnStep L) (L.length - 1, [])
theorem tnP_snoc (L : List (Int × Int)) (l : List Nat) (x : Nat) : tnP L (l ++ [x]) = tnStep L (tnP L l) x := by simp [tnP]
theorem tnP_len (L : List (Int × Int)) (l : List Nat) : (tnP L l).2.length = l.length := by
  have key : ∀ (l : List Nat) (s : Nat × List Int), (l.foldl (tnStep L) s).2.length = s.2.length + l.length := by
    intro l
    induction l with
    | nil => intro s; simp
    | cons x l ih =>
      intro s
      rw [List.foldl_cons, ih]
      simp [tnStep]; omega
  have := key l (L.length - 1, [])
  simpa [tnP] using this
theorem sgnQ_ok {L : List (Int × Int)} (hok : allOk L = true) (i j k : Nat) : sgnQ (gt L i) (gt L j) (gt L k) = sgn (crossP (gt L i) (gt L j) (gt L k)) := by
  unfold sgnQ
  rw [crossV_ok (gt_ok hok i) (gt_ok hok j) (gt_ok hok k)]
  rfl
theorem tnP_range {L : List (Int × Int)} (hok : allOk L = true) : ∀ k, k ≤ L.length → tnP L (List.range k) = (if k = 0 then L.length - 1 else k - 1, (List.range k).map (turnI L)) := by
  intro k
  induction k with
  | zero => intro _; rfl
  | succ k ih =>
    intro hk
    rw [List.range_succ, tnP_snoc, ih (by omega)]
    have hpv : (if k = 0 then L.length - 1 else k - 1) = pv L k := (pv_eq (by omega)).symm
    rw [hpv, if_neg (by omega)]
    simp only [tnStep, Nat.add_sub_cancel, List.map_append, List.map_cons, List.map_nil, Prod.mk.injEq, true_and]
    rw [sgnQ_ok hok]
    rfl

set_option maxRecDepth 100000 in
set_option maxHeartbeats 8000000 in
theorem impl_turns (A : Option Addr) (c : Nat) (L : List (Int × Int)) (w : World) (hA : PtsA w A L) (hp : polyB L = true) :
    Calls Try.prog 66 #[.slice A L.length c] w fun e w' => ∃ v, e = .returned v ∧ w'.ownsRow w.heap.size 3 1 v (tnP L (List.range L.length)).2.length (ints (tnP L (List.range L.length)).2) ∧ Below w.heap.size w w' := by
  obtain ⟨i0, hi0, hz0, hz1, hz2⟩ := info_parts infoInt
  obtain ⟨h3, h10, hok⟩ := polyB_all hp
  obtain ⟨g, rfl, -⟩ := hA 0 (by omega)
  refine (callsIn_wide (n := 6)).1 ?_
  refine callsIn_of_wp_marks Try.func66 rfl trivial ?_ rfl
  simp only [Try.ntmps66, List.size_toArray, List.length_cons, List.length_nil, Nat.reduceAdd, Nat.reduceSub, Array.replicate_succ, Array.replicate_zero, List.push_toArray, List.append_toArray, List.nil_append, List.cons_append]
  obtain ⟨m, hm⟩ : ∃ m, m = L.length - 1 := ⟨_, rfl⟩
  obtain ⟨c0, c1⟩ := gt_cells hA (i := m) (by omega)
  have hm1 : (L.length : Int) - 1 = (m : Int) := by omega
  have HM := Lib.hid hm
  have hn1 := below1 w (.cells #[.slice none 0 0] 71)
  have d0 := cell_on hn1 rfl c0
  have d1 := cell_on hn1 rfl c1
  obtain ⟨bx, hbx⟩ : ∃ bx, bx = (gt L m).1 := ⟨_, rfl⟩
  obtain ⟨by', hby⟩ : ∃ by', by' = (gt L m).2 := ⟨_, rfl⟩
  have HBX := Lib.hid hbx
  have HBY := Lib.hid hby
  rw [← hbx] at d0
  rw [← hby] at d1
  have hm3 : (m : Int) < (L.length : Int) := by omega
  have hm4 : wrap64 (m : Int) = (m : Int) := IntWalk.wrap64_in _ (by omega)
  clear hm c0 c1 hn1 hbx hby
  gi_wp2
  refine ⟨trivial, (wide0.calls (sides_any _ L.length c _)).mono ?_⟩
  rintro e w3 ⟨rfl, rfl⟩
  gi_wp2
  have hs1 : w.heap.size ≤ w.heap.size := Nat.le_refl _
  have bB := ((Boxed.new w 71 (.slice none 0 0)).alloc (.cells #[.int .i64 bx, .int .i64 by'] 27)).alloc (.cells #[.slice (some ⟨g, 0, none⟩) L.length c] 23)
  have bF := (at_new (w.alloc (.cells #[.slice none 0 0] 71)) bx by' 27).alloc (.cells #[.slice (some ⟨g, 0, none⟩) L.length c] 23)
  have bN := Boxed.new ((w.alloc (.cells #[.slice none 0 0] 71)).alloc (.cells #[.int .i64 bx, .int .i64 by'] 27)) 23 (.slice (some ⟨g, 0, none⟩) L.length c)
  simp only [World.size_alloc] at bF bN
  have hB0 : Below w.heap.size w (((w.alloc (.cells #[.slice none 0 0] 71)).alloc (.cells #[.int .i64 bx, .int .i64 by'] 27)).alloc (.cells #[.slice (some ⟨g, 0, none⟩) L.length c] 23)) := below3 w _ _ _
  have hsz : (((w.alloc (.cells #[.slice none 0 0] 71)).alloc (.cells #[.int .i64 bx, .int .i64 by'] 27)).alloc (.cells #[.slice (some ⟨g, 0, none⟩) L.length c] 23)).heap.size = w.heap.size + 3 := by simp
  obtain ⟨W0, hW0⟩ : ∃ W0, ((w.alloc (.cells #[.slice none 0 0] 71)).alloc (.cells #[.int .i64 bx, .int .i64 by'] 27)).alloc (.cells #[.slice (some ⟨g, 0, none⟩) L.length c] 23) = W0 := ⟨_, rfl⟩
  rw [hW0] at bB bF bN hB0 hsz ⊢
  have bF0 : At W0 (w.heap.size + 1) (gt L (tnP L []).1).1 (gt L (tnP L []).1).2 27 := by
    have e1 : (tnP L []).1 = m := HM.out.symm
    rw [e1, ← HBX.out, ← HBY.out]; exact bF
  clear hW0 bF
  refine wpIn_rangeFunc_ownH rfl (by decide) (gf := 88) (lb := #[.pointer (some ⟨w.heap.size + 1 + 1, 0, none⟩)]) rfl trivial (enters_of Try.func88 (by kernel_rfl) rfl)
    (sides_stops 5 (w.heap.size + 1 + 1) _ c L w W0 (by omega) (by omega) hA hB0 (by omega) bN.cell) keepP_t (keepP_b (by omega) (by omega)) (Below.refl _ _) (fun _ => rfl)
    (fun pre W => (((∃ v, Boxed W w.heap.size 71 v ∧ W.ownsRow (w.heap.size + 3) 3 1 v (tnP L pre).2.length (ints (tnP L pre).2) ∧ True) ∧ At W (w.heap.size + 1) (gt L (tnP L pre).1).1 (gt L (tnP L pre).1).2 27) ∧ Boxed W (w.heap.size + 1 + 1) 23 (.slice (some ⟨g, 0, none⟩) L.length c)) ∧ Below w.heap.size w W)
    (fun _ _ _ => False)
    (OwnFrom.and (OwnFrom.and (OwnFrom.and (Own.from (holdsRow_own (w.heap.size + 3) w.heap.size 71 3 1 (fun pre => (tnP L pre).2.length) (fun pre => ints (tnP L pre).2) (fun _ _ => True)) _) (fun s X Y row hs hg hr => at_own _ _ _ _ _ () X Y row hs hg hr)) (Own.from (boxed_own _ _ _) _)) (ownFrom_below (Nat.le_refl _) (by omega)))
    (fun _ => ownFrom_pure _ (fun _ => False))
    ⟨⟨⟨⟨_, bB, World.ownsRow_nil _ _ _ _, trivial⟩, bF0⟩, bN⟩, hB0⟩
    (fun x a' W => ∃ Bx, w.heap.size + 1 + 1 < Bx ∧ SideAt W Bx L x ∧ a' = { tmps := #[.slice (some ⟨g, 0, none⟩) L.length c, undef, .slice none 0 0, .pointer (some ⟨w.heap.size, 0, none⟩), .pointer (some ⟨w.heap.size + 1, 0, none⟩), undef, .pointer (some ⟨Bx, 0, none⟩), .slice (some ⟨g, 0, none⟩) L.length c, .slice (some ⟨g, 0, none⟩) L.length c, .int .i64 (L.length : Int), .int .i64 (m : Int), .pointer (some ⟨g, m * 2, none⟩), .agg #[.int .i64 bx, .int .i64 by'], .slice (some ⟨g, 0, none⟩) L.length c, .func (.func 88) #[] #[.pointer (some ⟨w.heap.size + 1 + 1, 0, none⟩)], .int .i64 (x : Int), .agg #[.int .i64 (gt L x).1, .int .i64 (gt L x).2, .int .i64 (gt L (nx L x)).1, .int .i64 (gt L (nx L x)).2], undef, undef, undef, undef, undef, undef, undef, undef, undef, undef, undef, undef], defers := [] })
    (fun x a' _ X Y row hs hg hr => by obtain ⟨Bx, e1, e2, e3⟩ := hs; exact ⟨Bx, e1, sideAt_own Bx L x _ () X Y row e2 hg hr, e3⟩)
    ?assign ?body ?done ?stop
  case assign =>
    rintro l pre x W K ⟨⟨⟨⟨v, bB4, own4, -⟩, bF4⟩, bN4⟩, hB4⟩ hK
    simp only [sideV]
    gi_wp2
    have hs4 := hB4.size
    have hb := below1 W (.cells #[.int .i64 (gt L x).1, .int .i64 (gt L x).2, .int .i64 (gt L (nx L x)).1, .int .i64 (gt L (nx L x)).2] 59)
    exact hK _ _ (keepsFrom_below hb) (KeepP.of_below hb hs4 bN4.lt) ⟨⟨⟨⟨v, boxed_on bB4 hb, own_below own4 hb, trivial⟩, bF4.step hb⟩, boxed_on bN4 hb⟩, hB4.trans (hb.mono hs4)⟩ ⟨W.heap.size, bN4.lt, sideAt_new W L x, rfl⟩
  case body =>
    rintro l pre x a' W hl - ⟨⟨⟨⟨v, bB4, own4, -⟩, bF4⟩, bN4⟩, hB4⟩ ⟨Bx, hBx, sX, rfl⟩ hlt
    have hs4 := hB4.size
    have HO := Lib.hid (fun W => side_pt (gt L (tnP L pre).1) (gt L x) (gt L (nx L x)) W)
    have HST := Lib.hid (tnP_snoc L pre x)
    have hlen := tnP_len L pre
    obtain ⟨j, hj⟩ : ∃ j, j = (tnP L pre).1 := ⟨_, rfl⟩
    obtain ⟨M, hM⟩ : ∃ M, M = (tnP L pre).2 := ⟨_, rfl⟩
    obtain ⟨sg, hsg⟩ : ∃ sg, sg = sgnQ (gt L j) (gt L x) (gt L (nx L x)) := ⟨_, rfl⟩
    have HSS : Hid (tnP L (pre ++ [x]) = (x, M ++ [sg])) := by
      show _ = _
      rw [HST.out, hsg, hj, hM]; rfl
    rw [← hj] at HO bF4
    rw [← hM] at own4 hlen
    rw [← hsg] at HO
    have hl10 : M.length ≤ 9 := by omega
    clear hj hM HST hsg hlen
    obtain ⟨x0, x1, x2, x3⟩ := sX.cells
    have c0 := bF4.c0; have c1 := bF4.c1
    have cB := bB4.cell
    have k0 := cell_regrown x0; have k1 := cell_regrown x1; have k2 := cell_regrown x2; have k3 := cell_regrown x3; have k4 := cell_regrown c0; have k5 := cell_regrown c1; have k6 := cell_regrown cB
    gi_wp2
    refine region_make_in 6 (wideR l) (by kernel_rfl) (by kernel_rfl) (by kernel_rfl) ?_
    simp only [List.take_succ_cons, List.take_zero, List.drop_succ_cons, List.drop_zero]
    repeat (first
      | go_big_quiet_step (fail)
      | quiet_step (fail))
    refine wpQuiet_nil ?_
    rintro _ ⟨⟨dq, osq⟩, rfl⟩
    have hb4 := below_regrown W dq osq
    clear k0 k1 k2 k3 k4 k5 k6 x0 x1 x2 x3 c0 c1 cB
    generalize grow (redrawn W dq) osq = W4 at *
    gi_wp2
    refine ⟨trivial, ((wideR l).calls (HO.out _)).mono ?_⟩
    rintro e W5 ⟨rfl, hb5'⟩
    have hb5 := hb4.trans (hb5'.mono hb4.size)
    clear hb5' hb4
    have hB5 := hB4.trans (hb5.mono hs4)
    have bB5 := boxed_on bB4 hb5
    have bN5 := boxed_on bN4 hb5
    have bF5 := bF4.step hb5
    have sX5 := boxed_side sX hb5
    have own5 := own_below own4 hb5
    have hK5 := KeepP.of_below hb5 hs4 bN4.lt
    have hF5 := keepsFrom_below (B := W0.heap.size) hb5
    have hs5 := hB5.size
    gi_wp2
    refine ⟨hb5, ?_⟩
    gi_wp2
    refine ⟨hb5.alloc hb5.size _, ?_⟩
    clear hb5 hB4 bB4 bN4 bF4 sX HO own4 hs4
    obtain ⟨x0, x1, x2, x3⟩ := sX5.cells
    have c0 := bF5.c0; have c1 := bF5.c1
    have cB := bB5.cell
    have fB := bB5.frozen
    have f0 := at_frozen bF5 0
    have f1 := at_frozen bF5 1
    have hrw := fun k hk => (own5.lt k hk).1
    obtain ⟨px, hpx⟩ : ∃ px, px = (gt L x).1 := ⟨_, rfl⟩
    obtain ⟨py, hpy⟩ : ∃ py, py = (gt L x).2 := ⟨_, rfl⟩
    have HP : Hid (gt L x = (px, py)) := by
      show _ = _
      rw [hpx, hpy]
    simp only [← hpx, ← hpy] at x0 x1 ⊢
    clear hpx hpy
    have hs6 := hB5.size
    have hlt3 : w.heap.size + 3 ≤ W5.heap.size := by have := sX5.lt; omega
    gi_wp2_with (gi_at_builtin; refine wpListIn_append_own _ rfl _ _ 71 rfl (w.heap.size + 3) 3 i0 (.int .i64 0) 1 8 Try.underlying71 hi0 hz0 hz1 hz2 rfl (by decide) _ _ _ rfl (own5.alloc _) ⟨W5.heap.size, 0, none⟩ 1 1 [.int .i64 sg] rfl rfl ?d1 ?d2 ?d3 ?d4 ?d5 ?_)
    case d1 => exact World.news_of_block (cs := #[.int .i64 sg]) (t := 3) (fr := (0, 0)) (heap_alloc_new W5 _)
    case d2 => simp [Value.oneCell']
    case d3 => unfold maxLen; omega
    case d4 => omega
    case d5 => simp; omega
    intro v' w6 own6 hgrow _
    obtain ⟨g6, cp6, rfl⟩ := ownsRow_succ own6
    obtain ⟨hv1, hv2, hr2, hk2, hb2⟩ := bB5.appended (by decide) (own_base own5 (show w.heap.size ≤ w.heap.size + 3 by omega)) hs6 hs1 (own_base own6 (show w.heap.size ≤ w.heap.size + 3 by omega)) hgrow
    have hc6 := hv1.cell
    have hf6 := hv1.frozen
    have bF6 := (bF5.alloc (.cells #[.int .i64 sg] 3)).grown hgrow (fun e => by have := hrw _ e.symm; omega)
    have bN6 := (bN5.alloc (.cells #[.int .i64 sg] 3)).kept hgrow (fun e => by have := hrw _ e.symm; omega)
    have sX6 : SideAt w6 Bx L x := by
      have h1 := boxed_side sX5 (below1 W5 (.cells #[.int .i64 sg] 3))
      refine (hgrow.block Bx h1.lt ?_).trans h1
      rcases own5.2 with ⟨rfl, _⟩ | ⟨g', cap, cur, rfl, _, hgb, _⟩
      · simp [Value.ownBlock]
      · intro e
        obtain rfl : Bx = g' := by simpa [Value.ownBlock] using e
        have := (show W5.heap[Bx]? = _ from sX5).symm.trans hgb
        simp at this
    have hv3 := hrow_other own6 0 (show w.heap.size < w.heap.size + 3 by omega) (.slice (some ⟨g6, 0, none⟩) (M.length + 1) cp6)
    have bF7 := at_set bF6 (b := w.heap.size) (by omega) 0 (.slice (some ⟨g6, 0, none⟩) (M.length + 1) cp6)
    have bN7 := bN6.other (B' := w.heap.size) (by omega) (.slice (some ⟨g6, 0, none⟩) (M.length + 1) cp6)
    have sX7 := side_set sX6 (b := w.heap.size) (by omega) 0 (.slice (some ⟨g6, 0, none⟩) (M.length + 1) cp6)
    have hB7 := hB5.trans hb2
    have hlN : w.heap.size + 1 + 1 ≠ w.heap.size := by omega
    have hKB : w6.heap[w.heap.size + 1 + 1]? = W5.heap[w.heap.size + 1 + 1]? := ((hgrow.block _ (by simp; omega) (fun e => by have := hrw _ e.symm; omega))).trans (Below.heap_alloc _ _ _ (by omega))
    have hK7 : KeepP w.heap.size (w.heap.size + 1 + 1) W (w6.setCell ⟨w.heap.size, 0, none⟩ (.slice (some ⟨g6, 0, none⟩) (M.length + 1) cp6)) := keepP_t hK5 ⟨hb2, (Below.heap_setCell w6 ⟨w.heap.size, 0, none⟩ _ _ hlN).trans hKB⟩
    have hF7 := hF5.trans (hk2.from W0.heap.size)
    have R := Lib.hid (And.intro hv2 (And.intro hv3 (And.intro bN7 (And.intro hB7 (And.intro hK7 hF7)))))
    clear x0 x1 x2 x3 c0 c1 f0 f1 hv2 hr2 hk2 hb2 hv3 bN7 hB7 hK7 hF7 hKB hgrow own6 own5 bF6 bN6 sX6 bF5 bN5 bB5 sX5 cB fB hK5 hF5 hB5 hv1
    obtain ⟨x0, x1, x2, x3⟩ := sX7.cells
    simp only [HP.out] at x0 x1
    have c0 := bF7.c0; have c1 := bF7.c1
    have f0 := at_frozen bF7 0
    have f1 := at_frozen bF7 1
    have c2 : ((w6.setCell ⟨w.heap.size, 0, none⟩ (.slice (some ⟨g6, 0, none⟩) (M.length + 1) cp6)).setCell ⟨w.heap.size + 1, 0, none⟩ (.int .i64 px)).cell? ⟨w.heap.size + 1, 1, none⟩ = some (.int .i64 (gt L j).2) := (at_store bF7 px 0).c1
    clear sX7
    gi_wp2
    obtain ⟨r1, r2, r3, r4, r5, r6⟩ := R.out
    refine ⟨(r6.trans ((KeepsOthers.setCell _ _ _).from _)).trans ((KeepsOthers.setCell _ _ _).from _), (r5.setCell (by omega) (by omega) _ _).setCell (by omega) (by omega) _ _, ?_⟩
    simp only [HSS.out, HP.out, List.length_append, List.length_cons, List.length_nil, ints_snoc]
    exact ⟨⟨⟨⟨_, box_set (box_set r1 0 (by omega) _) 1 (by omega) _, hrow_other (hrow_other r2 0 (by omega) _) 1 (by omega) _, trivial⟩, at_store1 (at_store bF7 px 0) py⟩, box_set (box_set r3 0 (by omega) _) 1 (by omega) _⟩, (r4.setCell (p := ⟨w.heap.size + 1, 0, none⟩) (Nat.le_succ _) _).setCell (p := ⟨w.heap.size + 1, 1, none⟩) (Nat.le_succ _) _⟩
  case done =>
    rintro D zs W hD rfl ⟨⟨⟨⟨v, bB4, own4, -⟩, bF4⟩, bN4⟩, hB4⟩ hK
    have cB := bB4.cell
    have hs9 := hB0.size
    gi_wp2
    refine ⟨by simp, .inl ⟨_, _, rfl, run_takeDeferred hK, ?_⟩⟩
    exact ⟨_, results_tmp rfl _ _ _, v, rfl, ownsRow_putObj (own_base own4 (show w.heap.size ≤ w.heap.size + 3 by omega)) _ hK rfl, hB4.trans (belowK_b (w := w) (Nat.le_refl _) W D _ _ (by omega) hK rfl rfl)⟩
  case stop =>
    rintro D k pre W hD hpre h hK
    exact h.elim
end Go.Proofs.Ytplccidmedkfaaa
