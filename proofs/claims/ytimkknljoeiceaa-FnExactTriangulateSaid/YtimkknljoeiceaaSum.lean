/-
  Walks for TwiceArea and RimPoints of the program: sums over the sides.
-/
import Derived.Test.YtimkknljoeiceaaKeep
namespace Go.Proofs.Ytimkknljoeiceaa
open Go.RowKit Go.Shelf Go.Sort
attribute [local go_sem] Oper.semAt_some

def sumL (f : Nat → Int) (l : List Nat) : Int := l.foldl (fun s i => s + f i) 0
theorem sumL_snoc (f : Nat → Int) (l : List Nat) (x : Nat) : sumL f (l ++ [x]) = sumL f l + f x := by simp [sumL]
theorem sumL_range (f : Nat → Int) (n : Nat) : sumL f (List.range n) = sumT f n := by
  induction n with
  | zero => rfl
  | succ n ih => rw [List.range_succ, sumL_snoc, ih]; rfl
theorem sumL_abs {f : Nat → Int} {m : Nat} (h : ∀ i, (f i).natAbs ≤ m) (l : List Nat) : (sumL f l).natAbs ≤ l.length * m := by
  have key : ∀ (l : List Nat) (s : Int), (l.foldl (fun s i => s + f i) s).natAbs ≤ s.natAbs + l.length * m := by
    intro l
    induction l with
    | nil => intro s; simp
    | cons x l ih =>
      intro s
      have h1 := ih (s + f x)
      have h2 := h x
      have e : (x :: l).length * m = l.length * m + m := Nat.succ_mul _ _
      rw [List.foldl_cons]
      omega
  have := key l 0
  simp only [Int.natAbs_zero, Nat.zero_add] at this
  exact this

theorem prod_bd {x y : Int} (hx : 0 ≤ x ∧ x ≤ 40) (hy : 0 ≤ y ∧ y ≤ 40) : 0 ≤ x * y ∧ x * y ≤ 1600 :=
  ⟨Int.mul_nonneg hx.1 hy.1, Int.le_trans (Int.mul_le_mul hx.2 hy.2 hy.1 (by omega)) (by omega)⟩
theorem area_bd {ax ay bx by' : Int} (ha : okP ax ay = true) (hb : okP bx by' = true) : (ax * by' - ay * bx).natAbs ≤ 1600 := by
  have h1 := okP_bounds ha; have h2 := okP_bounds hb
  have p1 := prod_bd (x := ax) (y := by') (by omega) (by omega)
  have p2 := prod_bd (x := ay) (y := bx) (by omega) (by omega)
  omega
theorem crossM_ok (ax ay bx by' : Int) (w : World) (ha : okP ax ay = true) (hb : okP bx by' = true) :
    Calls Try.prog 108 #[(.agg #[.int .i64 ax, .int .i64 ay]), (.agg #[.int .i64 bx, .int .i64 by'])] w fun e w' => e = .returned (.int .i64 (ax * by' - ay * bx)) ∧ Below w.heap.size w w' := by
  have h1 := okP_bounds ha; have h2 := okP_bounds hb
  have p1 := prod_bd (x := ax) (y := by') (by omega) (by omega)
  have p2 := prod_bd (x := ay) (y := bx) (by omega) (by omega)
  have e : wrap64 (wrap64 (ax * by') - wrap64 (ay * bx)) = ax * by' - ay * bx := by
    rw [IntWalk.wrap64_in (ax * by') (by omega), IntWalk.wrap64_in (ay * bx) (by omega), IntWalk.wrap64_in _ (by omega)]
  rw [← e]
  exact crossM_any ax ay bx by' w

set_option maxRecDepth 100000 in
set_option maxHeartbeats 4000000 in
theorem impl_twice_yes (A : Option Addr) (c : Nat) (L : List (Int × Int)) (w : World) (hA : PtsA w A L) (hp : polyB L = true) :
    Calls Try.prog 50 #[.slice A L.length c] w fun e w' => e = .returned (.int .i64 (twiceI L)) ∧ Below w.heap.size w w' := by
  obtain ⟨h3, h10, hok⟩ := polyB_all hp
  refine (callsIn_wide (n := 6)).1 ?_
  refine callsIn_of_wp_marks Try.func50 rfl trivial ?_ rfl
  simp only [Try.ntmps50, List.size_toArray, List.length_cons, List.length_nil, Nat.reduceAdd, Nat.reduceSub, Array.replicate_succ, Array.replicate_zero, List.push_toArray, List.append_toArray, List.nil_append, List.cons_append]
  have PC := Lib.hid (impl_poly A c L w hA (by omega))
  rw [hp] at PC
  gi_wp2
  refine ⟨trivial, (wide0.calls PC.out).mono ?_⟩
  rintro e w1 ⟨rfl, hb1⟩
  gi_wp2
  refine ⟨trivial, (wide0.calls (sides_any A L.length c _)).mono ?_⟩
  rintro e w2 ⟨rfl, rfl⟩
  gi_wp2
  have bS := (Boxed.new w1 3 (.int .i64 0)).alloc (.cells #[.slice A L.length c] 27)
  have bN := Boxed.new (w1.alloc (.cells #[.int .i64 0] 3)) 27 (.slice A L.length c)
  simp only [World.size_alloc] at bN
  have hs1 := hb1.size
  have hB0 : Below w.heap.size w ((w1.alloc (.cells #[.int .i64 0] 3)).alloc (.cells #[.slice A L.length c] 27)) := (hb1.alloc hs1 _).alloc (by simp; omega) _
  have hsz : ((w1.alloc (.cells #[.int .i64 0] 3)).alloc (.cells #[.slice A L.length c] 27)).heap.size = w1.heap.size + 2 := by simp
  obtain ⟨W0, hW0⟩ : ∃ W0, (w1.alloc (.cells #[.int .i64 0] 3)).alloc (.cells #[.slice A L.length c] 27) = W0 := ⟨_, rfl⟩
  rw [hW0] at bS bN hB0 hsz ⊢
  clear hW0
  refine wpIn_rangeFunc_ownH rfl (by decide) (gf := 154) (lb := #[.pointer (some ⟨w1.heap.size + 1, 0, none⟩)]) rfl trivial (enters_of Try.func154 (by kernel_rfl) rfl)
    (sides_stops 5 (w1.heap.size + 1) A c L w W0 (by omega) (by omega) hA hB0 (by omega) bN.cell) keepP_t (keepP_b (by omega) (by omega)) (Below.refl _ _) (fun _ => rfl)
    (fun pre W => (Boxed W w1.heap.size 3 (.int .i64 (sumL (twiceT L) pre)) ∧ Boxed W (w1.heap.size + 1) 27 (.slice A L.length c)) ∧ Below w.heap.size w W)
    (fun _ _ _ => False)
    (OwnFrom.and (OwnFrom.and (Own.from (boxed_own _ _ _) _) (Own.from (boxed_own _ _ _) _)) (ownFrom_below (Nat.le_refl _) (by omega)))
    (fun _ => ownFrom_pure _ (fun _ => False))
    ⟨⟨bS, bN⟩, hB0⟩
    (fun x a' W => ∃ Bx, w1.heap.size + 1 < Bx ∧ SideAt W Bx L x ∧ a' = { tmps := #[.slice A L.length c, undef, .int .i64 0, .pointer (some ⟨w1.heap.size, 0, none⟩), undef, .pointer (some ⟨Bx, 0, none⟩), .slice A L.length c, .bool true, .bool false, .slice A L.length c, .func (.func 154) #[] #[.pointer (some ⟨w1.heap.size + 1, 0, none⟩)], .int .i64 (x : Int), .agg #[.int .i64 (gt L x).1, .int .i64 (gt L x).2, .int .i64 (gt L (nx L x)).1, .int .i64 (gt L (nx L x)).2], undef, undef, undef, undef, undef, undef, undef, undef], defers := [] })
    (fun x a' _ X Y row hs hg hr => by obtain ⟨Bx, e1, e2, e3⟩ := hs; exact ⟨Bx, e1, sideAt_own Bx L x _ () X Y row e2 hg hr, e3⟩)
    ?assign ?body ?done ?stop
  case assign =>
    rintro l pre x W K ⟨⟨bS1, bN1⟩, hB1⟩ hK
    simp only [sideV]
    gi_wp2
    have hs2 := hB1.size
    exact hK _ _ (keepsFrom_below (below1 _ _)) (KeepP.of_below (below1 _ _) hs2 bN1.lt) ⟨⟨bS1.alloc _, bN1.alloc _⟩, hB1.alloc hs2 _⟩ ⟨W.heap.size, bN1.lt, sideAt_new W L x, rfl⟩
  case body =>
    rintro l pre x a' W hl - ⟨⟨bS1, bN1⟩, hB1⟩ ⟨Bx, hBx, bX, rfl⟩ hlt
    have cS := bS1.cell
    have fS := bS1.frozen
    obtain ⟨x0, x1, x2, x3⟩ := bX.cells
    obtain ⟨ax, ha⟩ : ∃ ax, ax = (gt L x).1 := ⟨_, rfl⟩
    obtain ⟨ay, hay⟩ : ∃ ay, ay = (gt L x).2 := ⟨_, rfl⟩
    obtain ⟨bx, hbx⟩ : ∃ bx, bx = (gt L (nx L x)).1 := ⟨_, rfl⟩
    obtain ⟨by', hby⟩ : ∃ by', by' = (gt L (nx L x)).2 := ⟨_, rfl⟩
    have oa := gt_ok hok x
    have ob := gt_ok hok (nx L x)
    obtain ⟨s, hs⟩ : ∃ s, s = sumL (twiceT L) pre := ⟨_, rfl⟩
    have sb : s.natAbs ≤ 16000 := by
      have h1 := sumL_abs (f := twiceT L) (m := 1600) (fun i => area_bd (gt_ok hok i) (gt_ok hok (nx L i))) pre
      rw [← hs] at h1
      exact Nat.le_trans h1 (by have := Nat.mul_le_mul_right 1600 (show pre.length ≤ 10 by omega); omega)
    have tb := area_bd oa ob
    have HS : Hid (sumL (twiceT L) (pre ++ [x]) = s + (ax * by' - ay * bx)) := by
      show _ = _
      rw [sumL_snoc, hs, ha, hay, hbx, hby]; rfl
    rw [← ha, ← hay] at oa; rw [← hbx, ← hby] at ob
    rw [← ha, ← hay, ← hbx, ← hby] at tb
    rw [← ha] at x0; rw [← hay] at x1; rw [← hbx] at x2; rw [← hby] at x3
    simp only [← ha, ← hay, ← hbx, ← hby, ← hs] at cS bS1 ⊢
    clear ha hay hbx hby hs
    obtain ⟨t, ht⟩ : ∃ t, t = ax * by' - ay * bx := ⟨_, rfl⟩
    have XC := Lib.hid (fun W => crossM_ok ax ay bx by' W oa ob)
    rw [← ht] at tb HS XC
    clear ht
    have e9 : IntKind.i64.wrap (s + t) = s + t := IntWalk.i64_in _ (by omega)
    have k0 := cell_regrown x0; have k1 := cell_regrown x1; have k2 := cell_regrown x2; have k3 := cell_regrown x3; have k4 := cell_regrown cS
    gi_wp2
    refine region_tail_in 7 (wideR l) (by kernel_rfl) (by kernel_rfl) (by kernel_rfl) ?_
    simp only [List.take_succ_cons, List.take_zero, List.drop_succ_cons, List.drop_zero]
    repeat (first
      | go_big_quiet_step (first | exact Calls.regrown_of (XC.out _))
      | quiet_step (first | exact Calls.regrown_of (XC.out _)))
    refine wpQuiet_nil ?_
    rintro _ ⟨⟨dq, osq⟩, rfl⟩
    have hg := below_regrown W dq osq
    clear k0 k1 k2 k3 k4 x0 x1 x2 x3
    generalize grow (redrawn W dq) osq = W2 at *
    have bS2 := boxed_on bS1 hg
    have bN2 := boxed_on bN1 hg
    have cS2 := bS2.cell
    have fS2 := bS2.frozen
    have hs2 := hB1.size
    gi_wp2
    exact ⟨(keepsFrom_below hg).trans ((KeepsOthers.setCell _ _ _).from _), (KeepP.of_below hg hs2 bN1.lt).setCell (by omega) (by omega) _ _,
      ⟨⟨by rw [HS.out]; exact bS2.set _, bN2.other (by omega) _⟩, (hB1.trans (hg.mono hs2)).setCell (p := ⟨w1.heap.size, 0, none⟩) hs1 _⟩⟩
  case done =>
    rintro D ys W hD rfl ⟨⟨bS1, bN1⟩, hB1⟩ hK
    have cS := bS1.cell
    gi_wp2
    refine ⟨by simp, .inl ⟨_, _, rfl, run_takeDeferred hK, ?_⟩⟩
    exact ⟨_, results_tmp rfl _ _ _, by rw [sumL_range]; rfl, hB1.trans (belowK_b (w := w) (Nat.le_refl _) W D _ _ (by have := hB0.size; omega) hK rfl rfl)⟩
  case stop =>
    rintro D k pre W hD hpre h hK
    exact h.elim
theorem impl_twice (A : Option Addr) (c : Nat) (L : List (Int × Int)) (w : World) (hA : PtsA w A L) (hL : L.length ≤ 1048576) :
    Calls Try.prog 50 #[.slice A L.length c] w fun e w' => e = .returned (.int .i64 (bif polyB L then twiceI L else 0)) ∧ Below w.heap.size w w' := by
  cases hp : polyB L
  · have PC := Lib.hid (impl_poly A c L w hA hL)
    rw [hp] at PC
    go_enter Try.func50, Try.ntmps50
    go_wp2_with fail
    refine PC.out.mono ?_
    rintro e w1 ⟨rfl, hb1⟩
    go_wp2_with fail
    go_ret
    exact ⟨rfl, hb1⟩
  · exact impl_twice_yes A c L w hA hp
end Go.Proofs.Ytimkknljoeiceaa
