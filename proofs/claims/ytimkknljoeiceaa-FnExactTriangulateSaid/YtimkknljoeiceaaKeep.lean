/-
  A walk for PolygonOk of the program.
-/
import Derived.Test.YtimkknljoeiceaaSides
import Derived.Test.YtimkknljoeiceaaEnds
namespace Go.Proofs.Ytimkknljoeiceaa
open Go.RowKit Go.Shelf Go.Sort
attribute [local go_sem] Oper.semAt_some

theorem ownFrom_keepP {β : Type} {m B M : Nat} {W0 : World} (hm : m ≤ W0.heap.size) (hB : B < W0.heap.size) (hM : W0.heap.size ≤ M) : OwnFrom M (fun (_ : β) W => KeepP m B W0 W) :=
  fun _ X Y row hs hg hr => by
    have hX : B < X.heap.size := Nat.lt_of_lt_of_le hB hs.1.size
    refine keepP_t hs ⟨(Below.refl m X).grown hg (Nat.le_trans hm hs.1.size) (fun k e => by have := (hr k e).1; omega), hg.block B hX (fun e => by have := (hr _ e.symm).1; omega)⟩
theorem boxed_side {W W' : World} {B : Nat} {L : List (Int × Int)} {i : Nat} (h : SideAt W B L i) (hb : Below W.heap.size W W') : SideAt W' B L i := (hb.block B h.lt).trans h
theorem boxed_same {W W' : World} {B : Nat} {t : TypeId} {v : Value} (h : Boxed W B t v) (hb : W'.heap[B]? = W.heap[B]?) : Boxed W' B t v := hb.trans h

/-- How the sides i < k of n have to meet. -/
def needI (i k n : Int) : Int := bif wrap64 (k - i) == 1 || wrap64 (k - i) == n - 1 then 1 else 0
theorem need_any (i k n : Int) (w : World) (hn : 0 ≤ n ∧ n ≤ 100) :
    Calls Try.prog 172 #[.int .i64 i, .int .i64 k, .int .i64 n] w fun e w' => e = .returned (.int .i64 (needI i k n)) ∧ w' = w := by
  obtain ⟨d, hd⟩ : ∃ d, d = wrap64 (k - i) := ⟨_, rfl⟩
  have HV : Hid (needI i k n = bif d == 1 || d == n - 1 then 1 else 0) := by
    show _ = _
    rw [hd]; rfl
  have hd2 : wrap64 (k - i) = d := hd.symm
  clear hd
  cases h1 : (d == 1)
  · cases h2 : (d == n - 1)
    all_goals
      rw [h1, h2] at HV
      go_enter Try.func172, Try.ntmps172
      go_wp2_with fail
      go_ret
      exact ⟨ret_int (by rw [HV.out]; rfl), rfl⟩
  · rw [h1] at HV
    go_enter Try.func172, Try.ntmps172
    go_wp2_with fail
    go_ret
    exact ⟨ret_int (by rw [HV.out]; rfl), rfl⟩

theorem need_below (i k n : Int) (w : World) (hn : 0 ≤ n ∧ n ≤ 100) :
    Calls Try.prog 172 #[.int .i64 i, .int .i64 k, .int .i64 n] w fun e w' => e = .returned (.int .i64 (needI i k n)) ∧ Below w.heap.size w w' :=
  (need_any i k n w hn).mono fun _ _ ⟨he, hw⟩ => ⟨he, by rw [hw]; exact Below.refl _ _⟩
theorem meet_pt (a b c d : Int × Int) (w : World) :
    Calls Try.prog 171 #[(.agg #[.int .i64 a.1, .int .i64 a.2]), (.agg #[.int .i64 b.1, .int .i64 b.2]), (.agg #[.int .i64 c.1, .int .i64 c.2]), (.agg #[.int .i64 d.1, .int .i64 d.2])] w fun e w' => e = .returned (.int .i64 (meetV a b c d)) ∧ Below w.heap.size w w' :=
  impl_meet a.1 a.2 b.1 b.2 c.1 c.2 d.1 d.2 w

theorem pts_of {w : World} {g : Nat} {L : List (Int × Int)} (h : PtsA w (some ⟨g, 0, none⟩) L) : Pts w g L := fun k hk => by
  have := gt_cells h hk
  rw [gt_at hk] at this
  exact this

def cellB (L : List (Int × Int)) (i k : Nat) : Bool := !(decide (i < k)) || (meetV (gt L i) (gt L (nx L i)) (gt L k) (gt L (nx L k)) == needI i k L.length)
def rowB (L : List (Int × Int)) (i : Nat) : Bool := (List.range L.length).all (cellB L i)
def keepB (L : List (Int × Int)) : Bool := (List.range L.length).all (rowB L)

set_option maxRecDepth 100000 in
set_option maxHeartbeats 8000000 in
theorem keep_any (A : Option Addr) (c : Nat) (L : List (Int × Int)) (w : World) (hA : PtsA w A L) (h1 : 1 ≤ L.length) (h2 : L.length ≤ 100) :
    Calls Try.prog 123 #[.slice A L.length c] w fun e w' => e = .returned (.bool (keepB L)) ∧ Below w.heap.size w w' := by
  refine (callsIn_wide (n := 9)).1 ?_
  refine callsIn_of_wp_marks Try.func123 rfl trivial ?_ rfl
  simp only [Try.ntmps123, List.size_toArray, List.length_cons, List.length_nil, Nat.reduceAdd, Nat.reduceSub, Array.replicate_succ, Array.replicate_zero, List.push_toArray, List.append_toArray, List.nil_append, List.cons_append]
  gi_wp2
  refine ⟨trivial, (wide0.calls (sides_any A L.length c _)).mono ?_⟩
  rintro e w2 ⟨rfl, rfl⟩
  gi_wp2
  have bP := ((Boxed.new w 27 (.slice A L.length c)).alloc (.cells #[.bool false] 4)).alloc (.cells #[.slice A L.length c] 27)
  have bR := (Boxed.new (w.alloc (.cells #[.slice A L.length c] 27)) 4 (.bool false)).alloc (.cells #[.slice A L.length c] 27)
  have bS := Boxed.new ((w.alloc (.cells #[.slice A L.length c] 27)).alloc (.cells #[.bool false] 4)) 27 (.slice A L.length c)
  simp only [World.size_alloc] at bR bS
  have hB0 : Below w.heap.size w (((w.alloc (.cells #[.slice A L.length c] 27)).alloc (.cells #[.bool false] 4)).alloc (.cells #[.slice A L.length c] 27)) := below3 _ _ _ _
  have hsz : (((w.alloc (.cells #[.slice A L.length c] 27)).alloc (.cells #[.bool false] 4)).alloc (.cells #[.slice A L.length c] 27)).heap.size = w.heap.size + 3 := by simp
  obtain ⟨W0, hW0⟩ : ∃ W0, ((w.alloc (.cells #[.slice A L.length c] 27)).alloc (.cells #[.bool false] 4)).alloc (.cells #[.slice A L.length c] 27) = W0 := ⟨_, rfl⟩
  rw [hW0] at bP bR bS hB0 hsz ⊢
  clear hW0
  refine wpIn_rangeFunc_ownH rfl (by decide) (gf := 154) (lb := #[.pointer (some ⟨w.heap.size + 1 + 1, 0, none⟩)]) rfl trivial (enters_of Try.func154 (by kernel_rfl) rfl)
    (sides_stops 8 (w.heap.size + 1 + 1) A c L w W0 (by omega) (by omega) hA hB0 (by omega) bS.cell) keepP_t (keepP_b (by omega) (by omega)) (Below.refl _ _) (fun _ => rfl)
    (fun pre W => ((((∀ i ∈ pre, rowB L i = true) ∧ Boxed W (w.heap.size + 1) 4 (.bool false)) ∧ Boxed W w.heap.size 27 (.slice A L.length c)) ∧ Boxed W (w.heap.size + 1 + 1) 27 (.slice A L.length c)) ∧ Below w.heap.size w W)
    (fun co pre W => ((co = .ret ∧ ∃ i ∈ pre, rowB L i = false) ∧ Boxed W (w.heap.size + 1) 4 (.bool false)) ∧ Below w.heap.size w W)
    (OwnFrom.and (OwnFrom.and (OwnFrom.and (OwnFrom.and (ownFrom_pure _ _) (Own.from (boxed_own _ _ _) _)) (Own.from (boxed_own _ _ _) _)) (Own.from (boxed_own _ _ _) _)) (ownFrom_below (Nat.le_refl _) (by omega)))
    (fun co => OwnFrom.and (OwnFrom.and (ownFrom_pure _ _) (Own.from (boxed_own _ _ _) _)) (ownFrom_below (Nat.le_refl _) (by omega)))
    ⟨⟨⟨⟨by simp, bR⟩, bP⟩, bS⟩, hB0⟩
    (fun x a' W => ∃ Bi Bs, (w.heap.size + 1 + 1 < Bi ∧ Bi < Bs) ∧ Boxed W Bi 3 (.int .i64 (x : Int)) ∧ SideAt W Bs L x ∧ a' = { tmps := #[.slice A L.length c, .pointer (some ⟨w.heap.size, 0, none⟩), .pointer (some ⟨w.heap.size + 1, 0, none⟩), .pointer (some ⟨Bi, 0, none⟩), .pointer (some ⟨Bs, 0, none⟩), undef, undef, .slice A L.length c, .func (.func 154) #[] #[.pointer (some ⟨w.heap.size + 1 + 1, 0, none⟩)], .int .i64 (x : Int), .agg #[.int .i64 (gt L x).1, .int .i64 (gt L x).2, .int .i64 (gt L (nx L x)).1, .int .i64 (gt L (nx L x)).2], undef, undef, undef, undef, undef, undef, undef, undef, undef, undef, undef, undef, undef, undef, undef, undef, undef, undef, undef, undef, undef, undef, undef, undef], defers := [] })
    (fun x a' _ X Y row hs hg hr => by obtain ⟨Bi, Bs, e1, e2, e3, e4⟩ := hs; exact ⟨Bi, Bs, e1, boxed_own Bi 3 (fun (_ : Unit) => Value.int .i64 (x : Int)) () X Y row e2 hg (fun r e => (hr r e).2), sideAt_own Bs L x _ () X Y row e3 hg hr, e4⟩)
    ?assign ?body ?done ?stop
  case assign =>
    rintro l pre x W K ⟨⟨⟨⟨hp, bR1⟩, bP1⟩, bS1⟩, hB1⟩ hK
    simp only [sideV]
    gi_wp2
    have hs2 := hB1.size
    have hb2 := below2 W (.cells #[.int .i64 (x : Int)] 3) (.cells #[.int .i64 (gt L x).1, .int .i64 (gt L x).2, .int .i64 (gt L (nx L x)).1, .int .i64 (gt L (nx L x)).2] 114)
    exact hK _ _ (keepsFrom_below hb2) (KeepP.of_below hb2 hs2 bS1.lt) ⟨⟨⟨⟨hp, boxed_on bR1 hb2⟩, boxed_on bP1 hb2⟩, boxed_on bS1 hb2⟩, hB1.trans (hb2.mono hs2)⟩
      ⟨W.heap.size, W.heap.size + 1, ⟨bS1.lt, by omega⟩, (Boxed.new W 3 _).alloc _, by have := sideAt_new (W.alloc (.cells #[.int .i64 (x : Int)] 3)) L x; rwa [World.size_alloc] at this, rfl⟩
  case body =>
    rintro l pre x a' W hl ⟨r, hr⟩ ⟨⟨⟨⟨hp, bR1⟩, bP1⟩, bS1⟩, hB1⟩ ⟨Bi, Bs, ⟨hBi, hBs⟩, bI, sX, rfl⟩ hlt
    have cP := bP1.cell
    gi_wp2
    refine ⟨trivial, ((wideR l).calls (sides_any A L.length c _)).mono ?_⟩
    rintro e w' ⟨rfl, rfl⟩
    gi_wp2
    have hsW := hB1.size
    have bN := Boxed.new W 27 (.slice A L.length c)
    have hr' : (W.alloc (.cells #[.slice A L.length c] 27)).heap[l]? = some (.loop r) := (Below.heap_alloc W _ l (Array.getElem?_eq_some_iff.1 hr).1).trans hr
    have hS1 := bS1.lt
    have hW1 := below1 W (.cells #[.slice A L.length c] 27)
    refine wpIn_rangeFunc_ownN (l₀ := l) (r₀ := r) rfl hr' (by decide) (gf := 154) (lb := #[.pointer (some ⟨W.heap.size, 0, none⟩)]) rfl trivial (enters_of Try.func154 (by kernel_rfl) rfl)
      ((sides_stops 6 W.heap.size A c L w _ (by omega) (by omega) hA (hB1.trans (hW1.mono hsW)) (by simp) bN.cell).inRound l) keepP_t (keepP_b (by simp; omega) (by simp)) (Below.refl _ _) (fun _ => rfl)
      (fun pre' W' => (((((∀ k ∈ pre', cellB L x k = true) ∧ Boxed W' (w.heap.size + 1) 4 (.bool false)) ∧ Boxed W' w.heap.size 27 (.slice A L.length c)) ∧ Boxed W' Bi 3 (.int .i64 (x : Int))) ∧ (Boxed W' W.heap.size 27 (.slice A L.length c) ∧ SideAt W' Bs L x)) ∧ (KeepP w.heap.size (w.heap.size + 1 + 1) W W' ∧ KeepsFrom W0.heap.size W W'))
      (fun co pre' W' => ((co = .ret ∧ ∃ k ∈ pre', cellB L x k = false) ∧ Boxed W' (w.heap.size + 1) 4 (.bool false)) ∧ (KeepP w.heap.size (w.heap.size + 1 + 1) W W' ∧ KeepsFrom W0.heap.size W W'))
      (OwnFrom.and (OwnFrom.and (OwnFrom.and (OwnFrom.and (OwnFrom.and (ownFrom_pure _ _) (Own.from (boxed_own _ _ _) _)) (Own.from (boxed_own _ _ _) _)) (Own.from (boxed_own _ _ _) _)) (OwnFrom.and (Own.from (boxed_own _ _ _) _) (fun s X Y row hs hg hr => sideAt_own Bs L x _ () X Y row hs hg hr))) (OwnFrom.and (ownFrom_keepP hsW hS1 (by simp)) (ownFrom_keepsFrom (by simp))))
      (fun co => OwnFrom.and (OwnFrom.and (ownFrom_pure _ _) (Own.from (boxed_own _ _ _) _)) (OwnFrom.and (ownFrom_keepP hsW hS1 (by simp)) (ownFrom_keepsFrom (by simp))))
      ⟨⟨⟨⟨⟨by simp, bR1.alloc _⟩, bP1.alloc _⟩, bI.alloc _⟩, bN, boxed_side sX hW1⟩, KeepP.of_below hW1 hsW hS1, keepsFrom_below hW1⟩
      (fun y a'' W' => ∃ Bt, W.heap.size < Bt ∧ SideAt W' Bt L y ∧ a'' = { tmps := #[.slice A L.length c, .pointer (some ⟨w.heap.size, 0, none⟩), .pointer (some ⟨w.heap.size + 1, 0, none⟩), .pointer (some ⟨Bi, 0, none⟩), .pointer (some ⟨Bs, 0, none⟩), .int .i64 (y : Int), .pointer (some ⟨Bt, 0, none⟩), .slice A L.length c, .func (.func 154) #[] #[.pointer (some ⟨w.heap.size + 1 + 1, 0, none⟩)], .int .i64 (x : Int), .agg #[.int .i64 (gt L x).1, .int .i64 (gt L x).2, .int .i64 (gt L (nx L x)).1, .int .i64 (gt L (nx L x)).2], .slice A L.length c, .func (.func 154) #[] #[.pointer (some ⟨W.heap.size, 0, none⟩)], .int .i64 (y : Int), .agg #[.int .i64 (gt L y).1, .int .i64 (gt L y).2, .int .i64 (gt L (nx L y)).1, .int .i64 (gt L (nx L y)).2], undef, undef, undef, undef, undef, undef, undef, undef, undef, undef, undef, undef, undef, undef, undef, undef, undef, undef, undef, undef], defers := [] })
      (fun y a'' _ X Y row hs hg hr => by obtain ⟨Bt, e1, e2, e3⟩ := hs; exact ⟨Bt, e1, sideAt_own Bt L y _ () X Y row e2 hg hr, e3⟩)
      ?assign2 ?body2 ?done2 ?stop2
    case assign2 =>
      rintro l2 pre' y W' K ⟨⟨⟨⟨⟨hq, bR2⟩, bP2⟩, bI2⟩, bN2, sX2⟩, hKP, hKF⟩ hK
      simp only [sideV]
      gi_wp2
      have hb2 := below1 W' (.cells #[.int .i64 (gt L y).1, .int .i64 (gt L y).2, .int .i64 (gt L (nx L y)).1, .int .i64 (gt L (nx L y)).2] 114)
      have hs2 := hKP.1.size
      exact hK _ _ (keepsFrom_below hb2) (KeepP.of_below hb2 (by omega) bN2.lt) ⟨⟨⟨⟨⟨hq, bR2.alloc _⟩, bP2.alloc _⟩, bI2.alloc _⟩, bN2.alloc _, boxed_side sX2 hb2⟩, keepP_t hKP (KeepP.of_below hb2 (by omega) (by omega)), hKF.trans (keepsFrom_below hb2)⟩
        ⟨W'.heap.size, bN2.lt, sideAt_new W' L y, rfl⟩
    case body2 =>
      rintro l2 pre' y a'' W' - - ⟨⟨⟨⟨⟨hq, bR2⟩, bP2⟩, bI2⟩, bN2, sX2⟩, hKP, hKF⟩ ⟨Bt, hBt, sY2, rfl⟩ -
      have cR := bR2.cell
      have fR := bR2.frozen
      have cI := bI2.cell
      have cP2 := bP2.cell
      obtain ⟨x0, x1, x2, x3⟩ := sX2.cells
      obtain ⟨y0, y1, y2, y3⟩ := sY2.cells
      have HC : Hid (cellB L x y = (!(decide (x < y)) || (meetV (gt L x) (gt L (nx L x)) (gt L y) (gt L (nx L y)) == needI x y L.length))) := rfl
      obtain ⟨mv, hmv⟩ : ∃ mv, mv = meetV (gt L x) (gt L (nx L x)) (gt L y) (gt L (nx L y)) := ⟨_, rfl⟩
      obtain ⟨nv, hnv⟩ : ∃ nv, nv = needI x y L.length := ⟨_, rfl⟩
      have HM := Lib.hid (fun W => meet_pt (gt L x) (gt L (nx L x)) (gt L y) (gt L (nx L y)) W)
      have HN := Lib.hid (fun W => need_below (x : Int) (y : Int) (L.length : Int) W (by omega))
      rw [← hmv] at HC HM
      rw [← hnv] at HC HN
      clear hmv hnv
      have k0 := cell_regrown x0; have k1 := cell_regrown x1; have k2 := cell_regrown x2; have k3 := cell_regrown x3
      have k4 := cell_regrown y0; have k5 := cell_regrown y1; have k6 := cell_regrown y2; have k7 := cell_regrown y3
      have k8 := cell_regrown cI; have k9 := cell_regrown cP2
      by_cases hxy : x < y
      · have dxy : decide ((x : Int) < (y : Int)) = true := by simpa using hxy
        rw [decide_eq_true hxy, Bool.not_true, Bool.false_or] at HC
        by_cases hmn : mv = nv
        · subst hmn
          have HT : Hid (cellB L x y = true) := by
            show _ = _
            rw [HC.out]; simp
          clear HC
          gi_wp2
          refine region_quiet_in (wideR l2) (by kernel_rfl) (by kernel_rfl) (by kernel_rfl) ?_
          repeat (first
            | go_big_quiet_step (first | exact Calls.regrown_of (HM.out _) | exact Calls.regrown_of (HN.out _))
            | quiet_step (first | exact Calls.regrown_of (HM.out _) | exact Calls.regrown_of (HN.out _)))
          refine wpQuiet_nil ?_
          rintro _ ⟨⟨dq, osq⟩, rfl⟩
          have hg := below_regrown W' dq osq
          have hs2 := hKP.1.size
          clear k0 k1 k2 k3 k4 k5 k6 k7 k8 k9
          generalize grow (redrawn W' dq) osq = W2 at *
          gi_wp2
          exact ⟨keepsFrom_below hg, KeepP.of_below hg (by omega) bN2.lt, ⟨⟨⟨⟨fun z hz => (List.mem_append.1 hz).elim (hq z) (fun e => by simp at e; subst e; exact HT.out), boxed_on bR2 hg⟩, boxed_on bP2 hg⟩, boxed_on bI2 hg⟩, boxed_on bN2 hg, boxed_side sX2 hg⟩,
            keepP_t hKP (KeepP.of_below hg (by omega) (by omega)), hKF.trans (keepsFrom_below hg)⟩
        · have HT : Hid (cellB L x y = false) := by
            show _ = _
            rw [HC.out]; simpa using hmn
          have dmn : (mv != nv) = true := by simpa using hmn
          clear HC
          gi_wp2
          refine region_quiet_in (wideR l2) (by kernel_rfl) (by kernel_rfl) (by kernel_rfl) ?_
          repeat (first
            | go_big_quiet_step (first | exact Calls.regrown_of (HM.out _) | exact Calls.regrown_of (HN.out _))
            | quiet_step (first | exact Calls.regrown_of (HM.out _) | exact Calls.regrown_of (HN.out _)))
          refine wpQuiet_nil ?_
          rintro _ ⟨⟨dq, osq⟩, rfl⟩
          have hg := below_regrown W' dq osq
          have hs2 := hKP.1.size
          clear k0 k1 k2 k3 k4 k5 k6 k7 k8 k9
          have bR3 := boxed_on bR2 hg
          generalize grow (redrawn W' dq) osq = W2 at *
          have cR3 := bR3.cell
          have fR3 := bR3.frozen
          gi_wp2
          exact ⟨(keepsFrom_below hg).trans ((KeepsOthers.setCell _ _ _).from _), ⟨⟨rfl, y, List.mem_append.2 (.inr (by simp)), HT.out⟩, bR3.set _⟩,
            keepP_t hKP ((KeepP.of_below hg (by omega) (by omega)).setCell (by omega) (by omega) _ _), hKF.trans ((keepsFrom_below hg).trans ((KeepsOthers.setCell _ _ _).from _))⟩
      · have dxy : decide ((x : Int) < (y : Int)) = false := by simpa using hxy
        have HT : Hid (cellB L x y = true) := by
          show _ = _
          rw [HC.out, decide_eq_false hxy]; rfl
        clear HC
        gi_wp2
        refine region_quiet_in (wideR l2) (by kernel_rfl) (by kernel_rfl) (by kernel_rfl) ?_
        repeat (first
          | go_big_quiet_step (first | exact Calls.regrown_of (HM.out _) | exact Calls.regrown_of (HN.out _))
          | quiet_step (first | exact Calls.regrown_of (HM.out _) | exact Calls.regrown_of (HN.out _)))
        refine wpQuiet_nil ?_
        rintro _ ⟨⟨dq, osq⟩, rfl⟩
        have hg := below_regrown W' dq osq
        have hs2 := hKP.1.size
        clear k0 k1 k2 k3 k4 k5 k6 k7 k8 k9
        generalize grow (redrawn W' dq) osq = W2 at *
        gi_wp2
        exact ⟨keepsFrom_below hg, KeepP.of_below hg (by omega) bN2.lt, ⟨⟨⟨⟨fun z hz => (List.mem_append.1 hz).elim (hq z) (fun e => by simp at e; subst e; exact HT.out), boxed_on bR2 hg⟩, boxed_on bP2 hg⟩, boxed_on bI2 hg⟩, boxed_on bN2 hg, boxed_side sX2 hg⟩,
          keepP_t hKP (KeepP.of_below hg (by omega) (by omega)), hKF.trans (keepsFrom_below hg)⟩
    case done2 =>
      rintro ys' W' rfl ⟨⟨⟨⟨⟨hq, bR2⟩, bP2⟩, bI2⟩, bN2, sX2⟩, hKP, hKF⟩
      gi_wp2
      have hrow : rowB L x = true := by
        simp only [rowB, List.all_eq_true]
        exact hq
      exact ⟨hKF, hKP, ⟨⟨⟨⟨fun z hz => (List.mem_append.1 hz).elim (hp z) (fun e => by simp at e; subst e; exact hrow), bR2⟩, bP2⟩, boxed_same bS1 hKP.2⟩, hB1.trans hKP.1⟩⟩
    case stop2 =>
      rintro co pre' W' ⟨k, hk, rfl⟩ ⟨⟨⟨rfl, j, hj, hjb⟩, bR2⟩, hKP, hKF⟩
      gi_wp2
      have hrow : rowB L x = false := by
        simp only [rowB, List.all_eq_false]
        exact ⟨j, by simp only [List.mem_range] at hj ⊢; omega, by rw [hjb]; exact Bool.false_ne_true⟩
      exact ⟨hKF, ⟨⟨rfl, x, List.mem_append.2 (.inr (by simp)), hrow⟩, bR2⟩, hB1.trans hKP.1⟩
  case done =>
    rintro D zs W hD rfl ⟨⟨⟨⟨hp, bR1⟩, bP1⟩, bS1⟩, hB1⟩ hK
    have cR := bR1.cell
    have fR := bR1.frozen
    gi_wp2
    have hK' := (KeepsOthers.setCell W ⟨w.heap.size + 1, 0, none⟩ (.bool true)).same D _ hK rfl
    refine ⟨by simp, .inl ⟨_, _, rfl, run_takeDeferred hK', ?_⟩⟩
    have hc5 := cell_kept (bR1.set (.bool true)).cell (grownBy_putObj' _ D (.deferred none)) (fun r e => by cases e; exact ⟨_, hK', rfl⟩)
    have hkeep : keepB L = true := by
      simp only [keepB, List.all_eq_true]
      exact hp
    refine ⟨.bool true, ?_, by rw [hkeep], (hB1.setCell (p := ⟨w.heap.size + 1, 0, none⟩) (by simp) _).trans (belowK_b (w := w) (Nat.le_refl _) _ D _ _ (by omega) hK' rfl rfl)⟩
    simp [results, Try.f123, go_sem, hc5]
  case stop =>
    rintro D co pre W hD ⟨k, hk, rfl⟩ ⟨⟨⟨rfl, j, hj, hjb⟩, bR1⟩, hB1⟩ hK
    gi_wp2
    refine ⟨by simp, .inl ⟨_, _, rfl, run_takeDeferred hK, ?_⟩⟩
    have hc5 := cell_kept bR1.cell (grownBy_putObj' _ D (.deferred none)) (fun r e => by cases e; exact ⟨_, hK, rfl⟩)
    have hkeep : keepB L = false := by
      simp only [keepB, List.all_eq_false]
      exact ⟨j, by simp only [List.mem_range] at hj ⊢; omega, by rw [hjb]; exact Bool.false_ne_true⟩
    refine ⟨.bool false, ?_, by rw [hkeep], hB1.trans (belowK_b (w := w) (Nat.le_refl _) _ D _ _ (by omega) hK rfl rfl)⟩
    simp [results, Try.f123, go_sem, hc5]

theorem need_adj {i k n : Nat} (h1 : i < k) (h2 : k < n) (hn : n ≤ 100) : needI i k n = bif adjB n i k then 1 else 0 := by
  have e : wrap64 ((k : Int) - i) = (k : Int) - i := IntWalk.wrap64_in _ (by omega)
  have e1 : ((k : Int) - i == 1 || (k : Int) - i == n - 1) = adjB n i k := by
    rw [Bool.eq_iff_iff]
    simp only [adjB, Bool.or_eq_true, Bool.and_eq_true, beq_iff_eq]
    omega
  rw [needI, e, e1]
theorem meetV_ok {L : List (Int × Int)} (hok : allOk L = true) (i k : Nat) :
    meetV (gt L i) (gt L (nx L i)) (gt L k) (gt L (nx L k)) = bif !(eqQ (gt L i) (gt L (nx L i))) && !(eqQ (gt L k) (gt L (nx L k))) then pairM L i k else 0 := by
  have h := fun j => gt_ok hok j
  unfold meetV okQ
  rw [h i, h (nx L i), h k, h (nx L k)]
  rfl
theorem keep_eq {L : List (Int × Int)} (hin : inB (L.length : Int) 3 10 = true) (hok : allOk L = true) : keepB L = (nbB L && pairsB L) := by
  have hn := inB_spec.1 hin
  rw [Bool.eq_iff_iff]
  simp only [Bool.and_eq_true]
  constructor
  · intro hk
    have hc : ∀ i k, i < k → k < L.length → meetV (gt L i) (gt L (nx L i)) (gt L k) (gt L (nx L k)) = bif adjB L.length i k then 1 else 0 := fun i k h1 h2 => by
      have h3 := List.all_eq_true.1 hk i (List.mem_range.2 (by omega))
      have h4 := List.all_eq_true.1 h3 k (List.mem_range.2 h2)
      unfold cellB at h4
      rw [decide_eq_true h1, Bool.not_true, Bool.false_or, beq_iff_eq, need_adj h1 h2 (by omega)] at h4
      exact h4
    have hnb : ∀ i, i < L.length → eqQ (gt L i) (gt L (nx L i)) = false := fun i hi => by
      cases he : eqQ (gt L i) (gt L (nx L i))
      · rfl
      · rcases Nat.lt_or_ge (i + 1) L.length with h | h
        · have := hc i (i + 1) (by omega) h
          rw [meetV_ok hok, he] at this
          simp [adjB] at this
        · have h0 : i = L.length - 1 := by omega
          have := hc 0 i (by omega) hi
          rw [meetV_ok hok, he] at this
          simp [adjB, h0] at this
    refine ⟨nb_true hnb, pairs_true fun i hi k hik hk => ?_⟩
    have := hc i k hik hk
    rw [meetV_ok hok, hnb i hi, hnb k hk] at this
    simp only [Bool.not_false, Bool.and_self, cond_true] at this
    unfold pairOk
    rw [this]
    cases adjB L.length i k <;> rfl
  · rintro ⟨h1, h2⟩
    have hnb : ∀ i, i < L.length → eqQ (gt L i) (gt L (nx L i)) = false := fun i hi => by
      have := List.all_eq_true.1 h1 i (List.mem_range.2 hi)
      show eqQ (gt L i) (gt L ((i + 1) % L.length)) = false
      simpa using this
    simp only [keepB, List.all_eq_true, List.mem_range]
    intro i hi
    simp only [rowB, List.all_eq_true, List.mem_range]
    intro k hk
    unfold cellB
    by_cases hik : i < k
    · rw [decide_eq_true hik, Bool.not_true, Bool.false_or, beq_iff_eq, need_adj hik hk (by omega), meetV_ok hok, hnb i hi, hnb k hk]
      simp only [Bool.not_false, Bool.and_self, cond_true]
      have h3 := List.all_eq_true.1 (List.all_eq_true.1 h2 i (List.mem_range.2 hi)) k (List.mem_range.2 hk)
      simp only [Bool.or_eq_true, decide_eq_true_eq] at h3
      rcases h3 with h3 | h3
      · omega
      · unfold pairOk at h3
        cases ha : adjB L.length i k
        · rw [ha] at h3; simpa using h3
        · rw [ha] at h3; simpa using h3
    · rw [decide_eq_false hik]; rfl

set_option maxRecDepth 100000 in
set_option maxHeartbeats 800000 in
theorem impl_poly (A : Option Addr) (c : Nat) (L : List (Int × Int)) (w : World) (hA : PtsA w A L) (hL : L.length ≤ 1048576) :
    Calls Try.prog 68 #[.slice A L.length c] w fun e w' => e = .returned (.bool (polyB L)) ∧ Below w.heap.size w w' := by
  cases hin : inB (L.length : Int) 3 10
  · have HV : Hid (polyB L = false) := by
      show _ = _
      rw [polyB, hin]; rfl
    go_enter Try.func68, Try.ntmps68
    go_wp2_with fail
    refine (from_any _ _ _ _).mono ?_
    rintro e w1 ⟨rfl, rfl⟩
    go_wp2_with fail
    go_ret
    exact ⟨ret_bool HV.out.symm, Below.refl _ _⟩
  have hn := inB_spec.1 hin
  obtain ⟨g, rfl, -⟩ := hA 0 (by omega)
  have hg : g < w.heap.size := by
    obtain ⟨g', hg', h1, -⟩ := hA 0 (by omega)
    cases hg'
    exact World.block_lt_of_cell? w _ h1
  have HP := Lib.hid (fun (W : World) (hb : Below w.heap.size w W) => all_any g c L W (pts_of (ptsA_on hA hb)) (Nat.lt_of_lt_of_le hg hb.size) hL)
  have HK := Lib.hid (fun (W : World) (hb : Below w.heap.size w W) => keep_any (some ⟨g, 0, none⟩) c L W (ptsA_on hA hb) (by omega) (by omega))
  cases hok : allOk L
  · have HV : Hid (polyB L = false) := by
      show _ = _
      rw [polyB, hin, hok]; rfl
    rw [hok] at HP
    clear hA HK
    go_enter Try.func68, Try.ntmps68
    go_wp2_with fail
    refine (from_any _ _ _ _).mono ?_
    rintro e w1 ⟨rfl, rfl⟩
    go_wp2_with fail
    refine (HP.out _ (Below.refl _ _)).mono ?_
    rintro e w2 ⟨rfl, hb2⟩
    go_wp2_with fail
    go_ret
    exact ⟨ret_bool HV.out.symm, hb2⟩
  · have HV : Hid (polyB L = keepB L) := by
      show _ = _
      rw [keep_eq hin hok, polyB, hin, hok]
      simp only [Bool.true_and]
    rw [hok] at HP
    clear hA
    go_enter Try.func68, Try.ntmps68
    go_wp2_with fail
    refine (from_any _ _ _ _).mono ?_
    rintro e w1 ⟨rfl, rfl⟩
    go_wp2_with fail
    refine (HP.out _ (Below.refl _ _)).mono ?_
    rintro e w2 ⟨rfl, hb2⟩
    go_wp2_with fail
    refine (HK.out _ hb2).mono ?_
    rintro e w3 ⟨rfl, hb3⟩
    go_wp2_with fail
    go_ret
    exact ⟨ret_bool HV.out.symm, hb2.trans (hb3.mono hb2.size)⟩
end Go.Proofs.Ytimkknljoeiceaa
