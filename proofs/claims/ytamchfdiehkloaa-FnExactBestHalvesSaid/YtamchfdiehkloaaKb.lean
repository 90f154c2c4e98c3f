/-
  Walks and facts of this seat, part Kb (merged by a script of this repo out of smaller texts).
-/
import Derived.Test.YtamchfdiehkloaaKa
import Derived.Laws.MakeOwn
import Derived.WalkSpells
import Derived.RegionTactic
import Derived.OwnWalk
/-! Keep -/
namespace Go.Proofs.Ytamchfdiehkloaa
open Go.RowKit Go.Shelf Go.Sort
attribute [local go_sem] Oper.semAt_some

theorem ownFrom_keepP {β : Type} {m B M : Nat} {W0 : World} (hm : m ≤ W0.heap.size) (hB : B < W0.heap.size) (hM : W0.heap.size ≤ M) : OwnFrom M (fun (_ : β) W => KeepP m B W0 W) :=
  fun _ X Y row hs hg hr => by
    have hX : B < X.heap.size := Nat.lt_of_lt_of_le hB hs.1.size
    refine keepP_t hs ⟨(Below.refl m X).grown hg (Nat.le_trans hm hs.1.size) (fun k e => by have := (hr k e).1; omega), hg.block B hX (fun e => by have := (hr _ e.symm).1; omega)⟩
theorem boxed_side {W W' : World} {B : Nat} {L : List (Int × Int)} {i : Nat} (h : SideAt W B L i) (hb : Below W.heap.size W W') : SideAt W' B L i := (hb.block B h.lt).trans h
theorem boxed_same {W W' : World} {B : Nat} {t : TypeId} {v : Value} (h : Boxed W B t v) (hb : W'.heap[B]? = W.heap[B]?) : Boxed W' B t v := hb.trans h

/-- How the sides i < k of n have to meet. -/
def needI (i k n : Int) : Int := bif wrap64 (k - i) == 1 || wrap64 (k - i) == n - 1 then 1 else 0
theorem need_any (i k n : Int) (w : World) (hn : 0 ≤ n ∧ n ≤ 100) :
    Calls Try.prog 163 #[.int .i64 i, .int .i64 k, .int .i64 n] w fun e w' => e = .returned (.int .i64 (needI i k n)) ∧ w' = w := by
  obtain ⟨d, hd⟩ : ∃ d, d = wrap64 (k - i) := ⟨_, rfl⟩
  have HV : Hid (needI i k n = bif d == 1 || d == n - 1 then 1 else 0) := by
    show _ = _
    rw [hd]; rfl
  have hd2 : wrap64 (k - i) = d := hd.symm
  clear hd
  cases h1 : (d == 1)
  · cases h2 : (d == n - 1)
    all_goals
      rw [h1, h2] at HV
      go_enter Try.func163, Try.ntmps163
      go_wp2_with fail
      go_ret
      exact ⟨ret_int (by rw [HV.out]; rfl), rfl⟩
  · rw [h1] at HV
    go_enter Try.func163, Try.ntmps163
    go_wp2_with fail
    go_ret
    exact ⟨ret_int (by rw [HV.out]; rfl), rfl⟩

theorem need_below (i k n : Int) (w : World) (hn : 0 ≤ n ∧ n ≤ 100) :
    Calls Try.prog 163 #[.int .i64 i, .int .i64 k, .int .i64 n] w fun e w' => e = .returned (.int .i64 (needI i k n)) ∧ Below w.heap.size w w' :=
  (need_any i k n w hn).mono fun _ _ ⟨he, hw⟩ => ⟨he, by rw [hw]; exact Below.refl _ _⟩
theorem meet_pt (a b c d : Int × Int) (w : World) :
    Calls Try.prog 162 #[(.agg #[.int .i64 a.1, .int .i64 a.2]), (.agg #[.int .i64 b.1, .int .i64 b.2]), (.agg #[.int .i64 c.1, .int .i64 c.2]), (.agg #[.int .i64 d.1, .int .i64 d.2])] w fun e w' => e = .returned (.int .i64 (meetV a b c d)) ∧ Below w.heap.size w w' :=
  impl_meet a.1 a.2 b.1 b.2 c.1 c.2 d.1 d.2 w

theorem pts_of {w : World} {g : Nat} {L : List (Int × Int)} (h : PtsA w (some ⟨g, 0, none⟩) L) : Pts w g L := fun k hk => by
  have := gt_cells h hk
  rw [gt_at hk] at this
  exact this

def cellB (L : List (Int × Int)) (i k : Nat) : Bool := !(decide (i < k)) || (meetV (gt L i) (gt L (nx L i)) (gt L k) (gt L (nx L k)) == needI i k L.length)
def rowB (L : List (Int × Int)) (i : Nat) : Bool := (List.range L.length).all (cellB L i)
def keepB (L : List (Int × Int)) : Bool := (List.range L.length).all (rowB L)

set_option maxRecDepth 100000 in
set_option maxHeartbeats 8000000 in
theorem keep_any (A : Option Addr) (c : Nat) (L : List (Int × Int)) (w : World) (hA : PtsA w A L) (h1 : 1 ≤ L.length) (h2 : L.length ≤ 100) :
    Calls Try.prog 116 #[.slice A L.length c] w fun e w' => e = .returned (.bool (keepB L)) ∧ Below w.heap.size w w' := by
  refine (callsIn_wide (n := 9)).1 ?_
  refine callsIn_of_wp_marks Try.func116 rfl trivial ?_ rfl
  simp only [Try.ntmps116, List.size_toArray, List.length_cons, List.length_nil, Nat.reduceAdd, Nat.reduceSub, Array.replicate_succ, Array.replicate_zero, List.push_toArray, List.append_toArray, List.nil_append, List.cons_append]
  gi_wp2
  refine ⟨trivial, (wide0.calls (sides_any A L.length c _)).mono ?_⟩
  rintro e w2 ⟨rfl, rfl⟩
  gi_wp2
  have bP := ((Boxed.new w 23 (.slice A L.length c)).alloc (.cells #[.bool false] 4)).alloc (.cells #[.slice A L.length c] 23)
  have bR := (Boxed.new (w.alloc (.cells #[.slice A L.length c] 23)) 4 (.bool false)).alloc (.cells #[.slice A L.length c] 23)
  have bS := Boxed.new ((w.alloc (.cells #[.slice A L.length c] 23)).alloc (.cells #[.bool false] 4)) 23 (.slice A L.length c)
  simp only [World.size_alloc] at bR bS
  have hB0 : Below w.heap.size w (((w.alloc (.cells #[.slice A L.length c] 23)).alloc (.cells #[.bool false] 4)).alloc (.cells #[.slice A L.length c] 23)) := below3 _ _ _ _
  have hsz : (((w.alloc (.cells #[.slice A L.length c] 23)).alloc (.cells #[.bool false] 4)).alloc (.cells #[.slice A L.length c] 23)).heap.size = w.heap.size + 3 := by simp
  obtain ⟨W0, hW0⟩ : ∃ W0, ((w.alloc (.cells #[.slice A L.length c] 23)).alloc (.cells #[.bool false] 4)).alloc (.cells #[.slice A L.length c] 23) = W0 := ⟨_, rfl⟩
  rw [hW0] at bP bR bS hB0 hsz ⊢
  clear hW0
  refine wpIn_rangeFunc_ownH rfl (by decide) (gf := 118) (lb := #[.pointer (some ⟨w.heap.size + 1 + 1, 0, none⟩)]) rfl trivial (enters_of Try.func118 (by kernel_rfl) rfl)
    (sides_stops 8 (w.heap.size + 1 + 1) A c L w W0 (by omega) (by omega) hA hB0 (by omega) bS.cell) keepP_t (keepP_b (by omega) (by omega)) (Below.refl _ _) (fun _ => rfl)
    (fun pre W => ((((∀ i ∈ pre, rowB L i = true) ∧ Boxed W (w.heap.size + 1) 4 (.bool false)) ∧ Boxed W w.heap.size 23 (.slice A L.length c)) ∧ Boxed W (w.heap.size + 1 + 1) 23 (.slice A L.length c)) ∧ Below w.heap.size w W)
    (fun co pre W => ((co = .ret ∧ ∃ i ∈ pre, rowB L i = false) ∧ Boxed W (w.heap.size + 1) 4 (.bool false)) ∧ Below w.heap.size w W)
    (OwnFrom.and (OwnFrom.and (OwnFrom.and (OwnFrom.and (ownFrom_pure _ _) (Own.from (boxed_own _ _ _) _)) (Own.from (boxed_own _ _ _) _)) (Own.from (boxed_own _ _ _) _)) (ownFrom_below (Nat.le_refl _) (by omega)))
    (fun co => OwnFrom.and (OwnFrom.and (ownFrom_pure _ _) (Own.from (boxed_own _ _ _) _)) (ownFrom_below (Nat.le_refl _) (by omega)))
    ⟨⟨⟨⟨by simp, bR⟩, bP⟩, bS⟩, hB0⟩
    (fun x a' W => ∃ Bi Bs, (w.heap.size + 1 + 1 < Bi ∧ Bi < Bs) ∧ Boxed W Bi 3 (.int .i64 (x : Int)) ∧ SideAt W Bs L x ∧ a' = { tmps := #[.slice A L.length c, .pointer (some ⟨w.heap.size, 0, none⟩), .pointer (some ⟨w.heap.size + 1, 0, none⟩), .pointer (some ⟨Bi, 0, none⟩), .pointer (some ⟨Bs, 0, none⟩), undef, undef, .slice A L.length c, .func (.func 118) #[] #[.pointer (some ⟨w.heap.size + 1 + 1, 0, none⟩)], .int .i64 (x : Int), .agg #[.int .i64 (gt L x).1, .int .i64 (gt L x).2, .int .i64 (gt L (nx L x)).1, .int .i64 (gt L (nx L x)).2], undef, undef, undef, undef, undef, undef, undef, undef, undef, undef, undef, undef, undef, undef, undef, undef, undef, undef, undef, undef, undef, undef, undef, undef], defers := [] })
    (fun x a' _ X Y row hs hg hr => by obtain ⟨Bi, Bs, e1, e2, e3, e4⟩ := hs; exact ⟨Bi, Bs, e1, boxed_own Bi 3 (fun (_ : Unit) => Value.int .i64 (x : Int)) () X Y row e2 hg (fun r e => (hr r e).2), sideAt_own Bs L x _ () X Y row e3 hg hr, e4⟩)
    ?assign ?body ?done ?stop
  case assign =>
    rintro l pre x W K ⟨⟨⟨⟨hp, bR1⟩, bP1⟩, bS1⟩, hB1⟩ hK
    simp only [sideV]
    gi_wp2
    have hs2 := hB1.size
    have hb2 := below2 W (.cells #[.int .i64 (x : Int)] 3) (.cells #[.int .i64 (gt L x).1, .int .i64 (gt L x).2, .int .i64 (gt L (nx L x)).1, .int .i64 (gt L (nx L x)).2] 71)
    exact hK _ _ (keepsFrom_below hb2) (KeepP.of_below hb2 hs2 bS1.lt) ⟨⟨⟨⟨hp, boxed_on bR1 hb2⟩, boxed_on bP1 hb2⟩, boxed_on bS1 hb2⟩, hB1.trans (hb2.mono hs2)⟩
      ⟨W.heap.size, W.heap.size + 1, ⟨bS1.lt, by omega⟩, (Boxed.new W 3 _).alloc _, by have := sideAt_new (W.alloc (.cells #[.int .i64 (x : Int)] 3)) L x; rwa [World.size_alloc] at this, rfl⟩
  case body =>
    rintro l pre x a' W hl ⟨r, hr⟩ ⟨⟨⟨⟨hp, bR1⟩, bP1⟩, bS1⟩, hB1⟩ ⟨Bi, Bs, ⟨hBi, hBs⟩, bI, sX, rfl⟩ hlt
    have cP := bP1.cell
    gi_wp2
    refine ⟨trivial, ((wideR l).calls (sides_any A L.length c _)).mono ?_⟩
    rintro e w' ⟨rfl, rfl⟩
    gi_wp2
    have hsW := hB1.size
    have bN := Boxed.new W 23 (.slice A L.length c)
    have hr' : (W.alloc (.cells #[.slice A L.length c] 23)).heap[l]? = some (.loop r) := (Below.heap_alloc W _ l (Array.getElem?_eq_some_iff.1 hr).1).trans hr
    have hS1 := bS1.lt
    have hW1 := below1 W (.cells #[.slice A L.length c] 23)
    refine wpIn_rangeFunc_ownN (l₀ := l) (r₀ := r) rfl hr' (by decide) (gf := 118) (lb := #[.pointer (some ⟨W.heap.size, 0, none⟩)]) rfl trivial (enters_of Try.func118 (by kernel_rfl) rfl)
      ((sides_stops 6 W.heap.size A c L w _ (by omega) (by omega) hA (hB1.trans (hW1.mono hsW)) (by simp) bN.cell).inRound l) keepP_t (keepP_b (by simp; omega) (by simp)) (Below.refl _ _) (fun _ => rfl)
      (fun pre' W' => (((((∀ k ∈ pre', cellB L x k = true) ∧ Boxed W' (w.heap.size + 1) 4 (.bool false)) ∧ Boxed W' w.heap.size 23 (.slice A L.length c)) ∧ Boxed W' Bi 3 (.int .i64 (x : Int))) ∧ (Boxed W' W.heap.size 23 (.slice A L.length c) ∧ SideAt W' Bs L x)) ∧ (KeepP w.heap.size (w.heap.size + 1 + 1) W W' ∧ KeepsFrom W0.heap.size W W'))
      (fun co pre' W' => ((co = .ret ∧ ∃ k ∈ pre', cellB L x k = false) ∧ Boxed W' (w.heap.size + 1) 4 (.bool false)) ∧ (KeepP w.heap.size (w.heap.size + 1 + 1) W W' ∧ KeepsFrom W0.heap.size W W'))
      (OwnFrom.and (OwnFrom.and (OwnFrom.and (OwnFrom.and (OwnFrom.and (ownFrom_pure _ _) (Own.from (boxed_own _ _ _) _)) (Own.from (boxed_own _ _ _) _)) (Own.from (boxed_own _ _ _) _)) (OwnFrom.and (Own.from (boxed_own _ _ _) _) (fun s X Y row hs hg hr => sideAt_own Bs L x _ () X Y row hs hg hr))) (OwnFrom.and (ownFrom_keepP hsW hS1 (by simp)) (ownFrom_keepsFrom (by simp))))
      (fun co => OwnFrom.and (OwnFrom.and (ownFrom_pure _ _) (Own.from (boxed_own _ _ _) _)) (OwnFrom.and (ownFrom_keepP hsW hS1 (by simp)) (ownFrom_keepsFrom (by simp))))
      ⟨⟨⟨⟨⟨by simp, bR1.alloc _⟩, bP1.alloc _⟩, bI.alloc _⟩, bN, boxed_side sX hW1⟩, KeepP.of_below hW1 hsW hS1, keepsFrom_below hW1⟩
      (fun y a'' W' => ∃ Bt, W.heap.size < Bt ∧ SideAt W' Bt L y ∧ a'' = { tmps := #[.slice A L.length c, .pointer (some ⟨w.heap.size, 0, none⟩), .pointer (some ⟨w.heap.size + 1, 0, none⟩), .pointer (some ⟨Bi, 0, none⟩), .pointer (some ⟨Bs, 0, none⟩), .int .i64 (y : Int), .pointer (some ⟨Bt, 0, none⟩), .slice A L.length c, .func (.func 118) #[] #[.pointer (some ⟨w.heap.size + 1 + 1, 0, none⟩)], .int .i64 (x : Int), .agg #[.int .i64 (gt L x).1, .int .i64 (gt L x).2, .int .i64 (gt L (nx L x)).1, .int .i64 (gt L (nx L x)).2], .slice A L.length c, .func (.func 118) #[] #[.pointer (some ⟨W.heap.size, 0, none⟩)], .int .i64 (y : Int), .agg #[.int .i64 (gt L y).1, .int .i64 (gt L y).2, .int .i64 (gt L (nx L y)).1, .int .i64 (gt L (nx L y)).2], undef, undef, undef, undef, undef, undef, undef, undef, undef, undef, undef, undef, undef, undef, undef, undef, undef, undef, undef, undef], defers := [] })
      (fun y a'' _ X Y row hs hg hr => by obtain ⟨Bt, e1, e2, e3⟩ := hs; exact ⟨Bt, e1, sideAt_own Bt L y _ () X Y row e2 hg hr, e3⟩)
      ?assign2 ?body2 ?done2 ?stop2
    case assign2 =>
      rintro l2 pre' y W' K ⟨⟨⟨⟨⟨hq, bR2⟩, bP2⟩, bI2⟩, bN2, sX2⟩, hKP, hKF⟩ hK
      simp only [sideV]
      gi_wp2
      have hb2 := below1 W' (.cells #[.int .i64 (gt L y).1, .int .i64 (gt L y).2, .int .i64 (gt L (nx L y)).1, .int .i64 (gt L (nx L y)).2] 71)
      have hs2 := hKP.1.size
      exact hK _ _ (keepsFrom_below hb2) (KeepP.of_below hb2 (by omega) bN2.lt) ⟨⟨⟨⟨⟨hq, bR2.alloc _⟩, bP2.alloc _⟩, bI2.alloc _⟩, bN2.alloc _, boxed_side sX2 hb2⟩, keepP_t hKP (KeepP.of_below hb2 (by omega) (by omega)), hKF.trans (keepsFrom_below hb2)⟩
        ⟨W'.heap.size, bN2.lt, sideAt_new W' L y, rfl⟩
    case body2 =>
      rintro l2 pre' y a'' W' - - ⟨⟨⟨⟨⟨hq, bR2⟩, bP2⟩, bI2⟩, bN2, sX2⟩, hKP, hKF⟩ ⟨Bt, hBt, sY2, rfl⟩ -
      have cR := bR2.cell
      have fR := bR2.frozen
      have cI := bI2.cell
      have cP2 := bP2.cell
      obtain ⟨x0, x1, x2, x3⟩ := sX2.cells
      obtain ⟨y0, y1, y2, y3⟩ := sY2.cells
      have HC : Hid (cellB L x y = (!(decide (x < y)) || (meetV (gt L x) (gt L (nx L x)) (gt L y) (gt L (nx L y)) == needI x y L.length))) := rfl
      obtain ⟨mv, hmv⟩ : ∃ mv, mv = meetV (gt L x) (gt L (nx L x)) (gt L y) (gt L (nx L y)) := ⟨_, rfl⟩
      obtain ⟨nv, hnv⟩ : ∃ nv, nv = needI x y L.length := ⟨_, rfl⟩
      have HM := Lib.hid (fun W => meet_pt (gt L x) (gt L (nx L x)) (gt L y) (gt L (nx L y)) W)
      have HN := Lib.hid (fun W => need_below (x : Int) (y : Int) (L.length : Int) W (by omega))
      rw [← hmv] at HC HM
      rw [← hnv] at HC HN
      clear hmv hnv
      have k0 := cell_regrown x0; have k1 := cell_regrown x1; have k2 := cell_regrown x2; have k3 := cell_regrown x3
      have k4 := cell_regrown y0; have k5 := cell_regrown y1; have k6 := cell_regrown y2; have k7 := cell_regrown y3
      have k8 := cell_regrown cI; have k9 := cell_regrown cP2
      by_cases hxy : x < y
      · have dxy : decide ((x : Int) < (y : Int)) = true := by simpa using hxy
        rw [decide_eq_true hxy, Bool.not_true, Bool.false_or] at HC
        by_cases hmn : mv = nv
        · subst hmn
          have HT : Hid (cellB L x y = true) := by
            show _ = _
            rw [HC.out]; simp
          clear HC
          gi_wp2
          refine region_quiet_in (wideR l2) (by kernel_rfl) (by kernel_rfl) (by kernel_rfl) ?_
          repeat (first
            | go_big_quiet_step (first | exact Calls.regrown_of (HM.out _) | exact Calls.regrown_of (HN.out _))
            | quiet_step (first | exact Calls.regrown_of (HM.out _) | exact Calls.regrown_of (HN.out _)))
          refine wpQuiet_nil ?_
          rintro _ ⟨⟨dq, osq⟩, rfl⟩
          have hg := below_regrown W' dq osq
          have hs2 := hKP.1.size
          clear k0 k1 k2 k3 k4 k5 k6 k7 k8 k9
          generalize grow (redrawn W' dq) osq = W2 at *
          gi_wp2
          exact ⟨keepsFrom_below hg, KeepP.of_below hg (by omega) bN2.lt, ⟨⟨⟨⟨fun z hz => (List.mem_append.1 hz).elim (hq z) (fun e => by simp at e; subst e; exact HT.out), boxed_on bR2 hg⟩, boxed_on bP2 hg⟩, boxed_on bI2 hg⟩, boxed_on bN2 hg, boxed_side sX2 hg⟩,
            keepP_t hKP (KeepP.of_below hg (by omega) (by omega)), hKF.trans (keepsFrom_below hg)⟩
        · have HT : Hid (cellB L x y = false) := by
            show _ = _
            rw [HC.out]; simpa using hmn
          have dmn : (mv != nv) = true := by simpa using hmn
          clear HC
          gi_wp2
          refine region_quiet_in (wideR l2) (by kernel_rfl) (by kernel_rfl) (by kernel_rfl) ?_
          repeat (first
            | go_big_quiet_step (first | exact Calls.regrown_of (HM.out _) | exact Calls.regrown_of (HN.out _))
            | quiet_step (first | exact Calls.regrown_of (HM.out _) | exact Calls.regrown_of (HN.out _)))
          refine wpQuiet_nil ?_
          rintro _ ⟨⟨dq, osq⟩, rfl⟩
          have hg := below_regrown W' dq osq
          have hs2 := hKP.1.size
          clear k0 k1 k2 k3 k4 k5 k6 k7 k8 k9
          have bR3 := boxed_on bR2 hg
          generalize grow (redrawn W' dq) osq = W2 at *
          have cR3 := bR3.cell
          have fR3 := bR3.frozen
          gi_wp2
          exact ⟨(keepsFrom_below hg).trans ((KeepsOthers.setCell _ _ _).from _), ⟨⟨rfl, y, List.mem_append.2 (.inr (by simp)), HT.out⟩, bR3.set _⟩,
            keepP_t hKP ((KeepP.of_below hg (by omega) (by omega)).setCell (by omega) (by omega) _ _), hKF.trans ((keepsFrom_below hg).trans ((KeepsOthers.setCell _ _ _).from _))⟩
      · have dxy : decide ((x : Int) < (y : Int)) = false := by simpa using hxy
        have HT : Hid (cellB L x y = true) := by
          show _ = _
          rw [HC.out, decide_eq_false hxy]; rfl
        clear HC
        gi_wp2
        refine region_quiet_in (wideR l2) (by kernel_rfl) (by kernel_rfl) (by kernel_rfl) ?_
        repeat (first
          | go_big_quiet_step (first | exact Calls.regrown_of (HM.out _) | exact Calls.regrown_of (HN.out _))
          | quiet_step (first | exact Calls.regrown_of (HM.out _) | exact Calls.regrown_of (HN.out _)))
        refine wpQuiet_nil ?_
        rintro _ ⟨⟨dq, osq⟩, rfl⟩
        have hg := below_regrown W' dq osq
        have hs2 := hKP.1.size
        clear k0 k1 k2 k3 k4 k5 k6 k7 k8 k9
        generalize grow (redrawn W' dq) osq = W2 at *
        gi_wp2
        exact ⟨keepsFrom_below hg, KeepP.of_below hg (by omega) bN2.lt, ⟨⟨⟨⟨fun z hz => (List.mem_append.1 hz).elim (hq z) (fun e => by simp at e; subst e; exact HT.out), boxed_on bR2 hg⟩, boxed_on bP2 hg⟩, boxed_on bI2 hg⟩, boxed_on bN2 hg, boxed_side sX2 hg⟩,
          keepP_t hKP (KeepP.of_below hg (by omega) (by omega)), hKF.trans (keepsFrom_below hg)⟩
    case done2 =>
      rintro ys' W' rfl ⟨⟨⟨⟨⟨hq, bR2⟩, bP2⟩, bI2⟩, bN2, sX2⟩, hKP, hKF⟩
      gi_wp2
      have hrow : rowB L x = true := by
        simp only [rowB, List.all_eq_true]
        exact hq
      exact ⟨hKF, hKP, ⟨⟨⟨⟨fun z hz => (List.mem_append.1 hz).elim (hp z) (fun e => by simp at e; subst e; exact hrow), bR2⟩, bP2⟩, boxed_same bS1 hKP.2⟩, hB1.trans hKP.1⟩⟩
    case stop2 =>
      rintro co pre' W' ⟨k, hk, rfl⟩ ⟨⟨⟨rfl, j, hj, hjb⟩, bR2⟩, hKP, hKF⟩
      gi_wp2
      have hrow : rowB L x = false := by
        simp only [rowB, List.all_eq_false]
        exact ⟨j, by simp only [List.mem_range] at hj ⊢; omega, by rw [hjb]; exact Bool.false_ne_true⟩
      exact ⟨hKF, ⟨⟨rfl, x, List.mem_append.2 (.inr (by simp)), hrow⟩, bR2⟩, hB1.trans hKP.1⟩
  case done =>
    rintro D zs W hD rfl ⟨⟨⟨⟨hp, bR1⟩, bP1⟩, bS1⟩, hB1⟩ hK
    have cR := bR1.cell
    have fR := bR1.frozen
    gi_wp2
    have hK' := (KeepsOthers.setCell W ⟨w.heap.size + 1, 0, none⟩ (.bool true)).same D _ hK rfl
    refine ⟨by simp, .inl ⟨_, _, rfl, run_takeDeferred hK', ?_⟩⟩
    have hc5 := cell_kept (bR1.set (.bool true)).cell (grownBy_putObj' _ D (.deferred none)) (fun r e => by cases e; exact ⟨_, hK', rfl⟩)
    have hkeep : keepB L = true := by
      simp only [keepB, List.all_eq_true]
      exact hp
    refine ⟨.bool true, ?_, by rw [hkeep], (hB1.setCell (p := ⟨w.heap.size + 1, 0, none⟩) (by simp) _).trans (belowK_b (w := w) (Nat.le_refl _) _ D _ _ (by omega) hK' rfl rfl)⟩
    simp [results, Try.f116, go_sem, hc5]
  case stop =>
    rintro D co pre W hD ⟨k, hk, rfl⟩ ⟨⟨⟨rfl, j, hj, hjb⟩, bR1⟩, hB1⟩ hK
    gi_wp2
    refine ⟨by simp, .inl ⟨_, _, rfl, run_takeDeferred hK, ?_⟩⟩
    have hc5 := cell_kept bR1.cell (grownBy_putObj' _ D (.deferred none)) (fun r e => by cases e; exact ⟨_, hK, rfl⟩)
    have hkeep : keepB L = false := by
      simp only [keepB, List.all_eq_false]
      exact ⟨j, by simp only [List.mem_range] at hj ⊢; omega, by rw [hjb]; exact Bool.false_ne_true⟩
    refine ⟨.bool false, ?_, by rw [hkeep], hB1.trans (belowK_b (w := w) (Nat.le_refl _) _ D _ _ (by omega) hK rfl rfl)⟩
    simp [results, Try.f116, go_sem, hc5]

theorem need_adj {i k n : Nat} (h1 : i < k) (h2 : k < n) (hn : n ≤ 100) : needI i k n = bif adjB n i k then 1 else 0 := by
  have e : wrap64 ((k : Int) - i) = (k : Int) - i := IntWalk.wrap64_in _ (by omega)
  have e1 : ((k : Int) - i == 1 || (k : Int) - i == n - 1) = adjB n i k := by
    rw [Bool.eq_iff_iff]
    simp only [adjB, Bool.or_eq_true, Bool.and_eq_true, beq_iff_eq]
    omega
  rw [needI, e, e1]
theorem meetV_ok {L : List (Int × Int)} (hok : allOk L = true) (i k : Nat) :
    meetV (gt L i) (gt L (nx L i)) (gt L k) (gt L (nx L k)) = bif !(eqQ (gt L i) (gt L (nx L i))) && !(eqQ (gt L k) (gt L (nx L k))) then pairM L i k else 0 := by
  have h := fun j => gt_ok hok j
  unfold meetV okQ
  rw [h i, h (nx L i), h k, h (nx L k)]
  rfl
theorem keep_eq {L : List (Int × Int)} (hin : inB (L.length : Int) 3 10 = true) (hok : allOk L = true) : keepB L = (nbB L && pairsB L) := by
  have hn := inB_spec.1 hin
  rw [Bool.eq_iff_iff]
  simp only [Bool.and_eq_true]
  constructor
  · intro hk
    have hc : ∀ i k, i < k → k < L.length → meetV (gt L i) (gt L (nx L i)) (gt L k) (gt L (nx L k)) = bif adjB L.length i k then 1 else 0 := fun i k h1 h2 => by
      have h3 := List.all_eq_true.1 hk i (List.mem_range.2 (by omega))
      have h4 := List.all_eq_true.1 h3 k (List.mem_range.2 h2)
      unfold cellB at h4
      rw [decide_eq_true h1, Bool.not_true, Bool.false_or, beq_iff_eq, need_adj h1 h2 (by omega)] at h4
      exact h4
    have hnb : ∀ i, i < L.length → eqQ (gt L i) (gt L (nx L i)) = false := fun i hi => by
      cases he : eqQ (gt L i) (gt L (nx L i))
      · rfl
      · rcases Nat.lt_or_ge (i + 1) L.length with h | h
        · have := hc i (i + 1) (by omega) h
          rw [meetV_ok hok, he] at this
          simp [adjB] at this
        · have h0 : i = L.length - 1 := by omega
          have := hc 0 i (by omega) hi
          rw [meetV_ok hok, he] at this
          simp [adjB, h0] at this
    refine ⟨nb_true hnb, pairs_true fun i hi k hik hk => ?_⟩
    have := hc i k hik hk
    rw [meetV_ok hok, hnb i hi, hnb k hk] at this
    simp only [Bool.not_false, Bool.and_self, cond_true] at this
    unfold pairOk
    rw [this]
    cases adjB L.length i k <;> rfl
  · rintro ⟨h1, h2⟩
    have hnb : ∀ i, i < L.length → eqQ (gt L i) (gt L (nx L i)) = false := fun i hi => by
      have := List.all_eq_true.1 h1 i (List.mem_range.2 hi)
      show eqQ (gt L i) (gt L ((i + 1) % L.length)) = false
      simpa using this
    simp only [keepB, List.all_eq_true, List.mem_range]
    intro i hi
    simp only [rowB, List.all_eq_true, List.mem_range]
    intro k hk
    unfold cellB
    by_cases hik : i < k
    · rw [decide_eq_true hik, Bool.not_true, Bool.false_or, beq_iff_eq, need_adj hik hk (by omega), meetV_ok hok, hnb i hi, hnb k hk]
      simp only [Bool.not_false, Bool.and_self, cond_true]
      have h3 := List.all_eq_true.1 (List.all_eq_true.1 h2 i (List.mem_range.2 hi)) k (List.mem_range.2 hk)
      simp only [Bool.or_eq_true, decide_eq_true_eq] at h3
      rcases h3 with h3 | h3
      · omega
      · unfold pairOk at h3
        cases ha : adjB L.length i k
        · rw [ha] at h3; simpa using h3
        · rw [ha] at h3; simpa using h3
    · rw [decide_eq_false hik]; rfl

set_option maxRecDepth 100000 in
set_option maxHeartbeats 800000 in
theorem impl_poly (A : Option Addr) (c : Nat) (L : List (Int × Int)) (w : World) (hA : PtsA w A L) (hL : L.length ≤ 1048576) :
    Calls Try.prog 66 #[.slice A L.length c] w fun e w' => e = .returned (.bool (polyB L)) ∧ Below w.heap.size w w' := by
  cases hin : inB (L.length : Int) 3 10
  · have HV : Hid (polyB L = false) := by
      show _ = _
      rw [polyB, hin]; rfl
    go_enter Try.func66, Try.ntmps66
    go_wp2_with fail
    refine (from_any _ _ _ _).mono ?_
    rintro e w1 ⟨rfl, rfl⟩
    go_wp2_with fail
    go_ret
    exact ⟨ret_bool HV.out.symm, Below.refl _ _⟩
  have hn := inB_spec.1 hin
  obtain ⟨g, rfl, -⟩ := hA 0 (by omega)
  have hg : g < w.heap.size := by
    obtain ⟨g', hg', h1, -⟩ := hA 0 (by omega)
    cases hg'
    exact World.block_lt_of_cell? w _ h1
  have HP := Lib.hid (fun (W : World) (hb : Below w.heap.size w W) => all_any g c L W (pts_of (ptsA_on hA hb)) (Nat.lt_of_lt_of_le hg hb.size) hL)
  have HK := Lib.hid (fun (W : World) (hb : Below w.heap.size w W) => keep_any (some ⟨g, 0, none⟩) c L W (ptsA_on hA hb) (by omega) (by omega))
  cases hok : allOk L
  · have HV : Hid (polyB L = false) := by
      show _ = _
      rw [polyB, hin, hok]; rfl
    rw [hok] at HP
    clear hA HK
    go_enter Try.func66, Try.ntmps66
    go_wp2_with fail
    refine (from_any _ _ _ _).mono ?_
    rintro e w1 ⟨rfl, rfl⟩
    go_wp2_with fail
    refine (HP.out _ (Below.refl _ _)).mono ?_
    rintro e w2 ⟨rfl, hb2⟩
    go_wp2_with fail
    go_ret
    exact ⟨ret_bool HV.out.symm, hb2⟩
  · have HV : Hid (polyB L = keepB L) := by
      show _ = _
      rw [keep_eq hin hok, polyB, hin, hok]
      simp only [Bool.true_and]
    rw [hok] at HP
    clear hA
    go_enter Try.func66, Try.ntmps66
    go_wp2_with fail
    refine (from_any _ _ _ _).mono ?_
    rintro e w1 ⟨rfl, rfl⟩
    go_wp2_with fail
    refine (HP.out _ (Below.refl _ _)).mono ?_
    rintro e w2 ⟨rfl, hb2⟩
    go_wp2_with fail
    refine (HK.out _ hb2).mono ?_
    rintro e w3 ⟨rfl, hb3⟩
    go_wp2_with fail
    go_ret
    exact ⟨ret_bool HV.out.symm, hb2.trans (hb3.mono hb2.size)⟩
end Go.Proofs.Ytamchfdiehkloaa

/-! Rim -/
namespace Go.Proofs.Ytamchfdiehkloaa
open Go.RowKit

def onRim (L : List (Int × Int)) (p : Int × Int) : Bool := (List.range L.length).any fun i => onP (gt L i) (gt L (nx L i)) p
theorem onRim_true {L : List (Int × Int)} {p : Int × Int} {i : Nat} (hi : i < L.length) (h : onP (gt L i) (gt L (nx L i)) p = true) : onRim L p = true := by
  simp only [onRim, List.any_eq_true, List.mem_range]
  exact ⟨i, hi, h⟩
theorem onRim_false {L : List (Int × Int)} {p : Int × Int} (h : ∀ i, i < L.length → onP (gt L i) (gt L (nx L i)) p = false) : onRim L p = false := by
  cases hb : onRim L p
  · rfl
  · simp only [onRim, List.any_eq_true, List.mem_range] at hb
    obtain ⟨i, hi, h2⟩ := hb
    rw [h i hi] at h2; cases h2
/-- Does the side from corner i on flip what is inside at p? -/
def flipT (L : List (Int × Int)) (p : Int × Int) (i : Nat) : Bool :=
  (decide (p.2 < (gt L i).2) != decide (p.2 < (gt L (nx L i)).2)) && ((decide ((gt L i).2 < (gt L (nx L i)).2) && decide (0 < crossP (gt L i) (gt L (nx L i)) p)) || (decide ((gt L (nx L i)).2 < (gt L i).2) && decide (crossP (gt L i) (gt L (nx L i)) p < 0)))
def insT (f : Nat → Bool) : Nat → Bool
  | 0 => false
  | k + 1 => bif f k then !(insT f k) else insT f k
def insideB (L : List (Int × Int)) (p : Int × Int) : Bool := onRim L p || insT (flipT L p) L.length
end Go.Proofs.Ytamchfdiehkloaa

/-! Turn -/
namespace Go.Proofs.Ytamchfdiehkloaa
open Go.RowKit

/-- The first corner and then m of the others, from the last one back. -/
def turnTill (L : List (Int × Int)) (m : Nat) : List (Int × Int) := gt L 0 :: (List.range m).map fun (j : Nat) => gt L (L.length - 1 - j)
def turnL (L : List (Int × Int)) : List (Int × Int) := turnTill L (L.length - 1)
theorem turn_step (L : List (Int × Int)) (m : Nat) : turnTill L (m + 1) = turnTill L m ++ [gt L (L.length - 1 - m)] := by
  simp [turnTill, List.range_succ]
theorem turn_len (L : List (Int × Int)) (m : Nat) : (turnTill L m).length = m + 1 := by simp [turnTill]
def turnV (L : List (Int × Int)) : List (Int × Int) := bif polyB L then turnL L else []
/-- A function that hands back a new list of points. -/
def Lists (w : World) (M : List (Int × Int)) (e : Ending) (w' : World) : Prop := ∃ v, e = .returned v ∧ w'.ownsRow w.heap.size 30 2 v M.length (flat M) ∧ Below w.heap.size w w'
set_option maxRecDepth 100000 in
set_option maxHeartbeats 2000000 in
theorem turn_any (A : Option Addr) (c : Nat) (L : List (Int × Int)) (w : World) (hA : PtsA w A L) (h1 : 1 ≤ L.length) (h2 : L.length ≤ 1000) :
    Calls Try.prog 110 #[.slice A L.length c] w (Lists w (turnL L)) := by
  obtain ⟨g, rfl, -⟩ := hA 0 h1
  obtain ⟨c1, c2⟩ := gt_cells hA h1
  simp only [Nat.zero_mul, Nat.zero_add] at c1 c2
  have HA := Lib.hid hA; clear hA
  obtain ⟨i0, hi0, hz0, hz1, hz2⟩ := info_parts infoPt
  have own0 := World.ownsRow_lit (base := w.heap.size) (e := 30) (size := 2) w #[.int .i64 (gt L 0).1, .int .i64 (gt L 0).2] 1 (Nat.le_refl _) (by decide) rfl
  have b0 := below1 w (.cells #[.int .i64 (gt L 0).1, .int .i64 (gt L 0).2] 30)
  have hM0 : Hid ([((gt L 0).1, (gt L 0).2)] = turnTill L 0) := rfl
  generalize (gt L 0).1 = x0 at *
  generalize (gt L 0).2 = y0 at *
  have f1 : wrap64 ((L.length : Int) - 1) = ((L.length - 1 : Nat) : Int) := by rw [IntWalk.wrap64_in _ (by omega)]; omega
  have f2 : (L.length : Int) - 1 = ((L.length - 1 : Nat) : Int) := by omega
  go_enter Try.func110, Try.ntmps110
  go_wp2_with fail
  clear c1 c2 f1 f2
  go_loopw [3, 4] (fun s i wr => ∃ (q g5 cap : Nat) (M : List (Int × Int)), q ≤ L.length - 1 ∧ i = .int .i64 q ∧ s = .slice (some ⟨g5, 0, none⟩) M.length cap ∧ Hid (M = turnTill L (L.length - 1 - q)) ∧ wr.ownsRow w.heap.size 30 2 (.slice (some ⟨g5, 0, none⟩) M.length cap) M.length (flat M) ∧ Below w.heap.size w wr) (fun _ i _ => (intOf i).toNat)
  case atStart => exact ⟨L.length - 1, w.heap.size, 1, [(x0, y0)], Nat.le_refl _, by first | rfl | go_num, rfl, by rw [Nat.sub_self]; exact hM0, own0, b0⟩
  case round =>
    obtain ⟨wo, rfl⟩ : ∃ wo : World, wo = wr := ⟨_, rfl⟩
    clear own0 b0
    obtain ⟨q, g5, cap, M, hq, rfl, rfl, HM, hown, hb⟩ := hrel
    by_cases hlt : 0 < q
    · obtain ⟨c1, c2⟩ := gt_cells (ptsA_on HA.out hb) (i := q) (by omega)
      have hML : M.length ≤ 1000 := by rw [HM.out, turn_len]; omega
      have HM2 : Hid (M ++ [((gt L q).1, (gt L q).2)] = turnTill L (L.length - 1 - (q - 1))) := by
        show _ = _
        have e1 : L.length - 1 - (q - 1) = (L.length - 1 - q) + 1 := by omega
        have e2 : L.length - 1 - (L.length - 1 - q) = q := by omega
        rw [e1, turn_step, e2, HM.out]
      clear HM
      generalize (gt L q).1 = x at *
      generalize (gt L q).2 = y at *
      have hp1 : (q : Int) < (L.length : Int) := by omega
      have hsz := hb.size
      have f3 : wrap64 ((q : Int) - 1) = ((q - 1 : Nat) : Int) := by rw [IntWalk.wrap64_in _ (by omega)]; omega
      have f4 : (q : Int) - 1 = ((q - 1 : Nat) : Int) := by omega
      go_wp2_with (at_builtin; refine wpList_append_lies _ rfl _ _ 23 rfl w.heap.size 30 i0 (.agg #[.int .i64 0, .int .i64 0]) 2 16 Try.underlying23 hi0 hz0 hz1 hz2 rfl (by decide) _ _ _ rfl (hown.alloc _) ⟨wo.heap.size, 0, none⟩ 1 1 [.int .i64 x, .int .i64 y] rfl rfl ?d1 ?d2 (by omega) ?d3 ?d4 ?d5 (wo.heap.size + 1) (by simp) ?_)
      case d1 => exact World.news_of_block (cs := #[.int .i64 x, .int .i64 y]) (t := 30) (fr := (0, 0)) (heap_alloc_new wo _)
      case d2 => simp [Value.oneCell']
      case d3 => unfold maxLen; omega
      case d4 => omega
      case d5 => simp; omega
      intro g6 cp6 w6 own6 hgrow _ _
      have hr := fun k hk => (hown.lt k hk).1
      have HN : Hid ((M ++ [(x, y)]).length = M.length + 1) := by simp [Hid]
      have R : Hid (w6.ownsRow w.heap.size 30 2 (.slice (some ⟨g6, 0, none⟩) (M ++ [(x, y)]).length cp6) (M ++ [(x, y)]).length (flat (M ++ [(x, y)])) ∧ Below w.heap.size w w6) :=
        ⟨by rw [flat_append, HN.out]; exact own6, (hb.alloc hb.size _).grown hgrow (by simp; omega) hr⟩
      clear hown own6 hgrow hb c1 c2
      go_wp2_with fail
      first
        | exact ⟨⟨q - 1, g6, cp6, M ++ [(x, y)], by omega, by first | rfl | go_num, by rw [HN.out], HM2, R.out.1, R.out.2⟩, by simp [intOf]; omega⟩
        | (go_roundw
           case rel => exact ⟨q - 1, g6, cp6, M ++ [(x, y)], by omega, by first | rfl | go_num, by rw [HN.out], HM2, R.out.1, R.out.2⟩
           case measure => simp [intOf]; omega)
    · have HQ : Hid (M = turnL L) := by
        show _ = _
        rw [HM.out, show q = 0 from by omega]; rfl
      have R := Lib.hid hown
      clear hown HM
      go_wp2_with fail
      go_ret
      exact ⟨_, rfl, by rw [← HQ.out]; exact R.out, hb⟩
end Go.Proofs.Ytamchfdiehkloaa

/-! In -/
namespace Go.Proofs.Ytamchfdiehkloaa
open Go.RowKit

def insideV (L : List (Int × Int)) (p : Int × Int) : Bool := polyB L && okQ p && insideB L p
/-- The corner before. -/
def pv (L : List (Int × Int)) (i : Nat) : Nat := (i + L.length - 1) % L.length
def bentB (L : List (Int × Int)) (i : Nat) : Bool := !(crossP (gt L (pv L i)) (gt L i) (gt L (nx L i)) == 0)
def straightTill (L : List (Int × Int)) : Nat → List (Int × Int)
  | 0 => []
  | k + 1 => bif bentB L k then straightTill L k ++ [gt L k] else straightTill L k
def straightL (L : List (Int × Int)) : List (Int × Int) := straightTill L L.length
theorem straight_len (L : List (Int × Int)) : ∀ k, (straightTill L k).length ≤ k
  | 0 => Nat.le_refl _
  | k + 1 => by
    have := straight_len L k
    simp only [straightTill]
    cases bentB L k <;> simp <;> omega
def straightV (L : List (Int × Int)) : List (Int × Int) := bif polyB L then straightL L else []
set_option maxHeartbeats 4000000 in
set_option maxRecDepth 100000 in
theorem straight_any (A : Option Addr) (c : Nat) (L : List (Int × Int)) (w : World) (hA : PtsA w A L) (h1 : 1 ≤ L.length) (h2 : L.length ≤ 10) (hok : allOk L = true) :
    Calls Try.prog 125 #[.slice A L.length c] w (Lists w (straightL L)) := by
  obtain ⟨g, rfl, -⟩ := hA 0 h1
  have HA := Lib.hid hA; have HOK := Lib.hid hok
  clear hA hok
  obtain ⟨i0, hi0, hz0, hz1, hz2⟩ := info_parts infoPt
  have own0 := World.ownsRow_lit (base := w.heap.size) (e := 30) (size := 2) w #[] 0 (Nat.le_refl _) (by decide) rfl
  have b0 := below1 w (.cells #[] 30)
  go_enter Try.func125, Try.ntmps125
  go_wp2_with fail
  go_loopw [3, 5, 6, 12] (fun s _ _ i wr => ∃ (k g5 cap : Nat) (M : List (Int × Int)), k ≤ L.length ∧ i = .int .i64 k ∧ s = .slice (some ⟨g5, 0, none⟩) M.length cap ∧ Hid (M = straightTill L k) ∧ wr.ownsRow w.heap.size 30 2 (.slice (some ⟨g5, 0, none⟩) M.length cap) M.length (flat M) ∧ Below w.heap.size w wr) (fun _ _ _ i _ => L.length - (intOf i).toNat)
  case atStart => exact ⟨0, w.heap.size, 0, [], Nat.zero_le _, rfl, rfl, rfl, own0, b0⟩
  case round =>
    obtain ⟨wo, rfl⟩ : ∃ wo : World, wo = wr := ⟨_, rfl⟩
    clear own0 b0
    obtain ⟨k, g5, cap, M, hk, rfl, rfl, HM, hown, hb⟩ := hrel
    by_cases hlt : k < L.length
    · obtain ⟨hr, hrl⟩ := next_int (i := k) h1
      have hpl : (k + L.length - 1) % L.length < L.length := Nat.mod_lt _ (by omega)
      have hpr : Int.tmod ((k : Int) + (L.length : Int) - 1) (L.length : Int) = (((k + L.length - 1) % L.length : Nat) : Int) := by
        have : (k : Int) + (L.length : Int) - 1 = ((k + L.length - 1 : Nat) : Int) := by omega
        rw [this, tmod_nat]
      have hap := ptsA_on HA.out hb
      obtain ⟨c1, c2⟩ := gt_cells hap hlt
      obtain ⟨c3, c4⟩ := gt_cells hap hrl
      obtain ⟨c5, c6⟩ := gt_cells hap hpl
      have HCR := Lib.hid (fun w => crossS_on _ _ _ _ _ _ w (all_at HOK.out hpl) (all_at HOK.out hlt) (all_at HOK.out hrl))
      have HBE : Hid (bentB L k = !(crossP ((gt L ((k + L.length - 1) % L.length)).1, (gt L ((k + L.length - 1) % L.length)).2) ((gt L k).1, (gt L k).2) ((gt L ((k + 1) % L.length)).1, (gt L ((k + 1) % L.length)).2) == 0)) := rfl
      have HST : Hid (straightTill L (k + 1) = bif bentB L k then M ++ [((gt L k).1, (gt L k).2)] else M) := by
        show _ = _
        rw [HM.out]; rfl
      have hML : M.length ≤ 10 := by rw [HM.out]; have := straight_len L k; omega
      clear hap HM
      generalize (k + 1) % L.length = r at *
      generalize (k + L.length - 1) % L.length = t at *
      generalize (gt L k).1 = x at *
      generalize (gt L k).2 = y at *
      generalize (gt L r).1 = x' at *
      generalize (gt L r).2 = y' at *
      generalize (gt L t).1 = x'' at *
      generalize (gt L t).2 = y'' at *
      generalize crossP (x'', y'') (x, y) (x', y') = C at *
      have f1 : IntKind.i64.wrap ((k : Int) + 1) = (k : Int) + 1 := IntWalk.i64_in _ (by omega)
      have f2 : IntKind.i64.wrap ((k : Int) + (L.length : Int)) = (k : Int) + (L.length : Int) := IntWalk.i64_in _ (by omega)
      have f3 : IntKind.i64.wrap ((k : Int) + (L.length : Int) - 1) = (k : Int) + (L.length : Int) - 1 := IntWalk.i64_in _ (by omega)
      have f4 : IntKind.i64.wrap (r : Int) = (r : Int) := IntWalk.i64_in _ (by omega)
      have f5 : IntKind.i64.wrap (t : Int) = (t : Int) := IntWalk.i64_in _ (by omega)
      have hp1 : (r : Int) < (L.length : Int) := by omega
      have hp2 : (0 : Int) ≤ (r : Int) := by omega
      have hp3 : (t : Int) < (L.length : Int) := by omega
      have hp4 : (0 : Int) ≤ (t : Int) := by omega
      have hne : ¬ L.length = 0 := by omega
      have hal := (Below.refl wo.heap.size wo).alloc (Nat.le_refl _) (.cells #[.int .i64 x, .int .i64 y] 30)
      have d3 := cell_on hal rfl c3; have d4 := cell_on hal rfl c4; have d5 := cell_on hal rfl c5; have d6 := cell_on hal rfl c6
      have n1 := at_new wo x y 30
      have d1 := n1.c0; have d2 := n1.c1
      have b2 := hb.alloc hb.size (.cells #[.int .i64 x, .int .i64 y] 30)
      have own2 := hown.alloc (.cells #[.int .i64 x, .int .i64 y] 30)
      have k1 := cell_regrown d1; have k2 := cell_regrown d2; have k3 := cell_regrown d3; have k4 := cell_regrown d4; have k5 := cell_regrown d5; have k6 := cell_regrown d6
      clear hal hb hown
      go_wp2_with fail
      refine wp_region_quiet_below (by kernel_rfl) (by kernel_rfl) ?_
      repeat (first
        | go_big_quiet_step (first | exact Calls.regrown_of (HCR.out _))
        | quiet_step (first | exact Calls.regrown_of (HCR.out _)))
      refine wpQuiet_nil ?_
      rintro _ ⟨⟨dq, osq⟩, rfl⟩
      have hst := below_regrown (wo.alloc (.cells #[.int .i64 x, .int .i64 y] 30)) dq osq
      have b3 := below_on b2 hst
      have own3 := own_below own2 hst
      have n3 := n1.step hst
      clear k1 k2 k3 k4 k5 k6 d1 d2 d3 d4 d5 d6 b2 own2 n1 hst c1 c2 c3 c4 c5 c6
      simp only at *
      generalize Go.Sort.grow (redrawn (wo.alloc (.cells #[.int .i64 x, .int .i64 y] 30)) dq) osq = w3 at *
      clear hr hpr f1 f2 f3 f4 f5 hp1 hp2 hp3 hp4
      cases hC : (C == 0)
      · have hC' : (C != 0) = true := by simp [bne, hC]
        have HE : Hid (M ++ [(x, y)] = straightTill L (k + 1)) := by
          show _ = _
          rw [HST.out, HBE.out, hC]; rfl
        have d1 := n3.c0; have d2 := n3.c1
        go_wp2_with (at_builtin; refine wpList_append_lies _ rfl _ _ 23 rfl w.heap.size 30 i0 (.agg #[.int .i64 0, .int .i64 0]) 2 16 Try.underlying23 hi0 hz0 hz1 hz2 rfl (by decide) _ _ _ rfl (own3.alloc _) ⟨w3.heap.size, 0, none⟩ 1 1 [.int .i64 x, .int .i64 y] rfl rfl ?d1 ?d2 (by omega) ?d3 ?d4 ?d5 (w3.heap.size + 1) (by simp) ?_)
        case d1 => exact World.news_of_block (cs := #[.int .i64 x, .int .i64 y]) (t := 30) (fr := (0, 0)) (heap_alloc_new w3 _)
        case d2 => simp [Value.oneCell']
        case d3 => unfold maxLen; omega
        case d4 => omega
        case d5 => have := b3.size; simp; omega
        intro g6 cp6 w6 own6 hgrow _ _
        have hrw := fun k hk => (own3.lt k hk).1
        have HN : Hid ((M ++ [(x, y)]).length = M.length + 1) := by simp [Hid]
        have R : Hid (w6.ownsRow w.heap.size 30 2 (.slice (some ⟨g6, 0, none⟩) (M ++ [(x, y)]).length cp6) (M ++ [(x, y)]).length (flat (M ++ [(x, y)])) ∧ Below w.heap.size w w6) :=
          ⟨by rw [flat_append, HN.out]; exact own6, (b3.alloc b3.size _).grown hgrow (by have := b3.size; simp; omega) hrw⟩
        clear own3 own6 hgrow b3 d1 d2 n3
        go_wp2_with fail
        exact ⟨⟨k + 1, g6, cp6, M ++ [(x, y)], by omega, by go_num, by rw [HN.out], HE, R.out.1, R.out.2⟩, by simp [intOf]; omega⟩
      · have hC' : (C != 0) = false := by simp [bne, hC]
        have HE : Hid (M = straightTill L (k + 1)) := by
          show _ = _
          rw [HST.out, HBE.out, hC]; rfl
        have R := Lib.hid (And.intro own3 b3)
        clear own3 b3 n3
        go_wp2_with fail
        go_roundw
        case rel => exact ⟨k + 1, g5, cap, M, by omega, by go_num, rfl, HE, R.out.1, R.out.2⟩
        case measure => simp [intOf]; omega
    · have HQ : Hid (M = straightL L) := by
        show _ = _
        rw [HM.out, show k = L.length from by omega]; rfl
      have R := Lib.hid hown
      clear hown HM
      go_wp2_with fail
      go_ret
      exact ⟨_, rfl, by rw [← HQ.out]; exact R.out, hb⟩
end Go.Proofs.Ytamchfdiehkloaa

/-! Around -/
namespace Go.Proofs.Ytamchfdiehkloaa
open Go.RowKit Go.Shelf Go.Sort
attribute [local go_sem] Oper.semAt_some

theorem at_own (g : Nat) (x y : Int) (t : TypeId) (B : Nat) : OwnFrom B (fun (_ : Unit) W => At W g x y t) := fun _ X Y row hs hg hr =>
  (hg.block g hs.lt (fun e => by
    obtain ⟨_, o, ho, hc⟩ := hr g e.symm
    rw [show X.heap[g]? = _ from hs] at ho
    cases ho; cases hc)).trans hs
def flipL (L : List (Int × Int)) (p : Int × Int) (l : List Nat) : Bool := l.foldl (fun b i => bif rightB (gt L i) (gt L (nx L i)) p then !b else b) false
theorem flipL_snoc (L : List (Int × Int)) (p : Int × Int) (l : List Nat) (x : Nat) : flipL L p (l ++ [x]) = bif rightB (gt L x) (gt L (nx L x)) p then !(flipL L p l) else flipL L p l := by simp [flipL]
theorem crossI_swap (ax ay bx by' px py : Int) : crossI bx by' ax ay px py = -(crossI ax ay bx by' px py) := by
  unfold crossI
  simp only [Int.sub_mul, Int.mul_sub, Int.neg_sub]
  simp only [Int.mul_comm]
  omega
theorem sgn_gt (n : Int) : decide (0 < sgn n) = decide (0 < n) := by
  unfold sgn
  by_cases h : 0 < n
  · simp [h]
  · by_cases h2 : n < 0 <;> simp [h, h2]
theorem right_flip (L : List (Int × Int)) (p : Int × Int) (i : Nat) : rightB (gt L i) (gt L (nx L i)) p = flipT L p i := by
  unfold rightB flipT loB crossP
  rw [crossI_swap (gt L i).1 (gt L i).2]
  generalize crossI (gt L i).1 (gt L i).2 (gt L (nx L i)).1 (gt L (nx L i)).2 p.1 p.2 = s
  generalize (gt L i).2 = ay
  generalize (gt L (nx L i)).2 = by'
  generalize p.2 = py
  rw [Bool.eq_iff_iff]
  by_cases h : by' < ay
  · have e1 : decide (by' < ay) = true := decide_eq_true h
    have e2 : decide (ay < by') = false := decide_eq_false (by omega)
    rw [e1, e2]
    simp only [cond_true, Bool.false_and, Bool.false_or, Bool.true_and, Bool.and_eq_true, decide_eq_true_eq, bne_iff_ne, ne_eq, decide_eq_decide]
    omega
  · have e1 : decide (by' < ay) = false := decide_eq_false h
    rw [e1]
    simp only [cond_false, Bool.false_and, Bool.or_false, Bool.and_eq_true, decide_eq_true_eq, bne_iff_ne, ne_eq, decide_eq_decide]
    omega
theorem flipL_range (L : List (Int × Int)) (p : Int × Int) (n : Nat) : flipL L p (List.range n) = insT (flipT L p) n := by
  induction n with
  | zero => rfl
  | succ n ih => rw [List.range_succ, flipL_snoc, ih, right_flip]; rfl
/-- Whether a ray to the right passes through an odd number of sides. -/
def aroundB (L : List (Int × Int)) (p : Int × Int) : Bool := insT (flipT L p) L.length
theorem right_pt (a b p : Int × Int) (w : World) (ha : smP a.1 a.2 = true) (hb : smP b.1 b.2 = true) (hp : smP p.1 p.2 = true) :
    Calls Try.prog 121 #[.agg #[.int .i64 a.1, .int .i64 a.2, .int .i64 b.1, .int .i64 b.2], (.agg #[.int .i64 p.1, .int .i64 p.2])] w fun e w' => e = .returned (.bool (rightB a b p)) ∧ Below w.heap.size w w' := right_sm a.1 a.2 b.1 b.2 p.1 p.2 w ha hb hp

set_option maxRecDepth 100000 in
set_option maxHeartbeats 4000000 in
theorem around_sm (A : Option Addr) (c : Nat) (L : List (Int × Int)) (p : Int × Int) (w : World) (hA : PtsA w A L) (h1 : 1 ≤ L.length) (h2 : L.length ≤ 10) (hok : ∀ i, smP (gt L i).1 (gt L i).2 = true) (hq : smP p.1 p.2 = true) :
    Calls Try.prog 74 #[.slice A L.length c, (.agg #[.int .i64 p.1, .int .i64 p.2])] w fun e w' => e = .returned (.bool (aroundB L p)) ∧ Below w.heap.size w w' := by
  refine (callsIn_wide (n := 6)).1 ?_
  refine callsIn_of_wp_marks Try.func74 rfl trivial ?_ rfl
  simp only [Try.ntmps74, List.size_toArray, List.length_cons, List.length_nil, Nat.reduceAdd, Nat.reduceSub, Array.replicate_succ, Array.replicate_zero, List.push_toArray, List.append_toArray, List.nil_append, List.cons_append]
  gi_wp2
  refine ⟨trivial, (wide0.calls (sides_any A L.length c _)).mono ?_⟩
  rintro e w3 ⟨rfl, rfl⟩
  gi_wp2
  have bX3 := ((at_new w p.1 p.2 30).alloc (.cells #[.bool false] 4)).alloc (.cells #[.slice A L.length c] 23)
  have bI := (Boxed.new (w.alloc (.cells #[.int .i64 p.1, .int .i64 p.2] 30)) 4 (.bool false)).alloc (.cells #[.slice A L.length c] 23)
  have bN := Boxed.new ((w.alloc (.cells #[.int .i64 p.1, .int .i64 p.2] 30)).alloc (.cells #[.bool false] 4)) 23 (.slice A L.length c)
  simp only [World.size_alloc] at bI bN
  have hB0 : Below w.heap.size w (((w.alloc (.cells #[.int .i64 p.1, .int .i64 p.2] 30)).alloc (.cells #[.bool false] 4)).alloc (.cells #[.slice A L.length c] 23)) := below3 _ _ _ _
  have hsz : (((w.alloc (.cells #[.int .i64 p.1, .int .i64 p.2] 30)).alloc (.cells #[.bool false] 4)).alloc (.cells #[.slice A L.length c] 23)).heap.size = w.heap.size + 3 := by simp
  obtain ⟨W0, hW0⟩ : ∃ W0, ((w.alloc (.cells #[.int .i64 p.1, .int .i64 p.2] 30)).alloc (.cells #[.bool false] 4)).alloc (.cells #[.slice A L.length c] 23) = W0 := ⟨_, rfl⟩
  rw [hW0] at bX3 bI bN hB0 hsz ⊢
  clear hW0
  refine wpIn_rangeFunc_ownH rfl (by decide) (gf := 118) (lb := #[.pointer (some ⟨w.heap.size + 1 + 1, 0, none⟩)]) rfl trivial (enters_of Try.func118 (by kernel_rfl) rfl)
    (sides_stops 5 (w.heap.size + 1 + 1) A c L w W0 (by omega) (by omega) hA hB0 (by omega) bN.cell) keepP_t (keepP_b (by omega) (by omega)) (Below.refl _ _) (fun _ => rfl)
    (fun pre W => ((Boxed W (w.heap.size + 1) 4 (.bool (flipL L p pre)) ∧ Boxed W (w.heap.size + 1 + 1) 23 (.slice A L.length c)) ∧ At W w.heap.size p.1 p.2 30) ∧ Below w.heap.size w W)
    (fun _ _ _ => False)
    (OwnFrom.and (OwnFrom.and (OwnFrom.and (Own.from (boxed_own _ _ _) _) (Own.from (boxed_own _ _ _) _)) (fun s X Y row hs hg hr => at_own _ _ _ _ _ () X Y row hs hg hr)) (ownFrom_below (Nat.le_refl _) (by omega)))
    (fun _ => ownFrom_pure _ (fun _ => False))
    ⟨⟨⟨bI, bN⟩, bX3⟩, hB0⟩
    (fun x a' W => ∃ Bx, w.heap.size + 1 + 1 < Bx ∧ SideAt W Bx L x ∧ a' = { tmps := #[.slice A L.length c, .agg #[.int .i64 p.1, .int .i64 p.2], undef, .pointer (some ⟨w.heap.size, 0, none⟩), .bool false, .pointer (some ⟨w.heap.size + 1, 0, none⟩), undef, .pointer (some ⟨Bx, 0, none⟩), .slice A L.length c, .func (.func 118) #[] #[.pointer (some ⟨w.heap.size + 1 + 1, 0, none⟩)], .int .i64 (x : Int), .agg #[.int .i64 (gt L x).1, .int .i64 (gt L x).2, .int .i64 (gt L (nx L x)).1, .int .i64 (gt L (nx L x)).2], undef, undef, undef, undef, undef, undef], defers := [] })
    (fun x a' _ X Y row hs hg hr => by obtain ⟨Bx, e1, e2, e3⟩ := hs; exact ⟨Bx, e1, sideAt_own Bx L x _ () X Y row e2 hg hr, e3⟩)
    ?assign ?body ?done ?stop
  case assign =>
    rintro l pre x W K ⟨⟨⟨bI4, bN4⟩, bX4⟩, hB4⟩ hK
    simp only [sideV]
    gi_wp2
    have hs4 := hB4.size
    have hb := below1 W (.cells #[.int .i64 (gt L x).1, .int .i64 (gt L x).2, .int .i64 (gt L (nx L x)).1, .int .i64 (gt L (nx L x)).2] 71)
    exact hK _ _ (keepsFrom_below hb) (KeepP.of_below hb hs4 bN4.lt) ⟨⟨⟨boxed_on bI4 hb, boxed_on bN4 hb⟩, bX4.step hb⟩, hB4.trans (hb.mono hs4)⟩ ⟨W.heap.size, bN4.lt, sideAt_new W L x, rfl⟩
  case body =>
    rintro l pre x a' W hl - ⟨⟨⟨bI5, bN5⟩, bX5⟩, hB5⟩ ⟨Bx, hBx, sX, rfl⟩ hlt
    have hs5 := hB5.size
    have HR := Lib.hid (fun W => right_pt (gt L x) (gt L (nx L x)) p W (hok _) (hok _) hq)
    have HF := Lib.hid (flipL_snoc L p pre x)
    obtain ⟨x0, x1, x2, x3⟩ := sX.cells
    have c0 := bX5.c0; have c1 := bX5.c1
    gi_wp2
    refine ⟨trivial, ((wideR l).calls (HR.out _)).mono ?_⟩
    rintro e W6 ⟨rfl, hb6⟩
    have hB6 := hB5.trans (hb6.mono hs5)
    have bI6 := boxed_on bI5 hb6
    have bN6 := boxed_on bN5 hb6
    have bX6 := bX5.step hb6
    have hK6 := KeepP.of_below hb6 hs5 bN5.lt
    have hF6 := keepsFrom_below (B := W0.heap.size) hb6
    clear hb6 hB5 bI5 bN5 bX5 sX x0 x1 x2 x3 c0 c1
    have cI := bI6.cell
    have fI := bI6.frozen
    generalize flipL L p pre = fb at *
    cases hr : rightB (gt L x) (gt L (nx L x)) p
    · rw [hr] at HF
      gi_wp2
      exact ⟨hF6, hK6, ⟨⟨by rw [HF.out]; exact bI6, bN6⟩, bX6⟩, hB6⟩
    · rw [hr] at HF
      gi_wp2
      exact ⟨hF6.trans ((KeepsOthers.setCell _ _ _).from _), hK6.setCell (by omega) (by omega) _ _, ⟨⟨by rw [HF.out]; exact bI6.set _, bN6.other (by omega) _⟩, at_set bX6 (by omega) _ _⟩, hB6.setCell (p := ⟨w.heap.size + 1, 0, none⟩) (by simp) _⟩
  case done =>
    rintro D zs W hD rfl ⟨⟨⟨bI4, bN4⟩, bX4⟩, hB4⟩ hK
    have cI := bI4.cell
    have HF := Lib.hid (flipL_range L p L.length)
    gi_wp2
    refine ⟨by simp, .inl ⟨_, _, rfl, run_takeDeferred hK, ?_⟩⟩
    exact ⟨_, results_tmp rfl _ _ _, by rw [HF.out]; rfl, hB4.trans (belowK_b (w := w) (Nat.le_refl _) W D _ _ (by omega) hK rfl rfl)⟩
  case stop =>
    rintro D k pre W hD hpre h hK
    exact h.elim
end Go.Proofs.Ytamchfdiehkloaa

/-! Inside -/
namespace Go.Proofs.Ytamchfdiehkloaa
open Go.RowKit Go.Shelf Go.Sort
attribute [local go_sem] Oper.semAt_some

def onQ (a b p : Int × Int) : Bool := onV a.1 a.2 b.1 b.2 p.1 p.2
theorem onQ_ok {a b p : Int × Int} (ha : okP a.1 a.2 = true) (hb : okP b.1 b.2 = true) (hp : okP p.1 p.2 = true) : onQ a b p = onP a b p := by
  unfold onQ onV onP
  rw [ha, hb, hp]; rfl
theorem crossV_ok {ax ay bx by' px py : Int} (ha : okP ax ay = true) (hb : okP bx by' = true) (hp : okP px py = true) : crossV ax ay bx by' px py = crossI ax ay bx by' px py := by
  unfold crossV
  rw [ha, hb, hp]; rfl
theorem on_pt (a b p : Int × Int) (w : World) :
    Calls Try.prog 73 #[(.agg #[.int .i64 a.1, .int .i64 a.2]), (.agg #[.int .i64 b.1, .int .i64 b.2]), (.agg #[.int .i64 p.1, .int .i64 p.2])] w fun e w' => e = .returned (.bool (onQ a b p)) ∧ Below w.heap.size w w' := impl_on a.1 a.2 b.1 b.2 p.1 p.2 w
set_option maxRecDepth 100000 in
set_option maxHeartbeats 4000000 in
theorem impl_inside_yes (A : Option Addr) (c : Nat) (L : List (Int × Int)) (p : Int × Int) (w : World) (hA : PtsA w A L) (hp : polyB L = true) (hq : okP p.1 p.2 = true) :
    Calls Try.prog 17 #[.slice A L.length c, (.agg #[.int .i64 p.1, .int .i64 p.2])] w fun e w' => e = .returned (.bool (insideB L p)) ∧ Below w.heap.size w w' := by
  obtain ⟨h3, h10, hok⟩ := polyB_all hp
  refine (callsIn_wide (n := 6)).1 ?_
  refine callsIn_of_wp_marks Try.func17 rfl trivial ?_ rfl
  simp only [Try.ntmps17, List.size_toArray, List.length_cons, List.length_nil, Nat.reduceAdd, Nat.reduceSub, Array.replicate_succ, Array.replicate_zero, List.push_toArray, List.append_toArray, List.nil_append, List.cons_append]
  have PC := Lib.hid (fun (W : World) (hb : Below w.heap.size w W) => impl_poly A c L W (ptsA_on hA hb) (by omega))
  rw [hp] at PC
  have bX := at_new w p.1 p.2 30
  have hB0 := below2 w (.cells #[.int .i64 p.1, .int .i64 p.2] 30) (.cells #[.bool false] 4)
  gi_wp2
  refine ⟨trivial, (wide0.calls (PC.out _ hB0)).mono ?_⟩
  rintro e w1 ⟨rfl, hb1⟩
  have hB1 := hB0.trans (hb1.mono hB0.size)
  have bX1 := (bX.alloc (.cells #[.bool false] 4)).step hb1
  have bR1 := boxed_on (Boxed.new (w.alloc (.cells #[.int .i64 p.1, .int .i64 p.2] 30)) 4 (.bool false)) hb1
  simp only [size_alloc] at bR1
  have hs1 : w.heap.size + 2 ≤ w1.heap.size := by have := hb1.size; simp at this; omega
  have c0 := bX1.c0; have c1 := bX1.c1
  clear hb1 bX hB0
  gi_wp2
  refine ⟨trivial, (wide0.calls (impl_ok p.1 p.2 w1)).mono ?_⟩
  rintro e w2 ⟨rfl, hb2⟩
  rw [hq]
  have hB2 := hB1.trans (hb2.mono hB1.size)
  have bX2 := bX1.step hb2
  have bR2 := boxed_on bR1 hb2
  have hs2 : w.heap.size + 2 ≤ w2.heap.size := by have := hb2.size; omega
  have c0 := bX2.c0; have c1 := bX2.c1
  clear hb2 hB1 bX1 bR1 hs1
  gi_wp2
  refine ⟨trivial, (wide0.calls (sides_any A L.length c _)).mono ?_⟩
  rintro e w3 ⟨rfl, rfl⟩
  gi_wp2
  have bX3 := bX2.alloc (.cells #[.slice A L.length c] 23)
  have bR3 := bR2.alloc (.cells #[.slice A L.length c] 23)
  have bN := Boxed.new w2 23 (.slice A L.length c)
  have hB0 : Below w.heap.size w (w2.alloc (.cells #[.slice A L.length c] 23)) := hB2.alloc (by omega) _
  have hsz : (w2.alloc (.cells #[.slice A L.length c] 23)).heap.size = w2.heap.size + 1 := by simp
  obtain ⟨W0, hW0⟩ : ∃ W0, w2.alloc (.cells #[.slice A L.length c] 23) = W0 := ⟨_, rfl⟩
  rw [hW0] at bX3 bR3 bN hB0 hsz ⊢
  clear hW0 c0 c1
  refine wpIn_rangeFunc_ownH rfl (by decide) (gf := 118) (lb := #[.pointer (some ⟨w2.heap.size, 0, none⟩)]) rfl trivial (enters_of Try.func118 (by kernel_rfl) rfl)
    (sides_stops 5 w2.heap.size A c L w W0 (by omega) (by omega) hA hB0 (by omega) bN.cell) keepP_t (keepP_b (by omega) (by omega)) (Below.refl _ _) (fun _ => rfl)
    (fun pre W => ((((∀ i ∈ pre, onQ (gt L i) (gt L (nx L i)) p = false) ∧ Boxed W (w.heap.size + 1) 4 (.bool false)) ∧ Boxed W w2.heap.size 23 (.slice A L.length c)) ∧ At W w.heap.size p.1 p.2 30) ∧ Below w.heap.size w W)
    (fun co pre W => ((co = .ret ∧ ∃ i ∈ pre, onQ (gt L i) (gt L (nx L i)) p = true) ∧ Boxed W (w.heap.size + 1) 4 (.bool true)) ∧ Below w.heap.size w W)
    (OwnFrom.and (OwnFrom.and (OwnFrom.and (OwnFrom.and (ownFrom_pure _ _) (Own.from (boxed_own _ _ _) _)) (Own.from (boxed_own _ _ _) _)) (fun s X Y row hs hg hr => at_own _ _ _ _ _ () X Y row hs hg hr)) (ownFrom_below (Nat.le_refl _) (by omega)))
    (fun co => OwnFrom.and (OwnFrom.and (ownFrom_pure _ _) (Own.from (boxed_own _ _ _) _)) (ownFrom_below (Nat.le_refl _) (by omega)))
    ⟨⟨⟨⟨by simp, bR3⟩, bN⟩, bX3⟩, hB0⟩
    (fun x a' W => ∃ Bx, w2.heap.size < Bx ∧ SideAt W Bx L x ∧ a' = { tmps := #[.slice A L.length c, .agg #[.int .i64 p.1, .int .i64 p.2], undef, .pointer (some ⟨w.heap.size, 0, none⟩), .pointer (some ⟨w.heap.size + 1, 0, none⟩), undef, .pointer (some ⟨Bx, 0, none⟩), .slice A L.length c, .bool true, .bool false, .bool false, .agg #[.int .i64 p.1, .int .i64 p.2], .bool true, .bool false, .bool false, .slice A L.length c, .func (.func 118) #[] #[.pointer (some ⟨w2.heap.size, 0, none⟩)], .int .i64 (x : Int), .agg #[.int .i64 (gt L x).1, .int .i64 (gt L x).2, .int .i64 (gt L (nx L x)).1, .int .i64 (gt L (nx L x)).2], undef, undef, undef, undef, undef, undef, undef, undef, undef], defers := [] })
    (fun x a' _ X Y row hs hg hr => by obtain ⟨Bx, e1, e2, e3⟩ := hs; exact ⟨Bx, e1, sideAt_own Bx L x _ () X Y row e2 hg hr, e3⟩)
    ?assign ?body ?done ?stop
  case assign =>
    rintro l pre x W K ⟨⟨⟨⟨hq1, bR4⟩, bN4⟩, bX4⟩, hB4⟩ hK
    simp only [sideV]
    gi_wp2
    have hs4 := hB4.size
    have hb := below1 W (.cells #[.int .i64 (gt L x).1, .int .i64 (gt L x).2, .int .i64 (gt L (nx L x)).1, .int .i64 (gt L (nx L x)).2] 71)
    exact hK _ _ (keepsFrom_below hb) (KeepP.of_below hb hs4 bN4.lt) ⟨⟨⟨⟨hq1, boxed_on bR4 hb⟩, boxed_on bN4 hb⟩, bX4.step hb⟩, hB4.trans (hb.mono hs4)⟩ ⟨W.heap.size, bN4.lt, sideAt_new W L x, rfl⟩
  case body =>
    rintro l pre x a' W hl - ⟨⟨⟨⟨hq1, bR4⟩, bN4⟩, bX4⟩, hB4⟩ ⟨Bx, hBx, sX, rfl⟩ hlt
    have hs4 := hB4.size
    have HO := Lib.hid (fun W => on_pt (gt L x) (gt L (nx L x)) p W)
    obtain ⟨x0, x1, x2, x3⟩ := sX.cells
    have c0 := bX4.c0; have c1 := bX4.c1
    cases hon : onQ (gt L x) (gt L (nx L x)) p
    · rw [hon] at HO
      have HN : Hid (∀ i ∈ pre ++ [x], onQ (gt L i) (gt L (nx L i)) p = false) := fun z hz => (List.mem_append.1 hz).elim (hq1 z) (fun e => by simp at e; subst e; exact hon)
      clear hon hq1
      gi_wp2
      refine ⟨trivial, ((wideR l).calls (HO.out _)).mono ?_⟩
      rintro e W5 ⟨rfl, hb5⟩
      gi_wp2
      exact ⟨keepsFrom_below (B := W0.heap.size) hb5, KeepP.of_below hb5 hs4 bN4.lt, ⟨⟨⟨HN.out, boxed_on bR4 hb5⟩, boxed_on bN4 hb5⟩, bX4.step hb5⟩, hB4.trans (hb5.mono hs4)⟩
    · rw [hon] at HO
      gi_wp2
      refine ⟨trivial, ((wideR l).calls (HO.out _)).mono ?_⟩
      rintro e W5 ⟨rfl, hb5⟩
      have hB5 := hB4.trans (hb5.mono hs4)
      have bR5 := boxed_on bR4 hb5
      have cR := bR5.cell
      have fR := bR5.frozen
      gi_wp2
      exact ⟨(keepsFrom_below hb5).trans ((KeepsOthers.setCell _ _ _).from _), ⟨⟨rfl, x, List.mem_append.2 (.inr (by simp)), hon⟩, bR5.set _⟩, hB5.setCell (p := ⟨w.heap.size + 1, 0, none⟩) (by simp) _⟩
  case done =>
    rintro D zs W hD rfl ⟨⟨⟨⟨hq1, bR4⟩, bN4⟩, bX4⟩, hB4⟩ hK
    have c0 := bX4.c0; have c1 := bX4.c1
    have HR := Lib.hid (around_sm A c L p W (ptsA_on hA hB4) (by omega) h10 (fun i => smP_ok (gt_ok hok i)) (smP_ok hq))
    have hv : insideB L p = aroundB L p := by
      rw [insideB, onRim_false (fun i hi => by rw [← onQ_ok (gt_ok hok i) (gt_ok hok (nx L i)) hq]; exact hq1 i (List.mem_range.2 hi)), Bool.false_or]; rfl
    generalize aroundB L p = fb at *
    gi_wp2
    refine ⟨trivial, (wide0.calls HR.out).mono ?_⟩
    rintro e W5 ⟨rfl, hb5⟩
    have hB5 := hB4.trans (hb5.mono hB4.size)
    have bR5 := boxed_on bR4 hb5
    have cR := bR5.cell
    have fR := bR5.frozen
    have hK5 := (hb5.block D (Array.getElem?_eq_some_iff.1 hK).1).trans hK
    gi_wp2
    have hK' := (KeepsOthers.setCell W5 ⟨w.heap.size + 1, 0, none⟩ (.bool fb)).same D _ hK5 rfl
    refine ⟨by simp, .inl ⟨_, _, rfl, run_takeDeferred hK', ?_⟩⟩
    have hc5 := cell_kept (bR5.set (.bool fb)).cell (grownBy_putObj' _ D (.deferred none)) (fun r e => by cases e; exact ⟨_, hK', rfl⟩)
    refine ⟨.bool fb, ?_, by rw [hv], (hB5.setCell (p := ⟨w.heap.size + 1, 0, none⟩) (by simp) _).trans (belowK_b (w := w) (Nat.le_refl _) _ D _ _ (by omega) hK' rfl rfl)⟩
    simp [results, Try.f17, go_sem, hc5]
  case stop =>
    rintro D co pre W hD ⟨k, hk, rfl⟩ ⟨⟨⟨rfl, j, hj, hjb⟩, bR1⟩, hB1⟩ hK
    gi_wp2
    refine ⟨by simp, .inl ⟨_, _, rfl, run_takeDeferred hK, ?_⟩⟩
    have hc5 := cell_kept bR1.cell (grownBy_putObj' _ D (.deferred none)) (fun r e => by cases e; exact ⟨_, hK, rfl⟩)
    refine ⟨.bool true, ?_, ?_, hB1.trans (belowK_b (w := w) (Nat.le_refl _) _ D _ _ (by omega) hK rfl rfl)⟩
    · simp [results, Try.f17, go_sem, hc5]
    · rw [onQ_ok (gt_ok hok j) (gt_ok hok (nx L j)) hq] at hjb
      rw [insideB, onRim_true (i := j) (by simp only [List.mem_range] at hj; omega) hjb]; rfl

theorem impl_inside (A : Option Addr) (c : Nat) (L : List (Int × Int)) (px py : Int) (w : World) (hA : PtsA w A L) (hL : L.length ≤ 1048576) :
    Calls Try.prog 17 #[.slice A L.length c, (.agg #[.int .i64 px, .int .i64 py])] w fun e w' => e = .returned (.bool (insideV L (px, py))) ∧ Below w.heap.size w w' := by
  cases hp : polyB L
  · have HV : Hid (insideV L (px, py) = false) := by
      show _ = _
      rw [insideV, hp]; rfl
    have PC := Lib.hid (fun (W : World) (hb : Below w.heap.size w W) => impl_poly A c L W (ptsA_on hA hb) hL)
    rw [hp] at PC
    have hB0 := below2 w (.cells #[.int .i64 px, .int .i64 py] 30) (.cells #[.bool false] 4)
    go_enter Try.func17, Try.ntmps17
    go_wp2_with fail
    refine (PC.out _ hB0).mono ?_
    rintro e w1 ⟨rfl, hb1⟩
    have bR1 := boxed_on (Boxed.new (w.alloc (.cells #[.int .i64 px, .int .i64 py] 30)) 4 (.bool false)) hb1
    simp only [size_alloc] at bR1
    have hB1 := hB0.trans (hb1.mono hB0.size)
    have cR := bR1.cell
    have fR := bR1.frozen
    clear hb1 hB0
    go_wp2_with fail
    have cR' := (bR1.set (.bool false)).cell
    refine bodyPost_ret (v := .bool false) (by simp [results, Try.results17, go_sem, cR']) rfl ⟨ret_bool HV.out.symm, hB1.setCell (p := ⟨w.heap.size + 1, 0, none⟩) (by simp) _⟩
  · cases hq : okP px py
    · have HV : Hid (insideV L (px, py) = false) := by
        show _ = _
        rw [insideV, hp, okQ_pair, hq]; rfl
      have PC := Lib.hid (fun (W : World) (hb : Below w.heap.size w W) => impl_poly A c L W (ptsA_on hA hb) hL)
      rw [hp] at PC
      have hB0 := below2 w (.cells #[.int .i64 px, .int .i64 py] 30) (.cells #[.bool false] 4)
      have bX := at_new w px py 30
      go_enter Try.func17, Try.ntmps17
      go_wp2_with fail
      refine (PC.out _ hB0).mono ?_
      rintro e w1 ⟨rfl, hb1⟩
      have bX1 := (bX.alloc (.cells #[.bool false] 4)).step hb1
      have bR1 := boxed_on (Boxed.new (w.alloc (.cells #[.int .i64 px, .int .i64 py] 30)) 4 (.bool false)) hb1
      simp only [size_alloc] at bR1
      have hB1 := hB0.trans (hb1.mono hB0.size)
      have c0 := bX1.c0; have c1 := bX1.c1
      clear hb1 hB0 bX
      go_wp2_with fail
      refine (impl_ok px py w1).mono ?_
      rintro e w2 ⟨rfl, hb2⟩
      rw [hq]
      have bR2 := boxed_on bR1 hb2
      have hB2 := hB1.trans (hb2.mono hB1.size)
      have cR := bR2.cell
      have fR := bR2.frozen
      clear hb2 hB1 bR1
      go_wp2_with fail
      have cR' := (bR2.set (.bool false)).cell
      refine bodyPost_ret (v := .bool false) (by simp [results, Try.results17, go_sem, cR']) rfl ⟨ret_bool HV.out.symm, hB2.setCell (p := ⟨w.heap.size + 1, 0, none⟩) (by simp) _⟩
    · have hv : insideV L (px, py) = insideB L (px, py) := by rw [insideV, hp, okQ_pair, hq]; rfl
      rw [hv]
      exact impl_inside_yes A c L (px, py) w hA hp hq
end Go.Proofs.Ytamchfdiehkloaa

/-! Straight -/
namespace Go.Proofs.Ytamchfdiehkloaa
open Go.RowKit Go.Shelf Go.Sort
attribute [local go_sem] Oper.semAt_some

theorem at_frozen {W : World} {g : Nat} {x y : Int} {t : TypeId} (h : At W g x y t) (o : Nat) : W.frozen? ⟨g, o, none⟩ = false := by simp [World.frozen?, show W.heap[g]? = _ from h]
theorem side_kept {W W' : World} {g B k : Nat} {L : List (Int × Int)} {i : Nat} {v : Value} {xs : List Value} (h : SideAt W g L i) (hg : W.grownBy W' v.ownBlock) (hr : W.ownsRow B 30 2 v k xs) : SideAt W' g L i := by
  refine (hg.block g h.lt ?_).trans h
  rcases hr.2 with ⟨rfl, _⟩ | ⟨g', cap, cur, rfl, _, hgb, _⟩
  · simp [Value.ownBlock]
  · intro e
    obtain rfl : g = g' := by simpa [Value.ownBlock] using e
    have := (show W.heap[g]? = _ from h).symm.trans hgb
    simp at this
theorem side_set {W : World} {b G : Nat} {L : List (Int × Int)} {i : Nat} (h : SideAt W G L i) (hne : G ≠ b) (o : Nat) (v : Value) : SideAt (W.setCell ⟨b, o, none⟩ v) G L i := (Below.heap_setCell W ⟨b, o, none⟩ v G hne).trans h
theorem hrow_other {W : World} {B b k : Nat} {e : TypeId} {size : Nat} {v : Value} {xs : List Value} (h : W.ownsRow B e size v k xs) (o : Nat) (hb : b < B) (u : Value) : (W.setCell ⟨b, o, none⟩ u).ownsRow B e size v k xs :=
  h.kept (only_set (World.grownBy.refl W (some b)) o u) (by
    cases hv : v.ownBlock with
    | none => exact .inl rfl
    | some q => exact .inr (fun e => by simp only [Option.some.injEq] at e; have := (h.lt q hv).1; omega))
theorem box_set {W : World} {B b : Nat} {t : TypeId} {v : Value} (h : Boxed W B t v) (o : Nat) (hne : B ≠ b) (u : Value) : Boxed (W.setCell ⟨b, o, none⟩ u) B t v := (Below.heap_setCell W ⟨b, o, none⟩ u B hne).trans h
theorem at_store {W : World} {g : Nat} {x y : Int} {t : TypeId} (h : At W g x y t) (a : Int) (o : Nat) (ho : o = 0 := by rfl) : At (W.setCell ⟨g, o, none⟩ (.int .i64 a)) g a y t := by
  subst ho
  obtain ⟨hlt, hk⟩ := Array.getElem?_eq_some_iff.1 h
  show (W.heap.modify g _)[g]? = _
  rw [Array.getElem?_eq_getElem (by rw [Array.size_modify]; exact hlt), Array.getElem_modify_self, hk]
  rfl
theorem at_store1 {W : World} {g : Nat} {x y : Int} {t : TypeId} (h : At W g x y t) (a : Int) : At (W.setCell ⟨g, 1, none⟩ (.int .i64 a)) g x a t := by
  obtain ⟨hlt, hk⟩ := Array.getElem?_eq_some_iff.1 h
  show (W.heap.modify g _)[g]? = _
  rw [Array.getElem?_eq_getElem (by rw [Array.size_modify]; exact hlt), Array.getElem_modify_self, hk]
  rfl
def stStep (L : List (Int × Int)) (s : Nat × List (Int × Int)) (i : Nat) : Nat × List (Int × Int) := (i, bif onQ (gt L s.1) (gt L (nx L i)) (gt L i) then s.2 else s.2 ++ [gt L i])
def stP (L : List (Int × Int)) (l : List Nat) : Nat × List (Int × Int) := l.foldl (stStep L) (L.length - 1, [])
theorem stP_snoc (L : List (Int × Int)) (l : List Nat) (x : Nat) : stP L (l ++ [x]) = stStep L (stP L l) x := by simp [stP]
theorem stP_len (L : List (Int × Int)) (l : List Nat) : (stP L l).2.length ≤ l.length := by
  have key : ∀ (l : List Nat) (s : Nat × List (Int × Int)), (l.foldl (stStep L) s).2.length ≤ s.2.length + l.length := by
    intro l
    induction l with
    | nil => intro s; simp
    | cons x l ih =>
      intro s
      have h1 := ih (stStep L s x)
      have h2 : (stStep L s x).2.length ≤ s.2.length + 1 := by
        unfold stStep
        cases onQ (gt L s.1) (gt L (nx L x)) (gt L x) <;> simp
      rw [List.foldl_cons, List.length_cons]
      omega
  have := key l (L.length - 1, [])
  simpa [stP] using this

set_option maxRecDepth 100000 in
set_option maxHeartbeats 8000000 in
theorem impl_straight_yes (A : Option Addr) (c : Nat) (L : List (Int × Int)) (w : World) (hA : PtsA w A L) (hp : polyB L = true) :
    Calls Try.prog 71 #[.slice A L.length c] w (Lists w (stP L (List.range L.length)).2) := by
  obtain ⟨i0, hi0, hz0, hz1, hz2⟩ := info_parts infoPt
  obtain ⟨h3, h10, hok⟩ := polyB_all hp
  obtain ⟨g, rfl, -⟩ := hA 0 (by omega)
  have HU : Hid (Lists w (stP L (List.range L.length)).2 = fun e w' => ∃ v, e = .returned v ∧ w'.ownsRow w.heap.size 30 2 v (stP L (List.range L.length)).2.length (flat (stP L (List.range L.length)).2) ∧ Below w.heap.size w w') := rfl
  refine (callsIn_wide (n := 6)).1 ?_
  refine callsIn_of_wp_marks Try.func71 rfl trivial ?_ rfl
  simp only [Try.ntmps71, List.size_toArray, List.length_cons, List.length_nil, Nat.reduceAdd, Nat.reduceSub, Array.replicate_succ, Array.replicate_zero, List.push_toArray, List.append_toArray, List.nil_append, List.cons_append]
  have PC := Lib.hid (impl_poly _ c L w hA (by omega))
  rw [hp] at PC
  gi_wp2
  refine ⟨trivial, (wide0.calls PC.out).mono ?_⟩
  rintro e w1 ⟨rfl, hb1⟩
  have hA1 := ptsA_on hA hb1
  obtain ⟨m, hm⟩ : ∃ m, m = L.length - 1 := ⟨_, rfl⟩
  obtain ⟨c0, c1⟩ := gt_cells hA1 (i := m) (by omega)
  have hm1 : (L.length : Int) - 1 = (m : Int) := by omega
  have HM := Lib.hid hm
  have hn1 := below1 w1 (.cells #[.slice none 0 0] 23)
  have d0 := cell_on hn1 rfl c0
  have d1 := cell_on hn1 rfl c1
  obtain ⟨bx, hbx⟩ : ∃ bx, bx = (gt L m).1 := ⟨_, rfl⟩
  obtain ⟨by', hby⟩ : ∃ by', by' = (gt L m).2 := ⟨_, rfl⟩
  have HBX := Lib.hid hbx
  have HBY := Lib.hid hby
  rw [← hbx] at d0
  rw [← hby] at d1
  have hm3 : (m : Int) < (L.length : Int) := by omega
  clear hm c0 c1 hn1 hbx hby
  gi_wp2
  refine ⟨trivial, (wide0.calls (sides_any _ L.length c _)).mono ?_⟩
  rintro e w3 ⟨rfl, rfl⟩
  gi_wp2
  have hs1 := hb1.size
  have bB := ((Boxed.new w1 23 (.slice none 0 0)).alloc (.cells #[.int .i64 bx, .int .i64 by'] 30)).alloc (.cells #[.slice (some ⟨g, 0, none⟩) L.length c] 23)
  have bF := (at_new (w1.alloc (.cells #[.slice none 0 0] 23)) bx by' 30).alloc (.cells #[.slice (some ⟨g, 0, none⟩) L.length c] 23)
  have bN := Boxed.new ((w1.alloc (.cells #[.slice none 0 0] 23)).alloc (.cells #[.int .i64 bx, .int .i64 by'] 30)) 23 (.slice (some ⟨g, 0, none⟩) L.length c)
  simp only [World.size_alloc] at bF bN
  have hB0 : Below w.heap.size w (((w1.alloc (.cells #[.slice none 0 0] 23)).alloc (.cells #[.int .i64 bx, .int .i64 by'] 30)).alloc (.cells #[.slice (some ⟨g, 0, none⟩) L.length c] 23)) := hb1.trans ((below3 w1 _ _ _).mono hs1)
  have hsz : (((w1.alloc (.cells #[.slice none 0 0] 23)).alloc (.cells #[.int .i64 bx, .int .i64 by'] 30)).alloc (.cells #[.slice (some ⟨g, 0, none⟩) L.length c] 23)).heap.size = w1.heap.size + 3 := by simp
  obtain ⟨W0, hW0⟩ : ∃ W0, ((w1.alloc (.cells #[.slice none 0 0] 23)).alloc (.cells #[.int .i64 bx, .int .i64 by'] 30)).alloc (.cells #[.slice (some ⟨g, 0, none⟩) L.length c] 23) = W0 := ⟨_, rfl⟩
  rw [hW0] at bB bF bN hB0 hsz ⊢
  have bF0 : At W0 (w1.heap.size + 1) (gt L (stP L []).1).1 (gt L (stP L []).1).2 30 := by
    have e1 : (stP L []).1 = m := HM.out.symm
    rw [e1, ← HBX.out, ← HBY.out]; exact bF
  clear hW0 bF
  refine wpIn_rangeFunc_ownH rfl (by decide) (gf := 118) (lb := #[.pointer (some ⟨w1.heap.size + 1 + 1, 0, none⟩)]) rfl trivial (enters_of Try.func118 (by kernel_rfl) rfl)
    (sides_stops 5 (w1.heap.size + 1 + 1) _ c L w W0 (by omega) (by omega) hA hB0 (by omega) bN.cell) keepP_t (keepP_b (by omega) (by omega)) (Below.refl _ _) (fun _ => rfl)
    (fun pre W => (((∃ v, Boxed W w1.heap.size 23 v ∧ W.ownsRow (w1.heap.size + 3) 30 2 v (stP L pre).2.length (flat (stP L pre).2) ∧ True) ∧ At W (w1.heap.size + 1) (gt L (stP L pre).1).1 (gt L (stP L pre).1).2 30) ∧ Boxed W (w1.heap.size + 1 + 1) 23 (.slice (some ⟨g, 0, none⟩) L.length c)) ∧ Below w.heap.size w W)
    (fun _ _ _ => False)
    (OwnFrom.and (OwnFrom.and (OwnFrom.and (Own.from (holdsRow_own (w1.heap.size + 3) w1.heap.size 23 30 2 (fun pre => (stP L pre).2.length) (fun pre => flat (stP L pre).2) (fun _ _ => True)) _) (fun s X Y row hs hg hr => at_own _ _ _ _ _ () X Y row hs hg hr)) (Own.from (boxed_own _ _ _) _)) (ownFrom_below (Nat.le_refl _) (by omega)))
    (fun _ => ownFrom_pure _ (fun _ => False))
    ⟨⟨⟨⟨_, bB, World.ownsRow_nil _ _ _ _, trivial⟩, bF0⟩, bN⟩, hB0⟩
    (fun x a' W => ∃ Bx, w1.heap.size + 1 + 1 < Bx ∧ SideAt W Bx L x ∧ a' = { tmps := #[.slice (some ⟨g, 0, none⟩) L.length c, undef, .slice none 0 0, .pointer (some ⟨w1.heap.size, 0, none⟩), .pointer (some ⟨w1.heap.size + 1, 0, none⟩), undef, .pointer (some ⟨Bx, 0, none⟩), .slice (some ⟨g, 0, none⟩) L.length c, .bool true, .bool false, .slice (some ⟨g, 0, none⟩) L.length c, .slice (some ⟨g, 0, none⟩) L.length c, .int .i64 (L.length : Int), .int .i64 (m : Int), .pointer (some ⟨g, m * 2, none⟩), .agg #[.int .i64 bx, .int .i64 by'], .slice (some ⟨g, 0, none⟩) L.length c, .func (.func 118) #[] #[.pointer (some ⟨w1.heap.size + 1 + 1, 0, none⟩)], .int .i64 (x : Int), .agg #[.int .i64 (gt L x).1, .int .i64 (gt L x).2, .int .i64 (gt L (nx L x)).1, .int .i64 (gt L (nx L x)).2], undef, undef, undef, undef, undef, undef, undef, undef, undef, undef, undef, undef, undef, undef, undef], defers := [] })
    (fun x a' _ X Y row hs hg hr => by obtain ⟨Bx, e1, e2, e3⟩ := hs; exact ⟨Bx, e1, sideAt_own Bx L x _ () X Y row e2 hg hr, e3⟩)
    ?assign ?body ?done ?stop
  case assign =>
    rintro l pre x W K ⟨⟨⟨⟨v, bB4, own4, -⟩, bF4⟩, bN4⟩, hB4⟩ hK
    simp only [sideV]
    gi_wp2
    have hs4 := hB4.size
    have hb := below1 W (.cells #[.int .i64 (gt L x).1, .int .i64 (gt L x).2, .int .i64 (gt L (nx L x)).1, .int .i64 (gt L (nx L x)).2] 71)
    exact hK _ _ (keepsFrom_below hb) (KeepP.of_below hb hs4 bN4.lt) ⟨⟨⟨⟨v, boxed_on bB4 hb, own_below own4 hb, trivial⟩, bF4.step hb⟩, boxed_on bN4 hb⟩, hB4.trans (hb.mono hs4)⟩ ⟨W.heap.size, bN4.lt, sideAt_new W L x, rfl⟩
  case body =>
    rintro l pre x a' W hl - ⟨⟨⟨⟨v, bB4, own4, -⟩, bF4⟩, bN4⟩, hB4⟩ ⟨Bx, hBx, sX, rfl⟩ hlt
    have hs4 := hB4.size
    have HO := Lib.hid (fun W => on_pt (gt L (stP L pre).1) (gt L (nx L x)) (gt L x) W)
    have HST := Lib.hid (stP_snoc L pre x)
    have hlen := stP_len L pre
    obtain ⟨x0, x1, x2, x3⟩ := sX.cells
    have c0 := bF4.c0; have c1 := bF4.c1
    obtain ⟨j, hj⟩ : ∃ j, j = (stP L pre).1 := ⟨_, rfl⟩
    obtain ⟨M, hM⟩ : ∃ M, M = (stP L pre).2 := ⟨_, rfl⟩
    have HSS : Hid (stP L (pre ++ [x]) = (x, bif onQ (gt L j) (gt L (nx L x)) (gt L x) then M else M ++ [gt L x])) := by
      show _ = _
      rw [HST.out, hj, hM]; rfl
    rw [← hj] at HO c0 c1 bF4
    rw [← hM] at own4 hlen
    clear hj hM HST
    gi_wp2
    refine ⟨trivial, ((wideR l).calls (HO.out _)).mono ?_⟩
    rintro e W5 ⟨rfl, hb5⟩
    have hB5 := hB4.trans (hb5.mono hs4)
    have bB5 := boxed_on bB4 hb5
    have bN5 := boxed_on bN4 hb5
    have bF5 := bF4.step hb5
    have sX5 := boxed_side sX hb5
    have own5 := own_below own4 hb5
    have hK5 := KeepP.of_below hb5 hs4 bN4.lt
    have hF5 := keepsFrom_below (B := W0.heap.size) hb5
    have hs5 := hB5.size
    clear hb5 hB4 bB4 bN4 bF4 sX x0 x1 x2 x3 c0 c1 HO own4 hs4
    obtain ⟨x0, x1, x2, x3⟩ := sX5.cells
    have c0 := bF5.c0; have c1 := bF5.c1
    have cB := bB5.cell
    have fB := bB5.frozen
    have f0 := at_frozen bF5 0
    have f1 := at_frozen bF5 1
    cases hon : onQ (gt L j) (gt L (nx L x)) (gt L x)
    · rw [hon] at HSS
      have hrw := fun k hk => (own5.lt k hk).1
      obtain ⟨px, hpx⟩ : ∃ px, px = (gt L x).1 := ⟨_, rfl⟩
      obtain ⟨py, hpy⟩ : ∃ py, py = (gt L x).2 := ⟨_, rfl⟩
      have HP : Hid (gt L x = (px, py)) := by
        show _ = _
        rw [hpx, hpy]
      simp only [← hpx, ← hpy] at x0 x1 ⊢
      clear hpx hpy
      have hl10 : M.length ≤ 9 := by omega
      have hs6 := hB5.size
      have hlt3 : w1.heap.size + 3 ≤ W5.heap.size := by have := sX5.lt; omega
      gi_wp2_with (gi_at_builtin; refine wpListIn_append_own _ rfl _ _ 23 rfl (w1.heap.size + 3) 30 i0 (.agg #[.int .i64 0, .int .i64 0]) 2 16 Try.underlying23 hi0 hz0 hz1 hz2 rfl (by decide) _ _ _ rfl (own5.alloc _) ⟨W5.heap.size, 0, none⟩ 1 1 [.int .i64 px, .int .i64 py] rfl rfl ?d1 ?d2 ?d3 ?d4 ?d5 ?_)
      case d1 => exact World.news_of_block (cs := #[.int .i64 px, .int .i64 py]) (t := 30) (fr := (0, 0)) (heap_alloc_new W5 _)
      case d2 => simp [Value.oneCell']
      case d3 => unfold maxLen; omega
      case d4 => omega
      case d5 => simp; omega
      intro v' w6 own6 hgrow _
      obtain ⟨g6, cp6, rfl⟩ := ownsRow_succ own6
      obtain ⟨hv1, hv2, hr2, hk2, hb2⟩ := bB5.appended (by decide) (own_base own5 (show w.heap.size ≤ w1.heap.size + 3 by omega)) hs6 hs1 (own_base own6 (show w.heap.size ≤ w1.heap.size + 3 by omega)) hgrow
      have hc6 := hv1.cell
      have hf6 := hv1.frozen
      have bF6 := (bF5.alloc (.cells #[.int .i64 px, .int .i64 py] 30)).grown hgrow (fun e => by have := hrw _ e.symm; omega)
      have bN6 := (bN5.alloc (.cells #[.int .i64 px, .int .i64 py] 30)).kept hgrow (fun e => by have := hrw _ e.symm; omega)
      have sX6 := side_kept (boxed_side sX5 (below1 W5 (.cells #[.int .i64 px, .int .i64 py] 30))) hgrow (own5.alloc _)
      have hv3 := hrow_other own6 0 (show w1.heap.size < w1.heap.size + 3 by omega) (.slice (some ⟨g6, 0, none⟩) (M.length + 1) cp6)
      have bF7 := at_set bF6 (b := w1.heap.size) (by omega) 0 (.slice (some ⟨g6, 0, none⟩) (M.length + 1) cp6)
      have bN7 := bN6.other (B' := w1.heap.size) (by omega) (.slice (some ⟨g6, 0, none⟩) (M.length + 1) cp6)
      have sX7 := side_set sX6 (b := w1.heap.size) (by omega) 0 (.slice (some ⟨g6, 0, none⟩) (M.length + 1) cp6)
      have hB7 := hB5.trans hb2
      have hlN : w1.heap.size + 1 + 1 ≠ w1.heap.size := by omega
      have hKB : w6.heap[w1.heap.size + 1 + 1]? = W5.heap[w1.heap.size + 1 + 1]? := ((hgrow.block _ (by simp; omega) (fun e => by have := hrw _ e.symm; omega))).trans (Below.heap_alloc _ _ _ (by omega))
      have hK7 : KeepP w.heap.size (w1.heap.size + 1 + 1) W (w6.setCell ⟨w1.heap.size, 0, none⟩ (.slice (some ⟨g6, 0, none⟩) (M.length + 1) cp6)) := keepP_t hK5 ⟨hb2, (Below.heap_setCell w6 ⟨w1.heap.size, 0, none⟩ _ _ hlN).trans hKB⟩
      have hF7 := hF5.trans (hk2.from W0.heap.size)
      have R := Lib.hid (And.intro hv2 (And.intro hv3 (And.intro bN7 (And.intro hB7 (And.intro hK7 hF7)))))
      clear x0 x1 x2 x3 c0 c1 f0 f1 hv2 hr2 hk2 hb2 hv3 bN7 hB7 hK7 hF7 hKB hgrow own6 own5 bF6 bN6 sX6 bF5 bN5 bB5 sX5 cB fB hK5 hF5 hB5 hv1
      obtain ⟨x0, x1, x2, x3⟩ := sX7.cells
      simp only [HP.out] at x0 x1
      have c0 := bF7.c0; have c1 := bF7.c1
      have f0 := at_frozen bF7 0
      have f1 := at_frozen bF7 1
      have c2 : ((w6.setCell ⟨w1.heap.size, 0, none⟩ (.slice (some ⟨g6, 0, none⟩) (M.length + 1) cp6)).setCell ⟨w1.heap.size + 1, 0, none⟩ (.int .i64 px)).cell? ⟨w1.heap.size + 1, 1, none⟩ = some (.int .i64 (gt L j).2) := (at_store bF7 px 0).c1
      clear sX7
      gi_wp2
      obtain ⟨r1, r2, r3, r4, r5, r6⟩ := R.out
      refine ⟨(r6.trans ((KeepsOthers.setCell _ _ _).from _)).trans ((KeepsOthers.setCell _ _ _).from _), (r5.setCell (by omega) (by omega) _ _).setCell (by omega) (by omega) _ _, ?_⟩
      simp only [HSS.out, cond_false, HP.out, List.length_append, List.length_cons, List.length_nil, flat_append]
      exact ⟨⟨⟨⟨_, box_set (box_set r1 0 (by omega) _) 1 (by omega) _, hrow_other (hrow_other r2 0 (by omega) _) 1 (by omega) _, trivial⟩, at_store1 (at_store bF7 px 0) py⟩, box_set (box_set r3 0 (by omega) _) 1 (by omega) _⟩, (r4.setCell (p := ⟨w1.heap.size + 1, 0, none⟩) (Nat.le_trans hs1 (Nat.le_succ _)) _).setCell (p := ⟨w1.heap.size + 1, 1, none⟩) (Nat.le_trans hs1 (Nat.le_succ _)) _⟩
    · rw [hon] at HSS
      obtain ⟨px, hpx⟩ : ∃ px, px = (gt L x).1 := ⟨_, rfl⟩
      obtain ⟨py, hpy⟩ : ∃ py, py = (gt L x).2 := ⟨_, rfl⟩
      have HP : Hid (gt L x = (px, py)) := by
        show _ = _
        rw [hpx, hpy]
      simp only [← hpx, ← hpy] at x0 x1 ⊢
      clear hpx hpy
      have c2 : (W5.setCell ⟨w1.heap.size + 1, 0, none⟩ (.int .i64 px)).cell? ⟨w1.heap.size + 1, 1, none⟩ = some (.int .i64 (gt L j).2) := (at_store bF5 px 0).c1
      have hs7 : w.heap.size ≤ w1.heap.size + 1 := Nat.le_trans hs1 (Nat.le_succ _)
      have R := Lib.hid (And.intro bB5 (And.intro own5 (And.intro bN5 (And.intro hB5 (And.intro hK5 hF5)))))
      clear bB5 own5 bN5 hB5 hK5 hF5
      gi_wp2
      obtain ⟨r1, r2, r3, r4, r5, r6⟩ := R.out
      refine ⟨(r6.trans ((KeepsOthers.setCell _ _ _).from _)).trans ((KeepsOthers.setCell _ _ _).from _), (r5.setCell hs7 (by omega) _ _).setCell hs7 (by omega) _ _, ?_⟩
      simp only [HSS.out, cond_true, HP.out]
      exact ⟨⟨⟨⟨_, box_set (box_set r1 0 (by omega) _) 1 (by omega) _, hrow_other (hrow_other r2 0 (by omega) _) 1 (by omega) _, trivial⟩, at_store1 (at_store bF5 px 0) py⟩, box_set (box_set r3 0 (by omega) _) 1 (by omega) _⟩, (r4.setCell (p := ⟨w1.heap.size + 1, 0, none⟩) hs7 _).setCell (p := ⟨w1.heap.size + 1, 1, none⟩) hs7 _⟩
  case done =>
    rintro D zs W hD rfl ⟨⟨⟨⟨v, bB4, own4, -⟩, bF4⟩, bN4⟩, hB4⟩ hK
    have cB := bB4.cell
    have hs9 := hB0.size
    gi_wp2
    refine ⟨by simp, .inl ⟨_, _, rfl, run_takeDeferred hK, ?_⟩⟩
    rw [HU.out]
    exact ⟨_, results_tmp rfl _ _ _, v, rfl, ownsRow_putObj (own_base own4 (show w.heap.size ≤ w1.heap.size + 3 by omega)) _ hK rfl, hB4.trans (belowK_b (w := w) (Nat.le_refl _) W D _ _ (by omega) hK rfl rfl)⟩
  case stop =>
    rintro D k pre W hD hpre h hK
    exact h.elim
end Go.Proofs.Ytamchfdiehkloaa

/-! Ints -/
namespace Go.Proofs.Ytamchfdiehkloaa
open Go.RowKit

/-- The cells of a slice of ints. -/
def ints (M : List Int) : List Value := M.map fun n => .int .i64 n
theorem ints_len (M : List Int) : (ints M).length = M.length := by simp [ints]
theorem ints_snoc (M : List Int) (n : Int) : ints (M ++ [n]) = ints M ++ [.int .i64 n] := by simp [ints]
def IntsA (w : World) (A : Option Addr) (M : List Int) : Prop := ∀ k (h : k < M.length), ∃ g, A = some ⟨g, 0, none⟩ ∧ w.cell? ⟨g, k, none⟩ = some (.int .i64 M[k])
theorem intsA_on {w w' : World} {A : Option Addr} {M : List Int} (h : IntsA w A M) (hb : Below w.heap.size w w') : IntsA w' A M := fun k hk => by
  obtain ⟨g, hA, h1⟩ := h k hk
  exact ⟨g, hA, cell_on hb rfl h1⟩
theorem own_ints {w : World} {B : Nat} {e : TypeId} {v : Value} {n : Nat} {M : List Int} (h : w.ownsRow B e 1 v n (ints M)) :
    n = M.length ∧ ∃ A c, v = .slice A M.length c ∧ IntsA w A M := by
  have hl : M.length = n := by have := h.1; rw [ints_len] at this; omega
  refine ⟨hl.symm, ?_⟩
  subst hl
  rcases h.2 with ⟨rfl, h0⟩ | ⟨g, cap, cur, rfl, hg, hh, _⟩
  · exact ⟨none, 0, by rw [h0], fun k hk => by omega⟩
  · refine ⟨some ⟨g, 0, none⟩, cap, rfl, fun k hk => ⟨g, rfl, ?_⟩⟩
    rw [h.cellAt k (by omega)]
    simp [ints, hk]
def IxAt (M : List Int) (x z : Int) : Prop := (z = -1 ∧ x ∉ M) ∨ ∃ k : Nat, k < M.length ∧ z = k ∧ x ∈ M
set_option maxRecDepth 100000 in
set_option maxHeartbeats 1000000 in
theorem ix_any (A : Option Addr) (c : Nat) (M : List Int) (x : Int) (w : World) (hP : IntsA w A M) (hL : M.length ≤ 1048576) :
    Calls Try.prog 164 #[.slice A M.length c, .int .i64 x] w fun e w' => (∃ z : Int, e = .returned (.int .i64 z) ∧ IxAt M x z) ∧ w' = w := by
  have HP := Lib.hid hP; clear hP
  have HID : Hid (∀ z, IxAt M x z ↔ ((z = -1 ∧ x ∉ M) ∨ ∃ k : Nat, k < M.length ∧ z = k ∧ x ∈ M)) := fun _ => Iff.rfl
  go_enter Try.func164, Try.ntmps164
  go_wp2_with fail
  go_loop [5, 8] (fun _ i => ∃ k : Nat, k ≤ M.length ∧ i = .int .i64 k ∧ Hid (∀ j (h : j < M.length), j < k → M[j] ≠ x)) (fun _ i => M.length - (intOf i).toNat)
  case atStart => exact ⟨0, Nat.zero_le _, rfl, fun j _ hj => by omega⟩
  case round =>
    obtain ⟨k, hk, rfl, HN⟩ := hrel
    by_cases hlt : k < M.length
    · obtain ⟨g1, rfl, hc⟩ := HP.out k hlt
      obtain ⟨p, hp⟩ : ∃ p, p = M[k] := ⟨_, rfl⟩
      rw [← hp] at hc
      have HPQ := Lib.hid hp
      clear hp
      by_cases he : x = p
      · have HY : Hid (IxAt M x k) := .inr ⟨k, hlt, rfl, by rw [he, HPQ.out]; exact List.getElem_mem hlt⟩
        subst he
        go_wp2_with fail
        go_ret
        exact ⟨⟨_, rfl, HY.out⟩, rfl⟩
      · have HN2 : Hid (∀ j (h : j < M.length), j < k + 1 → M[j] ≠ x) := fun j h hj => by
          rcases Nat.lt_or_ge j k with h1 | h1
          · exact HN.out j h h1
          · obtain rfl : j = k := by omega
            intro e
            exact he (by rw [HPQ.out, e])
        have he2 : (x == p) = false := by simpa using he
        go_wp2_with fail
        go_round
        case rel => exact ⟨k + 1, by omega, by go_num, HN2⟩
        case measure => simp [intOf]; omega
    · have HY : Hid (IxAt M x (-1)) := .inl ⟨rfl, fun h => by
        obtain ⟨j, hj, e⟩ := List.getElem_of_mem h
        exact HN.out j hj (by omega) e⟩
      go_wp2_with fail
      go_ret
      exact ⟨⟨_, rfl, HY.out⟩, rfl⟩
theorem hasI_any (A : Option Addr) (c : Nat) (M : List Int) (x : Int) (w : World) (hP : IntsA w A M) (hL : M.length ≤ 1048576) :
    Calls Try.prog 117 #[.slice A M.length c, .int .i64 x] w fun e w' => e = .returned (.bool (decide (x ∈ M))) ∧ w' = w := by
  have HX := Lib.hid (fun w hP => ix_any A c M x w hP hL)
  have HP := Lib.hid hP; clear hP
  go_enter Try.func117, Try.ntmps117
  go_wp2_with fail
  refine (HX.out w HP.out).mono ?_
  rintro e w1 ⟨⟨z, rfl, hz⟩, rfl⟩
  have HD : Hid (decide (0 ≤ z) = decide (x ∈ M)) := by
    show _ = _
    rcases hz with ⟨rfl, h⟩ | ⟨k, _, rfl, h⟩
    · simp [h]
    · simp [h]
  clear hz
  go_wp2_with fail
  go_ret
  exact ⟨ret_bool HD.out, rfl⟩
def bothB (M : List Int) : Bool := decide ((1 : Int) ∈ M) && decide ((-1 : Int) ∈ M)
theorem both_any (A : Option Addr) (c : Nat) (M : List Int) (w : World) (hP : IntsA w A M) (hL : M.length ≤ 1048576) :
    Calls Try.prog 67 #[.slice A M.length c] w fun e w' => e = .returned (.bool (bothB M)) ∧ w' = w := by
  have HX := Lib.hid (fun x w hP => hasI_any A c M x w hP hL)
  have HP := Lib.hid hP; clear hP
  have HB : Hid (bothB M = (decide ((1 : Int) ∈ M) && decide ((-1 : Int) ∈ M))) := rfl
  cases h1 : decide ((1 : Int) ∈ M)
  all_goals (
    rw [h1] at HB
    have H1 := HX.out 1 w HP.out
    rw [h1] at H1
    have H1 := Lib.hid H1
    go_enter Try.func67, Try.ntmps67
    go_wp2_with fail
    refine H1.out.mono ?_
    rintro e w1 ⟨rfl, rfl⟩
    go_wp2_with fail)
  · go_ret
    exact ⟨ret_bool HB.out.symm, rfl⟩
  · refine (HX.out (-1) _ HP.out).mono ?_
    rintro e w1 ⟨rfl, rfl⟩
    go_wp2_with fail
    go_ret
    exact ⟨ret_bool HB.out.symm, rfl⟩

/-! ### The least and the greatest of signs -/
def loT (f : Nat → Int) : Nat → Int
  | 0 => 0
  | k + 1 => if f k < loT f k then f k else loT f k
def hiT (f : Nat → Int) : Nat → Int
  | 0 => 0
  | k + 1 => if hiT f k < f k then f k else hiT f k
theorem lohi_aux {f : Nat → Int} (hf : ∀ i, f i = 1 ∨ f i = -1 ∨ f i = 0) : ∀ k, (loT f k = if ∃ j, j < k ∧ f j = -1 then -1 else 0) ∧ (hiT f k = if ∃ j, j < k ∧ f j = 1 then 1 else 0) := by
  intro k
  induction k with
  | zero => simp [loT, hiT]
  | succ k ih =>
    obtain ⟨h1, h2⟩ := ih
    have hs : ∀ c : Int, (∃ j, j < k + 1 ∧ f j = c) ↔ (∃ j, j < k ∧ f j = c) ∨ f k = c := by
      intro c
      constructor
      · rintro ⟨j, hj, e⟩
        rcases Nat.lt_or_ge j k with h | h
        · exact .inl ⟨j, h, e⟩
        · obtain rfl : j = k := by omega
          exact .inr e
      · rintro (⟨j, hj, e⟩ | e)
        · exact ⟨j, by omega, e⟩
        · exact ⟨k, by omega, e⟩
    simp only [loT, hiT, h1, h2, hs]
    constructor
    · by_cases h : ∃ j, j < k ∧ f j = -1
      · rcases hf k with e | e | e <;> simp [h, e]
      · rcases hf k with e | e | e <;> simp [h, e]
    · by_cases h : ∃ j, j < k ∧ f j = 1
      · rcases hf k with e | e | e <;> simp [h, e]
      · rcases hf k with e | e | e <;> simp [h, e]
theorem lohi {f : Nat → Int} (hf : ∀ i, f i = 1 ∨ f i = -1 ∨ f i = 0) (k : Nat) : (loT f k == 0 || hiT f k == 0) = !(bothB ((List.range k).map f)) := by
  obtain ⟨h1, h2⟩ := lohi_aux hf k
  have m1 : ∀ c : Int, c ∈ (List.range k).map f ↔ ∃ j, j < k ∧ f j = c := by intro c; simp
  unfold bothB
  rw [h1, h2]
  simp only [m1]
  by_cases a : ∃ j, j < k ∧ f j = -1 <;> by_cases b : ∃ j, j < k ∧ f j = 1 <;> simp [a, b]
theorem lohi_le {f : Nat → Int} (hf : ∀ i, f i = 1 ∨ f i = -1 ∨ f i = 0) (k : Nat) : (loT f k).natAbs ≤ 1 ∧ (hiT f k).natAbs ≤ 1 := by
  obtain ⟨h1, h2⟩ := lohi_aux hf k
  rw [h1, h2]
  constructor <;> split <;> decide
theorem sgn_three (n : Int) : sgn n = 1 ∨ sgn n = -1 ∨ sgn n = 0 := by
  rcases sgn_cases n with h | h | h
  · exact .inl h.2
  · exact .inr (.inl h.2)
  · exact .inr (.inr h.2)
/-- A function that hands back a new list of ints. -/
def ListsI (w : World) (M : List Int) (e : Ending) (w' : World) : Prop := ∃ v, e = .returned v ∧ w'.ownsRow w.heap.size 3 1 v M.length (ints M) ∧ Below w.heap.size w w'
theorem infoI : (Try.prog.info? 3).map (fun i => (i.zero, i.size, i.bytes)) = some (some (.int .i64 0), 1, 8) := by kernel_rfl
end Go.Proofs.Ytamchfdiehkloaa

/-! ReachS -/
namespace Go.Proofs.Ytamchfdiehkloaa
open Go.RowKit

def ReachP (a b m k : Nat) (W : World) (e : Ending) (w' : World) : Prop := ∃ p : Nat, e = .returned (.int .i64 p) ∧ PartOf (Adj a b) m.testBit k p ∧ w' = W
set_option maxRecDepth 100000 in
set_option maxHeartbeats 2000000 in
theorem reach_any (a b m k : Nat) (W : World) (ha : 1 ≤ a ∧ a ≤ 6) (hb : 1 ≤ b ∧ b ≤ 6) (hab : a * b ≤ 36) (hm : m < 2 ^ (a * b)) (hk : m.testBit k = true) (hl : ∀ j, j < k → m.testBit j = false) :
    Calls Try.prog 143 #[.int .i64 a, .int .i64 b, .int .i64 m] W (ReachP a b m k W) := by
  have hm36 := lt62 hm hab
  have hneg : wrap64 (-(m : Int)) = -(m : Int) := IntWalk.wrap64_in _ (by omega)
  have hlb := least_bit (m := m) (by omega) hk hl
  have HG : Hid (Grown a b m k (2 ^ k)) := Grown.start hk
  have HNX := Lib.hid (fun p (g : Grown a b m k p) => g.next (h := b) (by omega))
  have HDN := Lib.hid (fun p (g : Grown a b m k p) he => g.done (h := b) (by omega) he)
  have HLE := Lib.hid (fun p (g : Grown a b m k p) => g.sub.le)
  have HNE := Lib.hid (fun p W (g : Grown a b m k p) => near_any a b p W ha hb hab (Nat.lt_of_le_of_lt g.sub.le hm))
  have HNL := Lib.hid (fun p (g : Grown a b m k p) => Nat.lt_of_lt_of_le (nearT_lt (w := a) (h := b) (M := p) (by omega) (Nat.lt_of_le_of_lt g.sub.le hm) (a * b) (Nat.le_refl _)) (Nat.pow_le_pow_right (n := 2) (by omega) hab))
  clear hm hk hl
  generalize 2 ^ k = p0 at *
  go_enter Try.func143, Try.ntmps143
  go_wp2_with fail
  go_loop [7, 8] (fun s _ => ∃ p : Nat, s = .int .i64 p ∧ Hid (Grown a b m k p)) (fun s _ => m - (intOf s).toNat)
  case atStart => exact ⟨p0, rfl, HG⟩
  case round =>
    clear HG hlb hneg
    obtain ⟨p, rfl, HG⟩ := hrel
    have HC := Lib.hid (HNE.out p W HG.out)
    have hnl := HNL.out p HG.out
    have hle := HLE.out p HG.out
    obtain ⟨HG2, hle2⟩ := HNX.out p HG.out
    have hle3 := HLE.out _ HG2
    have HG3 := Lib.hid HG2
    clear HG2
    have HDQ := Lib.hid (HDN.out p HG.out)
    have hE : grow1 a b m p = nearT a b p (a * b) &&& m := rfl
    generalize grow1 a b m p = q at *
    generalize nearT a b p (a * b) = n at *
    have hand := and_nat (a := n) (b := m) (by omega) (by omega)
    rw [← hE] at hand
    clear hE
    by_cases he : q = p
    · subst he
      have R : Hid (ReachP a b m k W (.returned (.int .i64 q)) W) := ⟨q, rfl, HDQ.out rfl, rfl⟩
      go_wp2_with fail
      refine HC.out.mono ?_
      rintro e w1 ⟨rfl, rfl⟩
      go_wp2_with fail
      go_ret
      exact R.out
    · have hne : ((q : Int) == (p : Int)) = false := by rw [beq_eq_false_iff_ne]; omega
      go_wp2_with fail
      refine HC.out.mono ?_
      rintro e w1 ⟨rfl, rfl⟩
      go_wp2_with fail
      go_round
      case rel => exact ⟨q, rfl, HG3⟩
      case measure => simp [intOf]; omega
/-- What PartsOf answers: the parts, in order; nothing if it is no shape. -/
def PartsV (w h M : Int) (L : List Int) : Prop := (shapeB w h M = false ∧ L = []) ∨ (∃ (a b m : Nat) (K : List Nat), shapeB w h M = true ∧ w = a ∧ h = b ∧ M = m ∧ PartsR (Adj a b) m K ∧ L = K.map fun k : Nat => (k : Int))
theorem PartsV.uniq {w h M : Int} {L L' : List Int} (h1 : PartsV w h M L) (h2 : PartsV w h M L') : L = L' := by
  rcases h1 with ⟨e, rfl⟩ | ⟨a, b, m, K, e, rfl, rfl, rfl, p, rfl⟩ <;> rcases h2 with ⟨e', rfl⟩ | ⟨a', b', m', K', e', q1, q2, q3, p', rfl⟩
  · rfl
  · rw [e] at e'; cases e'
  · rw [e] at e'; cases e'
  · have q1 := Int.ofNat.inj q1
    have q2 := Int.ofNat.inj q2
    have q3 := Int.ofNat.inj q3
    subst q1; subst q2; subst q3
    rw [p.uniq p']
theorem parts_low {A : Nat → Nat → Prop} {m k p lo : Nat} (hk : m.testBit k = true) (hlo : ∀ j, j < lo → m.testBit j = false) (hl : ∀ j, j < k → m.testBit j = false) (hA : PartOf A m.testBit k p) : lo ≤ k ∧ ∀ j, j < k + 1 → (m - p).testBit j = false := by
  refine ⟨?_, fun j hj => ?_⟩
  · rcases Nat.lt_or_ge k lo with h | h
    · rw [hlo k h] at hk; cases hk
    · exact h
  · rw [testBit_sub hA.sub]
    by_cases e : j = k
    · subst e
      rw [(hA j).2 (.here hk)]; simp
    · rw [hl j (by omega)]; rfl
theorem bit_lt {m n k : Nat} (h : m < 2 ^ n) (hk : m.testBit k = true) : k < n := by
  rcases Nat.lt_or_ge k n with h' | h'
  · exact h'
  · rw [Nat.testBit_lt_two_pow (Nat.lt_of_lt_of_le h (Nat.pow_le_pow_right (by omega) h'))] at hk; cases hk
theorem partsR_len {A : Nat → Nat → Prop} {n m : Nat} {L : List Nat} (h : PartsR A m L) (hm : m < 2 ^ n) : ∀ lo, lo ≤ n → (∀ j, j < lo → m.testBit j = false) → L.length + lo ≤ n := by
  induction h with
  | none => intro lo h _; simpa using h
  | @more m k p L hk hl hp _ ih =>
    intro lo h hlo
    have h1 := parts_low hk hlo hl hp
    have h2 := bit_lt hm hk
    have := ih (by omega) (k + 1) (by omega) h1.2
    simp
    omega
/-- What has been found, and what is left. -/
def AccP (A : Nat → Nat → Prop) (m q : Nat) (K : List Nat) : Prop := ∀ L, PartsR A q L → PartsR A m (K ++ L)
theorem AccP.start {A : Nat → Nat → Prop} {m : Nat} : AccP A m m [] := fun _ h => h
theorem AccP.step {A : Nat → Nat → Prop} {m q k p : Nat} {K : List Nat} (h : AccP A m q K) (hk : q.testBit k = true) (hl : ∀ j, j < k → q.testBit j = false) (hp : PartOf A q.testBit k p) : AccP A m (q - p) (K ++ [p]) := fun L hL => by
  rw [List.append_assoc]
  exact h _ (.more hk hl hp hL)
theorem AccP.done {A : Nat → Nat → Prop} {m : Nat} {K : List Nat} (h : AccP A m 0 K) : PartsR A m K := by
  have := h [] .none
  rwa [List.append_nil] at this
def castL (K : List Nat) : List Int := K.map fun k : Nat => (k : Int)
theorem castL_len (K : List Nat) : (castL K).length = K.length := by simp [castL]
theorem castL_snoc (K : List Nat) (p : Nat) : castL (K ++ [p]) = castL K ++ [(p : Int)] := by simp [castL]
def PartsP (w h M : Int) (W : World) (e : Ending) (w' : World) : Prop := ∃ L : List Int, PartsV w h M L ∧ L.length ≤ 36 ∧ ListsI W L e w'
end Go.Proofs.Ytamchfdiehkloaa

/-! Board2 -/
namespace Go.Proofs.Ytamchfdiehkloaa
open Go.RowKit

section
variable {ops : Array Oper} {rest : List Oper} {o : Oper} {a : Act} {w : World} {Q : Exit → Act → World → Prop}
/-- A board is read as a whole, under a guard that is met. -/
theorem wpList_loadB (hw : Region.wanted o (yielded ops a.tmps) = true) (x : Operand) (ho : o.op = .load 124 x) (g p q : Nat) (F : Nat → Bool) (hx : a.eval x = .pointer (some ⟨g, 0, none⟩)) (hg : Brd w g p q F)
    (h : wpList Try.prog ops Q rest (a.put o.dst (.agg (bdV p q F))) w) : wpList Try.prog ops Q (o :: rest) a w :=
  wpList_step fun K hK => by
    rw [if_pos hw]
    exact wp_load_row 124 x ho g hx 124 (bdV p q F) (0, 0) _ hg Try.underlying124 rfl (infoB' _ _ _) (hK _ _ h)
/-- A board is written as a whole. -/
theorem wpList_storeB (hw : o.guard = none) (x y : Operand) (ho : o.op = .store 124 x y) (g p q p' q' : Nat) (F G : Nat → Bool) (hx : a.eval x = .pointer (some ⟨g, 0, none⟩)) (hy : a.eval y = .agg (bdV p q F)) (hg : Brd w g p' q' G)
    (h : wpList Try.prog ops Q rest (a.put o.dst undef) (w.setRow g (bdV p q F))) : wpList Try.prog ops Q (o :: rest) a w :=
  wpList_store_row hw 124 x y ho g (bdV p q F) hx hy 124 _ hg (infoB' _ _ _) (by rw [bdV_size, bdV_size]) (bdV_one _ _ _) h
end
def covB (a b : Nat) (x y : Int) : Bool := inB x 0 (a - 1) && inB y 0 (b - 1)
def hasB (a b : Nat) (F : Nat → Bool) (x y : Int) : Bool := covB a b x y && F (y * a + x).toNat
theorem two_le36 {k : Nat} (h : k ≤ 36) : 2 ^ k ≤ 68719476736 := Nat.pow_le_pow_right (n := 2) (by omega) h
theorem pow_nat (k : Nat) (h : k < 36) : ∃ p : Nat, (2 : Int) ^ k = (p : Int) ∧ p = 2 ^ k ∧ p ≤ 68719476736 :=
  ⟨2 ^ k, pow_cast k, rfl, two_le36 (by omega)⟩
theorem covers_any (a b : Nat) (F : Nat → Bool) (x y : Int) (W : World) (ha : 1 ≤ a ∧ a ≤ 6) (hb : 1 ≤ b ∧ b ≤ 6) :
    Calls Try.prog 179 #[.agg (bdV a b F), (.agg #[.int .i64 x, .int .i64 y])] W fun e w' => e = .returned (.bool (covB a b x y)) ∧ Below W.heap.size W w' := by
  have t1 := (brd_new W a b F).alloc (.cells #[.int .i64 x, .int .i64 y] 30)
  have t2 := at_new (W.alloc (.cells (bdV a b F) 124)) x y 30
  rw [size_alloc] at t2
  have b2 := below2 W (.cells (bdV a b F) 124) (.cells #[.int .i64 x, .int .i64 y] 30)
  have c0 := t1.c0; have c1 := t1.c1; have c2 := t2.c0; have c3 := t2.c1
  have HV : Hid (covB a b x y = (inB x 0 (a - 1) && inB y 0 (b - 1))) := rfl
  clear t1 t2
  cases hx : inB x 0 (a - 1)
  all_goals
    rw [hx] at HV
    go_enter Try.func179, Try.ntmps179
    go_wp2_with fail
    refine (from_any _ _ _ _).mono ?_
    rintro e w1 ⟨rfl, rfl⟩
    rw [hx]
    go_wp2_with fail
  · go_ret
    exact ⟨ret_bool HV.out.symm, b2⟩
  · refine (from_any _ _ _ _).mono ?_
    rintro e w1 ⟨rfl, rfl⟩
    go_wp2_with fail
    go_ret
    exact ⟨ret_bool HV.out.symm, b2⟩
theorem covB_nat {a b : Nat} {x y : Int} (h : covB a b x y = true) : ∃ i j : Nat, x = i ∧ y = j ∧ i < a ∧ j < b ∧ j * a + i < a * b ∧ (y * a + x) = ((j * a + i : Nat) : Int) := by
  unfold covB at h
  simp only [Bool.and_eq_true, inB_spec] at h
  refine ⟨x.toNat, y.toNat, by omega, by omega, by omega, by omega, in_tab (by omega) (by omega), ?_⟩
  rw [Int.natCast_add, Int.natCast_mul, Int.toNat_of_nonneg (by omega), Int.toNat_of_nonneg (by omega)]
theorem indexOf_any (a b : Nat) (F : Nat → Bool) (i j : Nat) (W : World) (ha : a ≤ 6) (hb : b ≤ 6) (hi : i < a) (hj : j < b) :
    Calls Try.prog 180 #[.agg (bdV a b F), (.agg #[.int .i64 (i : Int), .int .i64 (j : Int)])] W fun e w' => e = .returned (.int .i64 (j * a + i : Nat)) ∧ Below W.heap.size W w' := by
  have t1 := (brd_new W a b F).alloc (.cells #[.int .i64 i, .int .i64 j] 30)
  have t2 := at_new (W.alloc (.cells (bdV a b F) 124)) i j 30
  rw [size_alloc] at t2
  have b2 := below2 W (.cells (bdV a b F) 124) (.cells #[.int .i64 i, .int .i64 j] 30)
  have c0 := t1.c0; have c2 := t2.c0; have c3 := t2.c1
  obtain ⟨m, hm⟩ : ∃ m, m = j * a := ⟨_, rfl⟩
  have hm2 : m ≤ 36 := by rw [hm]; exact Nat.mul_le_mul (by omega : j ≤ 6) ha
  have hM : (j : Int) * (a : Int) = (m : Int) := by rw [hm, Int.natCast_mul]
  rw [← hm]
  clear t1 t2 hm
  go_enter Try.func180, Try.ntmps180
  go_wp2_with fail
  go_ret
  exact ⟨by go_num, b2⟩
set_option maxRecDepth 100000 in
theorem hasCell_any (a b : Nat) (F : Nat → Bool) (x y : Int) (W : World) (ha : 1 ≤ a ∧ a ≤ 6) (hb : 1 ≤ b ∧ b ≤ 6) (hab : a * b ≤ 36) :
    Calls Try.prog 156 #[.agg (bdV a b F), (.agg #[.int .i64 x, .int .i64 y])] W fun e w' => e = .returned (.bool (hasB a b F x y)) ∧ Below W.heap.size W w' := by
  have t1 := (brd_new W a b F).alloc (.cells #[.int .i64 x, .int .i64 y] 30)
  have t2 := at_new (W.alloc (.cells (bdV a b F) 124)) x y 30
  rw [size_alloc] at t2
  have b2 := below2 W (.cells (bdV a b F) 124) (.cells #[.int .i64 x, .int .i64 y] 30)
  have c2 := t2.c0; have c3 := t2.c1
  have HC := Lib.hid (fun w => covers_any a b F x y w ha hb)
  have HV : Hid (hasB a b F x y = (covB a b x y && F (y * a + x).toNat)) := rfl
  cases hc : covB a b x y
  · rw [hc] at HV HC
    go_enter Try.func156, Try.ntmps156
    go_wp2_with (refine wpList_loadB rfl _ rfl _ _ _ _ rfl t1 ?_)
    refine (HC.out _).mono ?_
    rintro e w1 ⟨rfl, hb1⟩
    have b3 := below_on b2 hb1
    go_wp2_with fail
    go_ret
    exact ⟨ret_bool (by rw [HV.out]; rfl), b3⟩
  · rw [hc] at HV HC
    obtain ⟨i, j, rfl, rfl, hi, hj, hij, hK⟩ := covB_nat hc
    have HI := Lib.hid (fun w => indexOf_any a b F i j w ha.2 hb.2 hi hj)
    rw [hK, Int.toNat_natCast] at HV
    generalize j * a + i = k at *
    clear hK
    have hk36 : k < 36 := by omega
    go_enter Try.func156, Try.ntmps156
    go_wp2_with (refine wpList_loadB rfl _ rfl _ _ _ _ rfl t1 ?_)
    refine (HC.out _).mono ?_
    rintro e w1 ⟨rfl, hb1⟩
    have b3 := below_on b2 hb1
    have t3 := t1.step hb1
    have t4 := t2.step hb1
    have c4 := t4.c0; have c5 := t4.c1
    clear t1 t2 b2 hb1 c2 c3
    go_wp2_with (refine wpList_loadB rfl _ rfl _ _ _ _ rfl t3 ?_)
    refine (HI.out _).mono ?_
    rintro e w2 ⟨rfl, hb2⟩
    have b4 := below_on b3 hb2
    have t5 := t3.step hb2
    have c6 := t5.at hk36
    clear t3 b3 hb2 c4 c5 t4
    go_wp2_with fail
    go_ret
    exact ⟨ret_bool (by rw [HV.out]; rfl), b4⟩
end Go.Proofs.Ytamchfdiehkloaa

/-! Tail -/
namespace Go.Proofs.Ytamchfdiehkloaa
open Go.Sort Go.RowKit

section
variable {P : Program} {ops : Array Oper} {md : Region.Mode} {C : World → Prop}
theorem wpAny_of_headQ {m g : Nat} {L : Array Bool → Act → Prop} {Q' : Exit → Act → World → Prop} (hL : ∀ listed a w, C w → L listed a → wpAny P md ops Q' g listed a w) :
    ∀ (f : Nat) (listed : Array Bool) (a : Act) (w : World), C w → wpAnyQL P md ops C m L f listed a → wpAny P md ops Q' (f + g) listed a w
  | 0, listed, a, w, hw, h => by rw [Nat.zero_add]; exact hL _ _ _ hw h
  | f + 1, listed, a, w, hw, h => by
    rw [show f + 1 + g = (f + g) + 1 by omega]
    exact ⟨fun h0 => absurd h0 h.1, fun i hi => wpOp_of_qOp hw (fun a' w' hw' h' => wpAny_of_headQ hL f _ a' w' hw' h') (h.2 i hi).2⟩
/-- **A quiet head of m operations, then a tail in sequence.** -/
theorem region_tail {id : Nat} {Q : Exit → Act → World → Prop} {a : Act} {w : World} {l : List Oper} (m : Nat) (hm : P.follows .mixedOrders = true) (hB : Region.lexTailB .any l.toArray m = true)
    (h : wpQuiet P l.toArray (fun w' => ∃ p : Regrown, w' = grow (redrawn w p.d) p.os) (fun a' => ∀ w', (∃ p : Regrown, w' = grow (redrawn w p.d) p.os) → wpList P l.toArray Q (l.drop m) a' w') (l.take m) a) :
    (Code.region id l.toArray true).wp P Q a w := by
  simp only [Region.lexTailB, Bool.and_eq_true, decide_eq_true_eq] at hB
  obtain ⟨⟨⟨⟨hsel, hn⟩, hs⟩, hc⟩, hlex⟩ := hB
  have hn' : m < l.length := by simpa using hn
  have htl : (l.take m).length = m := by simp; omega
  have hdl : (l.drop m).length = l.toArray.size - m := by simp
  have inv0 : HeadInv .any l.toArray m (Array.replicate l.toArray.size false) :=
    ⟨by simp, fun j oj _ hl => (by rw [getD_replicate_false] at hl; cases hl), fun t _ ht => getD_in (by simpa using ht) (getD_replicate_false _ _)⟩
  have H := wpAnyQL_lex (md := .any) (P := P) (C := fun w' => ∃ p : Regrown, w' = grow (redrawn w p.d) p.os) (g := l.toArray.size - m) hsel hs hc hn (l.take m) 0 _ a (fun j hj => by
    have hj' : j < m := by rw [htl] at hj; exact hj
    simp [hj']) (by simpa using htl) inv0 (by rw [htl]; exact hlex) h
  have hC : ∃ p : Regrown, ({ w with drawn := w.drawn + 1 } : World) = grow (redrawn w p.d) p.os := ⟨⟨w.drawn + 1, #[]⟩, by rw [grow_empty]; rfl⟩
  refine wp_region_any hm ?_
  have := wpAny_of_headQ (Q' := Q) (g := l.toArray.size - m) (fun listed a' w' hw' hL => by
    have := wpAny_of_seq (md := .any) (Q' := Q) (l.drop m) m listed a' w' (fun j => by simp [List.getElem?_drop]) (by rw [hdl]; exact hL.1) (hL.2 w' hw')
    rwa [hdl] at this) _ _ _ _ hC H
  rw [htl, show m + (l.toArray.size - m) = l.toArray.size by omega] at this
  exact this
end
end Go.Proofs.Ytamchfdiehkloaa

/-! Board3 -/
namespace Go.Proofs.Ytamchfdiehkloaa
open Go.RowKit

theorem mod_eqs (i a : Nat) (hi : i ≤ 36) : Int.tmod (i : Int) (a : Int) = ((i % a : Nat) : Int) ∧ wrap64 ((i : Int) / (a : Int)) = ((i / a : Nat) : Int) ∧ i / a ≤ 36 := by
  have h1 : i / a ≤ i := Nat.div_le_self _ _
  refine ⟨?_, ?_, by omega⟩
  · rw [Int.tmod_eq_emod_of_nonneg (by omega)]; exact (Int.natCast_emod _ _).symm
  · rw [← Int.natCast_ediv]
    generalize i / a = y at *
    exact IntWalk.wrap64_in _ (by omega)
set_option maxRecDepth 100000 in
theorem cellAt_any (a b : Nat) (F : Nat → Bool) (i : Nat) (W : World) (ha : 1 ≤ a) (hi : i ≤ 36) :
    Calls Try.prog 178 #[.agg (bdV a b F), .int .i64 i] W fun e w' => e = .returned (.agg #[.int .i64 ((i % a : Nat) : Int), .int .i64 ((i / a : Nat) : Int)]) ∧ Below W.heap.size W w' := by
  have t1 := (brd_new W a b F).alloc (.cells #[.int .i64 0, .int .i64 0] 30)
  have t2 := at_new (W.alloc (.cells (bdV a b F) 124)) 0 0 30
  rw [size_alloc] at t2
  have b2 := below2 W (.cells (bdV a b F) 124) (.cells #[.int .i64 0, .int .i64 0] 30)
  have c0 := t1.c0
  have k0 := cell_regrown c0
  obtain ⟨e1, e2, e3⟩ := mod_eqs i a hi
  have ha0 : ((a : Int) == 0) = false := by simp; omega
  generalize i % a = x at *
  generalize i / a = y at *
  go_enter Try.func178, Try.ntmps178
  go_wp2_with fail
  refine region_tail 9 (by kernel_rfl) (by kernel_rfl) ?_
  simp only [List.take_succ_cons, List.take_zero, List.drop_succ_cons, List.drop_zero]
  repeat (first
    | go_big_quiet_step (fail)
    | quiet_step (fail))
  refine wpQuiet_nil ?_
  rintro _ ⟨⟨dq, osq⟩, rfl⟩
  have hb2 := below_regrown ((W.alloc (.cells (bdV a b F) 124)).alloc (.cells #[.int .i64 0, .int .i64 0] 30)) dq osq
  have t3 := t2.step hb2
  have b3 := below_on b2 hb2
  clear t1 t2 b2 hb2 c0 k0 e1 e2 ha0
  simp only at *
  generalize Go.Sort.grow (redrawn ((W.alloc (.cells (bdV a b F) 124)).alloc (.cells #[.int .i64 0, .int .i64 0] 30)) dq) osq = w2 at *
  have v1 := t3.c0; have v2 := t3.c1
  have f1 := at_frozen t3 0; have f2 := at_frozen t3 1
  have v5 := (at_store t3 x 0).c1
  have z3 := at_store1 (at_store t3 x 0) y
  have d1 := z3.c0; have d2 := z3.c1
  have hsw : W.heap.size ≤ W.heap.size + 1 := Nat.le_succ _
  have b4 := (b3.setCell (p := ⟨W.heap.size + 1, 0, none⟩) hsw (.int .i64 x)).setCell (p := ⟨W.heap.size + 1, 1, none⟩) hsw (.int .i64 y)
  clear t3 b3 z3 hsw
  go_wp2_with fail
  exact bodyPost_ret (v := (.agg #[.int .i64 (x : Int), .int .i64 (y : Int)])) (by simp [results, Try.results178, go_sem, d1, d2]) rfl ⟨rfl, b4⟩
/-- The neighbors of a point, as the program lists them: up, left, right, down. -/
def nbP (x y : Int) (t : Nat) : Int × Int :=
  match t with
  | 0 => (x, y - 1)
  | 1 => (x - 1, y)
  | 2 => (x + 1, y)
  | _ => (x, y + 1)
def nbA (x y : Int) : Array Value := #[.int .i64 x, .int .i64 (y - 1), .int .i64 (x - 1), .int .i64 y, .int .i64 (x + 1), .int .i64 y, .int .i64 x, .int .i64 (y + 1)]
set_option maxRecDepth 100000 in
theorem nbs_any (x y : Int) (W : World) (hx : -100 ≤ x ∧ x ≤ 100) (hy : -100 ≤ y ∧ y ≤ 100) :
    Calls Try.prog 155 #[(.agg #[.int .i64 x, .int .i64 y])] W fun e w' => e = .returned (.agg (nbA x y)) ∧ Below W.heap.size W w' := by
  have t1 := (at_new W x y 30)
  have e1 : wrap64 (x - 1) = x - 1 := IntWalk.wrap64_in _ (by omega)
  have e2 : wrap64 (x + 1) = x + 1 := IntWalk.wrap64_in _ (by omega)
  have e3 : wrap64 (y - 1) = y - 1 := IntWalk.wrap64_in _ (by omega)
  have e4 : wrap64 (y + 1) = y + 1 := IntWalk.wrap64_in _ (by omega)
  go_enter Try.func155, Try.ntmps155
  go_wp2_with fail
  exact bodyPost_ret (v := .agg (nbA x y)) (results_cell_row rfl _ _ (W.heap.size + 1) 127 (nbA x y) (0, 0) _ rfl (heap_alloc2_new W _ _) Try.underlying127 rfl (by kernel_rfl)) rfl ⟨rfl, below2 _ _ _⟩
end Go.Proofs.Ytamchfdiehkloaa

/-! Take -/
namespace Go.Proofs.Ytamchfdiehkloaa
open Go.RowKit

def spot (a b : Nat) (x y : Int) : Option Nat := if covB a b x y = true then some (y * a + x).toNat else none
theorem spot_nat {a b i j : Nat} (hi : i < a) (hj : j < b) : spot a b (i : Int) (j : Int) = some (j * a + i) := by
  have hc : covB a b (i : Int) (j : Int) = true := by
    unfold covB
    simp only [Bool.and_eq_true, inB_spec]
    omega
  unfold spot
  rw [if_pos hc, ← Int.natCast_mul, ← Int.natCast_add, Int.toNat_natCast]
theorem spot_out {a b : Nat} {x y : Int} (h : x < 0 ∨ (a : Int) ≤ x ∨ y < 0 ∨ (b : Int) ≤ y) : spot a b x y = none := by
  have hc : ¬ covB a b x y = true := by
    unfold covB
    simp only [Bool.and_eq_true, inB_spec]
    omega
  unfold spot
  rw [if_neg hc]
theorem nbI_at {a b i j : Nat} (hi : i < a) (hj : j < b) (t : Nat) : spot a b (nbP i j t).1 (nbP i j t).2 = nbI a b (j * a + i) t := by
  obtain ⟨e1, e2⟩ := row_col (by omega) hi (rfl : j * a + i = j * a + i)
  have hs : ∀ u v : Nat, ∀ x y : Int, x = u → y = v → u < a → v < b → spot a b x y = some (v * a + u) := fun u v x y h1 h2 h3 h4 => by
    subst h1; subst h2; exact spot_nat h3 h4
  match t with
  | 0 =>
    simp only [nbP, nbI, e2]
    by_cases h : 0 < j
    · rw [if_pos h, hs i (j - 1) _ _ rfl (by omega) hi (by omega)]
      have : j * a = (j - 1) * a + a := by
        rw [show j = (j - 1) + 1 by omega, Nat.add_mul, Nat.one_mul]; simp
      congr 1; omega
    · rw [if_neg h, spot_out (by omega)]
  | 1 =>
    simp only [nbP, nbI, e1]
    by_cases h : 0 < i
    · rw [if_pos h, hs (i - 1) j _ _ (by omega) rfl (by omega) hj]
      congr 1; omega
    · rw [if_neg h, spot_out (by omega)]
  | 2 =>
    simp only [nbP, nbI, e1]
    by_cases h : i + 1 < a
    · rw [if_pos h, hs (i + 1) j _ _ (by omega) rfl h hj]
      congr 1
    · rw [if_neg h, spot_out (by omega)]
  | t + 3 =>
    simp only [nbP, nbI, e2]
    by_cases h : j + 1 < b
    · rw [if_pos h, hs i (j + 1) _ _ rfl (by omega) hi h]
      congr 1
      rw [Nat.add_mul, Nat.one_mul]; omega
    · rw [if_neg h, spot_out (by omega)]
theorem has_spot {a b : Nat} {F : Nat → Bool} {x y : Int} : hasB a b F x y = true ↔ ∃ i j : Nat, x = i ∧ y = j ∧ i < a ∧ j < b ∧ F (j * a + i) = true := by
  unfold hasB
  constructor
  · intro h
    simp only [Bool.and_eq_true] at h
    obtain ⟨i, j, rfl, rfl, hi, hj, _, e⟩ := covB_nat h.1
    rw [e, Int.toNat_natCast] at h
    exact ⟨i, j, rfl, rfl, hi, hj, h.2⟩
  · rintro ⟨i, j, rfl, rfl, hi, hj, hF⟩
    have hc : covB a b (i : Int) (j : Int) = true := by
      unfold covB
      simp only [Bool.and_eq_true, inB_spec]
      omega
    rw [hc, ← Int.natCast_mul, ← Int.natCast_add, Int.toNat_natCast, hF]; rfl
theorem took_no {a b : Nat} {F : Nat → Bool} {x y : Int} (h : hasB a b F x y = false) : Took (Adj a b) F (spot a b x y) 0 := by
  unfold hasB at h
  unfold spot
  cases hc : covB a b x y
  · rw [if_neg (by simp)]; exact Took.none
  · rw [hc, Bool.true_and] at h
    rw [if_pos rfl]; exact Took.off h
theorem upd_rem (F : Nat → Bool) (k : Nat) : updF F k false = rem1 F k := by
  funext j
  by_cases e : j = k
  · subst e; simp [updF, rem1]
  · simp [updF, rem1, e]
theorem took_lt {A : Nat → Nat → Prop} {F : Nat → Bool} {o : Option Nat} {P n : Nat} (hF : ∀ j, n ≤ j → F j = false) (h : Took A F o P) : P < 2 ^ n := by
  apply Nat.lt_pow_two_of_testBit
  intro j hj
  rw [← Bool.not_eq_true, h j]
  rintro ⟨k, _, r⟩
  have := r.mem
  rw [hF j hj] at this; cases this
theorem taking_lt {A : Nat → Nat → Prop} {F : Nat → Bool} {i P n : Nat} {os : List (Option Nat)} (hF : ∀ j, n ≤ j → F j = false) (hi : i < n) (h : Taking A F i os P) : P < 2 ^ n := by
  apply Nat.lt_pow_two_of_testBit
  intro j hj
  rw [← Bool.not_eq_true, h j]
  rintro (rfl | ⟨k, _, r⟩)
  · omega
  · have := r.mem
    simp [rem1, hF j hj] at this
theorem less_cnt {A : Nat → Nat → Prop} {F : Nat → Bool} {i P n : Nat} {os : List (Option Nat)} (hF : F i = true) (hi : i < n) (h : Taking A F i os P) : cntF (less F P) n < cntF F n := by
  refine Nat.lt_of_le_of_lt (cntF_mono (G := rem1 F i) fun j hj => ?_) (cntF_rem hi hF)
  simp only [less, rem1, Bool.and_eq_true, Bool.not_eq_true', decide_eq_false_iff_not] at hj ⊢
  refine ⟨hj.1, fun e => ?_⟩
  have := (h j).2 (.inl e)
  rw [hj.2] at this; cases this
theorem less_off {F : Nat → Bool} {P n : Nat} (hF : ∀ j, n ≤ j → F j = false) : ∀ j, n ≤ j → less F P j = false := fun j hj => by simp [less, hF j hj]
theorem range_snoc {α : Type} (f : Nat → α) (t : Nat) : (List.range (t + 1)).map f = (List.range t).map f ++ [f t] := by rw [List.range_succ, List.map_append]; rfl

theorem gb_trans {a w w' : World} {r : Option Nat} (h : a.grownBy w r) (h2 : w.grownBy w' r) : a.grownBy w' r :=
  ⟨h2.os.trans h.os, h2.tape.trans h.tape, h2.output.trans h.output, Nat.le_trans h.size h2.size, fun k hk hr => (h2.block k (Nat.lt_of_lt_of_le hk h.size) hr).trans (h.block k hk hr)⟩
theorem gb_below {a w w' : World} {r : Option Nat} (h : a.grownBy w r) (h2 : Below w.heap.size w w') : a.grownBy w' r :=
  ⟨h2.os.trans h.os, h2.tape.trans h.tape, h2.output.trans h.output, Nat.le_trans h.size h2.size, fun k hk hr => (h2.block k (Nat.lt_of_lt_of_le hk h.size)).trans (h.block k hk hr)⟩
theorem gb_set {a w : World} {g : Nat} (h : a.grownBy w (some g)) (j : Nat) (u : Value) : a.grownBy (w.setCell ⟨g, j, none⟩ u) (some g) :=
  ⟨h.os, h.tape, h.output, by simpa [World.setCell] using h.size, fun k hk hr => (Below.heap_setCell w ⟨g, j, none⟩ u k (by
    intro e; exact hr (by rw [e]))).trans (h.block k hk hr)⟩
def TookP (a b g : Nat) (F : Nat → Bool) (o : Option Nat) (W : World) (e : Ending) (w' : World) : Prop :=
  ∃ P : Nat, e = .returned (.int .i64 P) ∧ Took (Adj a b) F o P ∧ Brd w' g a b (less F P) ∧ W.grownBy w' (some g)
theorem idx_nb (x y : Int) (t : Nat) (ht : t < 4) (w : World) : (Instr.index 127 (.agg (nbA x y)) (.int .i64 (t : Int))).run Try.prog w = .ok (.agg #[.int .i64 (nbP x y t).1, .int .i64 (nbP x y t).2]) w := by
  match t, ht with
  | 0, _ => simp [go_sem, Instr.index, nbA, nbP]
  | 1, _ => simp [go_sem, Instr.index, nbA, nbP]
  | 2, _ => simp [go_sem, Instr.index, nbA, nbP]
  | 3, _ => simp [go_sem, Instr.index, nbA, nbP]
  | t + 4, h => omega
theorem nbP_bd {x y : Int} (h : 0 ≤ x ∧ x ≤ 6 ∧ 0 ≤ y ∧ y ≤ 6) (t : Nat) : -2 ≤ (nbP x y t).1 ∧ (nbP x y t).1 ≤ 7 ∧ -2 ≤ (nbP x y t).2 ∧ (nbP x y t).2 ≤ 7 := by
  match t with
  | 0 => simp only [nbP]; omega
  | 1 => simp only [nbP]; omega
  | 2 => simp only [nbP]; omega
  | t + 3 => simp only [nbP]; omega
theorem wpQuiet_loadB {ops : Array Oper} {rest : List Oper} {o : Oper} {a : Act} {w : World} {Q : Act → Prop} (hw : Region.wanted o (yielded ops a.tmps) = true) (x : Operand) (ho : o.op = .load 124 x) (g p q : Nat) (F : Nat → Bool) (hx : a.eval x = .pointer (some ⟨g, 0, none⟩)) (hg : Brd w g p q F)
    (h : wpQuiet Try.prog ops (fun w' => ∃ p : Regrown, w' = Go.Sort.grow (redrawn w p.d) p.os) Q rest (a.put o.dst (.agg (bdV p q F)))) : wpQuiet Try.prog ops (fun w' => ∃ p : Regrown, w' = Go.Sort.grow (redrawn w p.d) p.os) Q (o :: rest) a :=
  wpQuiet_step fun K hK => by
    rw [if_pos hw]
    refine ⟨.agg (bdV p q F), fun w' hC => ?_, hK _ h⟩
    obtain ⟨r, rfl⟩ := hC
    have hl := run_loadVar_row (P := Try.prog) _ g 124 124 _ (0, 0) _ (hg.step (below_regrown w r.d r.os)) Try.underlying124 rfl (infoB' _ _ _)
    unfold Oper.quietAt execOp
    simp only [ho, hx, Instr.loadAt, Instr.sureAddr, Sem.run_bind, Sem.run_pure, Result.andThen_ok, hl]
    exact ⟨rfl, rfl⟩
set_option maxRecDepth 100000 in
set_option maxHeartbeats 2000000 in
theorem take_any (a b : Nat) (ha : 1 ≤ a ∧ a ≤ 6) (hb : 1 ≤ b ∧ b ≤ 6) (hab : a * b ≤ 36) : ∀ (N : Nat) (F : Nat → Bool) (x y : Int) (g : Nat) (W : World), cntF F (a * b) ≤ N → (∀ j, a * b ≤ j → F j = false) → Brd W g a b F → (-2 ≤ x ∧ x ≤ 7 ∧ -2 ≤ y ∧ y ≤ 7) →
    Calls Try.prog 199 #[.pointer (some ⟨g, 0, none⟩), (.agg #[.int .i64 x, .int .i64 y])] W (TookP a b g F (spot a b x y) W)
  | N, F, x, y, g, W, hN, hF, hg, hxy => by
    have HH := Lib.hid (fun w => hasCell_any a b F x y w ha hb hab)
    have t1 := hg.alloc (.cells #[.int .i64 x, .int .i64 y] 30)
    have t2 := at_new W x y 30
    have b1 := below1 W (.cells #[.int .i64 x, .int .i64 y] 30)
    have c2 := t2.c0; have c3 := t2.c1
    have k2 := cell_regrown c2; have k3 := cell_regrown c3
    cases hh : hasB a b F x y
    · have HT : Hid (Took (Adj a b) F (spot a b x y) 0) := took_no hh
      rw [hh] at HH
      clear hN hF hh hxy
      generalize spot a b x y = o at *
      go_enter Try.func199, Try.ntmps199
      go_wp2_with fail
      refine wp_region_quiet_below (by kernel_rfl) (by kernel_rfl) ?_
      repeat (first
        | refine wpQuiet_loadB rfl _ rfl _ _ _ _ rfl t1 ?_
        | go_big_quiet_step (first | exact Calls.regrown_of (HH.out _))
        | quiet_step (first | exact Calls.regrown_of (HH.out _)))
      refine wpQuiet_nil ?_
      rintro _ ⟨⟨dq, osq⟩, rfl⟩
      have hb2 := below_on b1 (below_regrown (W.alloc (.cells #[.int .i64 x, .int .i64 y] 30)) dq osq)
      clear t1 t2 b1 c2 c3 k2 k3
      simp only at *
      generalize Go.Sort.grow (redrawn (W.alloc (.cells #[.int .i64 x, .int .i64 y] 30)) dq) osq = w2 at *
      have R : Hid (TookP a b g F o W (.returned (.int .i64 0)) w2) := ⟨0, rfl, HT.out, by rw [less_zero]; exact hg.step hb2, gb_below (World.grownBy.refl W _) hb2⟩
      clear hg hb2 HH HT
      go_wp2_with fail
      go_ret
      exact R.out
    · obtain ⟨i, j, rfl, rfl, hi, hj, hFk⟩ := has_spot.1 hh
      rw [hh] at HH
      clear hh
      have HO := Lib.hid (spot_nat (a := a) (b := b) hi hj)
      have HI := Lib.hid (fun w => indexOf_any a b F i j w ha.2 hb.2 hi hj)
      have hk := in_tab (h := b) hi hj
      have HN := Lib.hid (nbI_at (a := a) (b := b) hi hj)
      rw [HO.out]
      obtain ⟨k, hkk⟩ : ∃ k, k = j * a + i := ⟨_, rfl⟩
      rw [← hkk] at HO HI hk HN hFk ⊢
      clear hkk
      obtain ⟨N, rfl⟩ : ∃ N', N = N' + 1 := ⟨N - 1, by have := cntF_rem hk hFk; omega⟩
      have HIH := Lib.hid (fun F x y g W h1 h2 h3 h4 => take_any a b ha hb hab N F x y g W h1 h2 h3 h4)
      have HNB := Lib.hid (fun w => nbs_any (i : Int) (j : Int) w (by omega) (by omega))
      have HX : ∀ w (t : Nat), t < 4 → (Instr.index 127 (.agg (nbA i j)) (.int .i64 (t : Int))).run Try.prog w = .ok (.agg #[.int .i64 (nbP i j t).1, .int .i64 (nbP i j t).2]) w := fun w t ht => idx_nb i j t ht w
      have HXX := Lib.hid HX
      have HBD := Lib.hid (nbP_bd (x := (i : Int)) (y := (j : Int)) (by omega))
      have hk36 : k < 36 := by omega
      have HF0 := Lib.hid (And.intro hN (And.intro hF hFk))
      have HDN := Lib.hid (fun P (T : Taking (Adj a b) F k ((List.range 4).map (nbI a b k)) P) => Taking.done hFk (nbI_adj (by omega) hk) T)
      clear hN hF HX hFk
      go_enter Try.func199, Try.ntmps199
      go_wp2_with fail
      refine wp_region_quiet_below (by kernel_rfl) (by kernel_rfl) ?_
      repeat (first
        | refine wpQuiet_loadB rfl _ rfl _ _ _ _ rfl t1 ?_
        | go_big_quiet_step (first | exact Calls.regrown_of (HH.out _))
        | quiet_step (first | exact Calls.regrown_of (HH.out _)))
      refine wpQuiet_nil ?_
      rintro _ ⟨⟨dq, osq⟩, rfl⟩
      have hr2 := below_regrown (W.alloc (.cells #[.int .i64 i, .int .i64 j] 30)) dq osq
      have b2 := below_on b1 hr2
      replace t1 := t1.step hr2
      replace t2 := t2.step hr2
      clear b1 c2 c3 k2 k3 hr2 HH
      simp only at *
      generalize Go.Sort.grow (redrawn (W.alloc (.cells #[.int .i64 i, .int .i64 j] 30)) dq) osq = w2 at *
      have c2 := t2.c0; have c3 := t2.c1
      have k2 := cell_regrown c2; have k3 := cell_regrown c3
      go_wp2_with fail
      refine wp_region_quiet_below (by kernel_rfl) (by kernel_rfl) ?_
      repeat (first
        | refine wpQuiet_loadB rfl _ rfl _ _ _ _ rfl t1 ?_
        | go_big_quiet_step (first | exact Calls.regrown_of (HI.out _))
        | quiet_step (first | exact Calls.regrown_of (HI.out _)))
      refine wpQuiet_nil ?_
      rintro _ ⟨⟨dq, osq⟩, rfl⟩
      have hr2 := below_regrown w2 dq osq
      replace b2 := below_on b2 hr2
      replace t1 := t1.step hr2
      replace t2 := t2.step hr2
      clear c2 c3 k2 k3 hr2 HI
      simp only at *
      generalize Go.Sort.grow (redrawn w2 dq) osq = w3 at *
      have c2 := t2.c0; have c3 := t2.c1
      have f1 := t1.frozen (2 + k)
      have v1 := t1.at hk36
      have hgW := hg.lt
      have n2 : W.heap.size ≠ g := by omega
      have s1 := t1.set hk36 false
      rw [upd_rem, ← less_pow] at s1
      have s2 := at_set t2 (b := g) n2 (2 + k) (.bool false)
      have g2 := gb_set (gb_below (World.grownBy.refl W (some g)) b2) (2 + k) (.bool false)
      have e5 : (w3.setCell ⟨g, 2 + k, none⟩ (.bool false)).heap.size = w3.heap.size := by simp
      obtain ⟨p, hp, hp2, hp3⟩ := pow_nat k hk36
      rw [← hp2] at s1
      have HP : Hid (Taking (Adj a b) F k ((List.range 0).map (nbI a b k)) p) := by
        show Taking _ _ _ _ _
        rw [hp2]; exact Taking.start
      clear hp2 c2 c3
      have c2 := s2.c0; have c3 := s2.c1
      clear t1 t2 b2 hg
      go_wp2_with fail
      generalize w3.setCell ⟨g, 2 + k, none⟩ (.bool false) = w4 at *
      refine (HNB.out _).mono ?_
      rintro e w5 ⟨rfl, hb5⟩
      replace s1 := s1.step hb5
      replace g2 := gb_below g2 hb5
      clear hb5 c2 c3 s2 f1 v1 e5 HNB hp
      go_wp2_with fail
      go_loopw [6, 29] (fun s i wr => ∃ t P : Nat, t ≤ 4 ∧ i = .int .i64 t ∧ s = .int .i64 P ∧ Hid (Taking (Adj a b) F k ((List.range t).map (nbI a b k)) P) ∧ Brd wr g a b (less F P) ∧ W.grownBy wr (some g)) (fun _ i _ => 4 - (intOf i).toNat)
      case atStart => exact ⟨0, p, by omega, rfl, rfl, HP, s1, g2⟩
      case round =>
        clear s1 g2 HP
        obtain ⟨wo, rfl⟩ : ∃ wo : World, wo = wr := ⟨_, rfl⟩
        obtain ⟨t, P, ht, rfl, rfl, HT, hg, hgr⟩ := hrel
        have hP := Nat.lt_of_lt_of_le (taking_lt HF0.out.2.1 hk HT.out) (two_le36 hab)
        by_cases hlt : t < 4
        · have hx := HXX.out
          have hx1 : (Instr.index 127 (.agg (nbA i j)) (.int .i64 (t : Int))).run Try.prog wo = .ok (.agg #[.int .i64 (nbP i j t).1, .int .i64 (nbP i j t).2]) wo := hx wo t hlt
          clear hx
          have hbd := HBD.out t
          have hnb := HN.out t
          have hcn : cntF (less F P) (a * b) ≤ N := by
            have := less_cnt HF0.out.2.2 hk HT.out
            have := HF0.out.1
            omega
          have hoff := less_off (P := P) HF0.out.2.1
          have HC := Lib.hid (fun w hw => HIH.out (less F P) (nbP i j t).1 (nbP i j t).2 g w hcn hoff hw hbd)
          rw [hnb] at HC
          clear hnb hcn
          have HFO := Lib.hid hoff
          clear hoff
          generalize (nbP (i : Int) (j : Int) t).1 = u at *
          generalize (nbP (i : Int) (j : Int) t).2 = v at *
          have a1 := at_new wo u v 30
          have c2 := a1.c0; have c3 := a1.c1
          have hg1 := hg.alloc (.cells #[.int .i64 u, .int .i64 v] 30)
          have hgr1 := gb_below hgr (below1 wo (.cells #[.int .i64 u, .int .i64 v] 30))
          have HCC := Lib.hid (HC.out _ hg1)
          clear HC hg hgr hg1 a1 hbd
          go_wp2_with fail
          refine HCC.out.mono ?_
          rintro e w6 ⟨Q, rfl, hQ, hg6, hgr6⟩
          have hQ2 := Nat.lt_of_lt_of_le (took_lt HFO.out hQ) (two_le36 hab)
          have hor := or_nat (a := P) (b := Q) (by omega) (by omega)
          have HT2 : Hid (Taking (Adj a b) F k ((List.range (t + 1)).map (nbI a b k)) (P ||| Q)) := by
            show Taking _ _ _ _ _
            rw [range_snoc]
            exact HT.out.next (fun _ _ h => h.symm) hQ
          rw [less_or] at hg6
          have R := Lib.hid (And.intro hg6 (gb_trans hgr1 hgr6))
          clear hQ hg6 hgr6 hgr1 HT HCC c2 c3 hx1
          generalize P ||| Q = P2 at *
          go_wp2_with fail
          go_roundw
          case rel => exact ⟨t + 1, P2, by omega, by go_num, rfl, HT2, R.out.1, R.out.2⟩
          case measure => simp [intOf]; omega
        · obtain rfl : t = 4 := by omega
          have R : Hid (TookP a b g F (some k) W (.returned (.int .i64 P)) wo) := ⟨P, rfl, HDN.out P HT.out, hg, hgr⟩
          clear HT hg hgr
          go_wp2_with fail
          go_ret
          exact R.out
end Go.Proofs.Ytamchfdiehkloaa

/-! ToPts -/
namespace Go.Proofs.Ytamchfdiehkloaa
open Go.RowKit

/-- The cells of a slice of points that came in, wherever it lies. -/
def ArgA (w : World) (A : Option Addr) (L : List (Int × Int)) : Prop := ∀ k (h : k < L.length), ∃ a : Addr, A = some a ∧ a.block < w.heap.size ∧ w.cell? (a.add (k * 2)) = some (.int .i64 L[k].1) ∧ w.cell? (a.add (k * 2 + 1)) = some (.int .i64 L[k].2)
theorem ArgA.step {w w' : World} {A : Option Addr} {L : List (Int × Int)} (h : ArgA w A L) (hb : Below w.heap.size w w') : ArgA w' A L := fun k hk => by
  obtain ⟨a, hA, hl, h1, h2⟩ := h k hk
  exact ⟨a, hA, Nat.lt_of_lt_of_le hl hb.size, cell_on hb rfl h1, cell_on hb rfl h2⟩
theorem add_next (a : Addr) (j : Nat) : (⟨(a.add j).block, (a.add j).off + 1, none⟩ : Addr) = a.add (j + 1) := by
  have h : j + 1 ≠ 0 := by omega
  unfold Addr.add
  by_cases hj : j = 0
  · subst hj; simp
  · rw [if_neg hj, if_neg h]; simp [Nat.add_assoc]
theorem flat_set {L : List (Int × Int)} {zs : List Value} (hz : zs.length = L.length * 2) (k : Nat) (hk : k < L.length) :
    ((flat (L.take k) ++ zs.drop (k * 2)).set (k * 2) (.int .i64 L[k].1)).set (k * 2 + 1) (.int .i64 L[k].2) = flat (L.take (k + 1)) ++ zs.drop ((k + 1) * 2) := by
  have h1 : (flat (L.take k)).length = k * 2 := by rw [flat_len, List.length_take]; omega
  have e1 : zs.drop (k * 2) = zs[k * 2]'(by omega) :: zs[k * 2 + 1]'(by omega) :: zs.drop ((k + 1) * 2) := by
    have e0 : (k + 1) * 2 = k * 2 + 1 + 1 := by omega
    rw [e0, List.drop_eq_getElem_cons (by omega), List.drop_eq_getElem_cons (i := k * 2 + 1) (by omega)]
  rw [List.set_append_right _ _ (by omega), h1, Nat.sub_self, e1, List.set_cons_zero, List.set_append_right _ _ (by omega), h1, Nat.add_sub_cancel_left, List.set_cons_succ, List.set_cons_zero, List.take_succ_eq_append_getElem hk, flat_append, List.append_assoc]
  rfl
end Go.Proofs.Ytamchfdiehkloaa

/-! PolyLaw -/
namespace Go.Proofs.Ytamchfdiehkloaa
open Go.RowKit

end Go.Proofs.Ytamchfdiehkloaa

/-! IntsLaw -/
namespace Go.Proofs.Ytamchfdiehkloaa
open Go.RowKit

theorem own_apart_g {w w1 : World} {B0 B1 s0 s1 : Nat} {e0 e1 : TypeId} {v0 v1 : Value} {n0 n1 : Nat} {xs0 xs1 : List Value} (h0 : w.ownsRow B0 e0 s0 v0 n0 xs0) (hB : w.heap.size ≤ B1) (h1 : w1.ownsRow B1 e1 s1 v1 n1 xs1) : v0.ownBlock = none ∨ v0.ownBlock ≠ v1.ownBlock := by
  cases hv : v0.ownBlock with
  | none => exact .inl rfl
  | some k =>
    refine .inr fun he => ?_
    have a1 := (h0.lt k hv).2
    have a2 := (h1.lt k he.symm).1
    omega
theorem own_apart_g' {w w1 : World} {B0 B1 s0 s1 : Nat} {e0 e1 : TypeId} {v0 v1 : Value} {n0 n1 : Nat} {xs0 xs1 : List Value} (h0 : w.ownsRow B0 e0 s0 v0 n0 xs0) (hB : w.heap.size ≤ B1) (h1 : w1.ownsRow B1 e1 s1 v1 n1 xs1) : v1.ownBlock = none ∨ v1.ownBlock ≠ v0.ownBlock := by
  rcases own_apart_g h0 hB h1 with h | h
  · cases hv : v1.ownBlock with
    | none => exact .inl rfl
    | some k => exact .inr (fun e => by rw [h] at e; cases e)
  · exact .inr (fun e => h e.symm)
theorem intsA_of {w : World} {B : Nat} {e : TypeId} {A : Option Addr} {n c : Nat} {M : List Int} (h : w.ownsRow B e 1 (.slice A n c) n (ints M)) : IntsA w A M := by
  obtain ⟨_, A', c', hv, hP⟩ := own_ints h
  simp only [Value.slice.injEq] at hv
  obtain ⟨rfl, -, -⟩ := hv
  exact hP
set_option maxRecDepth 100000 in
set_option maxHeartbeats 800000 in
theorem eq_ints (A1 A2 : Option Addr) (c1 c2 : Nat) (M : List Int) (w : World) (h1 : IntsA w A1 M) (h2 : IntsA w A2 M) (hL : M.length ≤ 1048576) :
    Calls Try.prog 43 #[.slice A1 M.length c1, .slice A2 M.length c2] w fun e w' => e = .returned (.bool true) ∧ Below w.heap.size w w' := by
  have H1 := Lib.hid h1; clear h1
  have H2 := Lib.hid h2; clear h2
  go_enter Try.func43, Try.ntmps43
  go_wp2_with fail
  go_loopw [5] (fun i w' => ∃ k : Nat, k ≤ M.length ∧ i = .int .i64 k ∧ Below w.heap.size w w') (fun i _ => M.length - (intOf i).toNat)
  case atStart => exact ⟨0, Nat.zero_le _, rfl, Below.refl _ _⟩
  case round =>
    obtain ⟨wo, rfl⟩ : ∃ wo : World, wo = wr := ⟨_, rfl⟩
    obtain ⟨k, hk, rfl, hb⟩ := hrel
    by_cases hlt : k < M.length
    · obtain ⟨g1, rfl, hc1⟩ := intsA_on H1.out hb k hlt
      obtain ⟨g2, rfl, hc2⟩ := intsA_on H2.out hb k hlt
      obtain ⟨x, hx⟩ : ∃ x, x = M[k] := ⟨_, rfl⟩
      rw [← hx] at hc1 hc2
      clear hx
      have k1 := cell_regrown hc1; have k3 := cell_regrown hc2
      go_wp2_with fail
      refine wp_region_quiet_below (by kernel_rfl) (by kernel_rfl) ?_
      repeat (first
        | go_big_quiet_step (fail)
        | quiet_step (fail))
      refine wpQuiet_nil ?_
      rintro _ ⟨⟨dq, osq⟩, rfl⟩
      have hb2 := hb.trans ((below_regrown wo dq osq).mono hb.size)
      clear hc1 hc2 k1 k3
      simp only at *
      generalize Go.Sort.grow (redrawn wo dq) osq = w2 at *
      go_wp2_with fail
      go_roundw
      case rel => exact ⟨k + 1, by omega, by go_num, hb2⟩
      case measure => simp [intOf]; omega
    · go_wp2_with fail
      go_ret
      exact ⟨rfl, hb⟩
theorem cell_some1 {w : World} {B : Nat} {e : TypeId} {g n cap : Nat} {xs : List Value} (h : w.ownsRow B e 1 (.slice (some ⟨g, 0, none⟩) n cap) n xs) (j : Nat) (hj : j < n) : ∃ u, w.cell? ⟨g, j, none⟩ = some u := by
  rw [h.cellAt j (by omega)]
  have : j < xs.length := by rw [h.1]; omega
  exact ⟨_, List.getElem?_eq_getElem this⟩
set_option maxRecDepth 100000 in
set_option maxHeartbeats 800000 in
/-- Every number of an owned slice of ints is overwritten by its mark. -/
theorem mark_ints (B : Nat) (v : Value) (n : Nat) (xs : List Value) (w : World) (hown : w.ownsRow B 3 1 v n xs) (hn : n ≤ 1048576) :
    Calls Try.prog 46 #[v, .int .i64 1] w fun e w' => e = .returned (.int .i64 (1 + n)) ∧ w'.ownsRow B 3 1 v n (marksI n) ∧ w.grownBy w' v.ownBlock := by
  have hl : xs.length = n := by have := hown.1; omega
  rcases hown.2 with ⟨rfl, rfl⟩ | ⟨g, cap, cur, rfl, _⟩
  · go_enter Try.func46, Try.ntmps46
    go_wp2_with fail
    refine wp_loop_rounds 1 ?_
    rw [rounds_succ]
    go_wp2_with fail
    go_ret
    exact ⟨rfl, World.ownsRow_nil _ _ _ _, World.grownBy.refl _ _⟩
  · go_enter Try.func46, Try.ntmps46
    go_wp2_with fail
    go_loopw [1, 5] (fun m i wr => ∃ k : Nat, k ≤ n ∧ i = .int .i64 k ∧ m = .int .i64 (1 + k) ∧ wr.ownsRow B 3 1 (.slice (some ⟨g, 0, none⟩) n cap) n (marksI k ++ xs.drop k) ∧ w.grownBy wr (some g)) (fun _ i _ => n - (intOf i).toNat)
    case atStart => exact ⟨0, Nat.zero_le _, rfl, rfl, by simpa [marksI] using hown, World.grownBy.refl _ _⟩
    case round =>
      obtain ⟨k, hk, rfl, rfl, hown', hgr⟩ := hrel
      by_cases hlt : k < n
      · obtain ⟨u1, hc1⟩ := cell_some1 hown' k hlt
        have hf1 := hown'.frozenAt k
        have hs1 := (hown'.stored k (.int .i64 (1 + (k : Int)))).1
        rw [marksI_step (by omega)] at hs1
        have hg2 := only_set hgr k (.int .i64 (1 + (k : Int)))
        have R := Lib.hid (And.intro hs1 hg2)
        clear hs1 hg2 hown' hgr hown
        go_wp2_with fail
        go_roundw
        case rel => exact ⟨k + 1, by omega, by go_num, by go_num, R.out.1, R.out.2⟩
        case measure => simp [intOf]; omega
      · obtain rfl : k = n := by omega
        rw [List.drop_of_length_le (by omega), List.append_nil] at hown'
        have R := Lib.hid hown'
        clear hown' hown
        go_wp2_with fail
        go_ret
        exact ⟨rfl, R.out, hgr⟩
set_option maxRecDepth 100000 in
set_option maxHeartbeats 800000 in
/-- The marks are still there. -/
theorem held_ints (B : Nat) (v : Value) (n : Nat) (w : World) (hown : w.ownsRow B 3 1 v n (marksI n)) (hn : n ≤ 1048576) :
    Calls Try.prog 47 #[v, .int .i64 1] w fun e w' => e = .returned (.int .i64 (1 + n)) ∧ w' = w := by
  have hM : ∀ j, j < n → (marksI n)[j]? = some (.int .i64 (1 + (j : Int))) := fun j hj => by simp [marksI, hj]
  rcases hown.2 with ⟨rfl, rfl⟩ | ⟨g, cap, cur, rfl, _⟩
  · clear hM
    go_enter Try.func47, Try.ntmps47
    go_wp2_with fail
    refine wp_loop_rounds 1 ?_
    rw [rounds_succ]
    go_wp2_with fail
    go_ret
    exact ⟨rfl, rfl⟩
  · have HC : Hid (∀ j, j < n → w.cell? ⟨g, j, none⟩ = some (.int .i64 (1 + (j : Int)))) := fun j hj => (hown.cellAt j (by omega)).trans (hM j hj)
    clear hM hown
    go_enter Try.func47, Try.ntmps47
    go_wp2_with fail
    go_loopw [1, 5] (fun m i wr => ∃ k : Nat, k ≤ n ∧ i = .int .i64 k ∧ m = .int .i64 (1 + k) ∧ wr = w) (fun _ i _ => n - (intOf i).toNat)
    case atStart => exact ⟨0, Nat.zero_le _, rfl, rfl, rfl⟩
    case round =>
      obtain ⟨k, hk, rfl, rfl, rfl⟩ := hrel
      by_cases hlt : k < n
      · have hc1 := HC.out k hlt
        go_wp2_with fail
        go_roundw
        case rel => exact ⟨k + 1, by omega, by go_num, by go_num, by first | trivial | rfl⟩
        case measure => simp [intOf]; omega
      · obtain rfl : k = n := by omega
        go_wp2_with fail
        go_ret
        exact ⟨rfl, rfl⟩
end Go.Proofs.Ytamchfdiehkloaa

/-! PartsI -/
namespace Go.Proofs.Ytamchfdiehkloaa
open Go.RowKit

theorem less_sub {A : Nat → Nat → Prop} {q k p : Nat} (h : PartOf A q.testBit k p) : less q.testBit p = (q - p).testBit := by
  funext j
  rw [testBit_sub h.sub]; rfl
theorem cell_index {a b k : Nat} (ha : 0 < a) (hk : k < a * b) : k % a < a ∧ k / a < b ∧ k / a * a + k % a = k := by
  refine ⟨Nat.mod_lt _ ha, by rw [Nat.div_lt_iff_lt_mul ha, Nat.mul_comm]; exact hk, ?_⟩
  have := Nat.div_add_mod k a
  rw [Nat.mul_comm] at this; exact this
set_option maxRecDepth 100000 in
set_option maxHeartbeats 2000000 in
theorem impl_parts (w h M : Int) (W : World) : Calls Try.prog 173 #[.int .i64 w, .int .i64 h, .int .i64 M] W (PartsP w h M W) := by
  have HS := Lib.hid (fun W => impl_shape w h M W)
  cases hB : shapeB w h M
  · rw [hB] at HS
    have R : Hid (PartsP w h M W (.returned (.slice none 0 0)) W) := ⟨[], .inl ⟨hB, rfl⟩, by simp, _, rfl, World.ownsRow_nil _ _ _ _, Below.refl _ _⟩
    clear hB
    go_enter Try.func173, Try.ntmps173
    go_wp2_with fail
    refine (HS.out _).mono ?_
    rintro e w1 ⟨rfl, rfl⟩
    go_wp2_with fail
    go_ret
    exact R.out
  · rw [hB] at HS
    obtain ⟨a, b, m, rfl, rfl, rfl, ha1, ha2, hb1, hb2, hm, hab⟩ := mask_nat hB
    obtain ⟨i0, hi0, hz0, hz1, hz2⟩ := info_parts infoI
    have HPV := Lib.hid hB
    have HBO := Lib.hid (fun W => boardOf_any a b m W hm hab)
    have HTK := Lib.hid (fun F x y g W h1 h2 h3 => take_any a b ⟨ha1, ha2⟩ ⟨hb1, hb2⟩ hab (cntF F (a * b)) F x y g W (Nat.le_refl _) h1 h2 h3)
    have HCI := Lib.hid (fun k hk => cell_index (a := a) (b := b) (k := k) (by omega) hk)
    obtain ⟨n, hn⟩ : ∃ n, n = a * b := ⟨_, rfl⟩
    have hN : ((a : Int) * (b : Int) = (n : Int)) := by rw [hn, Int.natCast_mul]
    have HN := Lib.hid hn
    have HM := Lib.hid hm
    have hn36 : n ≤ 36 := by omega
    have hm36 := lt62 hm hab
    clear hB hm hab hn
    go_enter Try.func173, Try.ntmps173
    go_wp2_with fail
    refine (HS.out _).mono ?_
    rintro e w1 ⟨rfl, rfl⟩
    go_wp2_with fail
    refine (HBO.out _).mono ?_
    rintro e w2 ⟨rfl, hb2'⟩
    have hw2 := hb2'.size
    have t2 := brd_new w2 0 0 fun _ => false
    go_wp2_with (first
      | refine wpList_allocB rfl rfl ?_
      | refine wpList_storeB rfl _ _ rfl w2.heap.size a b _ _ m.testBit _ rfl rfl t2 ?_)
    have t1 := brd_setRow t2 a b m.testBit
    have bb := below_rowB (hb2'.alloc hw2 (.cells (bdV 0 0 fun _ => false) 124)) hw2 (bdV a b m.testBit)
    have hsz : ((w2.alloc (.cells (bdV 0 0 fun _ => false) 124)).setRow w2.heap.size (bdV a b m.testBit)).heap.size = w2.heap.size + 1 := by simp
    generalize (w2.alloc (.cells (bdV 0 0 fun _ => false) 124)).setRow w2.heap.size (bdV a b m.testBit) = w3 at *
    have hsz2 : w2.heap.size + 1 ≤ w3.heap.size := by omega
    clear t2 hb2' hsz HBO HS
    go_loopw [8, 9, 22] (fun o _ i wr => ∃ (k q : Nat) (K : List Nat), i = .int .i64 k ∧ k ≤ n ∧ q ≤ m ∧ K.length ≤ k ∧ Hid (AccP (Adj a b) m q K ∧ ∀ j, j < k → q.testBit j = false) ∧ Brd wr w2.heap.size a b q.testBit ∧ wr.ownsRow (w2.heap.size + 1) 3 1 o (castL K).length (ints (castL K)) ∧ w2.heap.size + 1 ≤ wr.heap.size ∧ Below w1.heap.size w1 wr) (fun _ _ i _ => n - (intOf i).toNat)
    case atStart => exact ⟨0, m, [], rfl, Nat.zero_le _, Nat.le_refl _, by simp, ⟨AccP.start, fun j hj => by omega⟩, t1, World.ownsRow_nil _ _ _ _, hsz2, bb⟩
    case round =>
      clear t1 bb hsz2
      obtain ⟨wo, rfl⟩ : ∃ wo : World, wo = wr := ⟨_, rfl⟩
      obtain ⟨k, q, K, rfl, hk, hq, hKl, HA, hg, own, hsz, hb⟩ := hrel
      by_cases hlt : k < n
      · have hk36 : k < 36 := by omega
        have c1 := hg.at hk36
        cases hF : q.testBit k
        · rw [hF] at c1
          have HA2 : Hid (AccP (Adj a b) m q K ∧ ∀ j, j < k + 1 → q.testBit j = false) := ⟨HA.out.1, fun j hj => by
            by_cases e : j = k
            · subst e; exact hF
            · exact HA.out.2 j (by omega)⟩
          have R := Lib.hid (And.intro hg (And.intro own hb))
          clear HA hF hg own hb
          go_wp2_with fail
          go_roundw
          case rel => exact ⟨k + 1, q, K, by go_num, by omega, hq, by omega, HA2, R.out.1, R.out.2.1, hsz, R.out.2.2⟩
          case measure => simp [intOf]; omega
        · rw [hF] at c1
          have HQ := Lib.hid hF
          have hoff : ∀ j, a * b ≤ j → q.testBit j = false := fun j hj => Nat.testBit_lt_two_pow (Nat.lt_of_lt_of_le (Nat.lt_of_le_of_lt hq HM.out) (Nat.pow_le_pow_right (by omega) hj))
          obtain ⟨i1, i2, i3⟩ := HCI.out k (by have := HN.out; omega)
          have hsp := spot_nat (a := a) (b := b) i1 i2
          rw [i3] at hsp
          have HCA := Lib.hid (fun w => cellAt_any a b q.testBit k w ha1 (by omega))
          generalize k % a = x at *
          generalize k / a = y at *
          have HTC := Lib.hid (fun w hw => HTK.out q.testBit (x : Int) (y : Int) w2.heap.size w hoff hw ⟨by omega, by omega, by omega, by omega⟩)
          rw [hsp] at HTC
          clear hF hoff i1 i2 i3 hsp
          go_wp2_with (refine wpList_loadB rfl _ rfl _ _ _ _ rfl hg ?_)
          refine (HCA.out _).mono ?_
          rintro e w4 ⟨rfl, hb4⟩
          have hb5 := below_on hb hb4
          replace hg := hg.step hb4
          replace own := own_below own hb4
          have hsz4 : w2.heap.size + 1 ≤ w4.heap.size := Nat.le_trans hsz hb4.size
          clear hb hb4 hsz HCA c1
          go_wp2_with fail
          refine (HTC.out _ hg).mono ?_
          rintro e w5 ⟨p, rfl, hP, hg5, hgr5⟩
          have hPP := hP.part
          rw [less_sub hPP] at hg5
          have hlow := parts_low HQ.out (fun j hj => HA.out.2 j hj) (fun j hj => HA.out.2 j hj) hPP
          have HA2 : Hid (AccP (Adj a b) m (q - p) (K ++ [p]) ∧ ∀ j, j < k + 1 → (q - p).testBit j = false) := ⟨HA.out.1.step HQ.out (fun j hj => HA.out.2 j hj) hPP, hlow.2⟩
          have own5 := own.kept hgr5 (.inr fun e => by have := (own.lt _ e).1; omega)
          have hb6 : Below w1.heap.size w1 w5 := hb5.grown hgr5 hb5.size (fun q hq => by
            have : w2.heap.size = q := by simpa using hq
            omega)
          have hsz5 : w2.heap.size + 1 ≤ w5.heap.size := Nat.le_trans hsz4 hgr5.size
          have hKL : (castL K).length ≤ 36 := by rw [castL_len]; omega
          have hpq := hPP.sub.le
          have hs6 := hb6.size
          clear HA HQ hP hPP hlow hg hgr5 own hb5 hsz4 HTC
          go_wp2_with (at_builtin; refine wpList_append_own _ rfl _ _ 43 rfl (w2.heap.size + 1) 3 i0 (.int .i64 0) 1 8 Try.underlying43 hi0 hz0 hz1 hz2 rfl (by decide) _ _ _ rfl (own5.alloc _) ⟨w5.heap.size, 0, none⟩ 1 1 [.int .i64 (p : Int)] rfl rfl ?d1 ?d2 ?d3 ?d4 ?d5 ?_)
          case d1 => exact World.news_of_block (cs := #[.int .i64 (p : Int)]) (t := 3) (fr := (0, 0)) (heap_alloc_new w5 _)
          case d2 => simp [Value.oneCell']
          case d3 => unfold maxLen; omega
          case d4 => omega
          case d5 => simp; omega
          intro v' w7 own7 hgrow _
          have hrw := fun k hk => (own5.lt k hk).1
          have R : Hid (Brd w7 w2.heap.size a b (q - p).testBit ∧ w7.ownsRow (w2.heap.size + 1) 3 1 v' (castL (K ++ [p])).length (ints (castL (K ++ [p]))) ∧ w2.heap.size + 1 ≤ w7.heap.size ∧ Below w1.heap.size w1 w7) :=
            ⟨(hgrow.block _ (hg5.alloc _).lt (fun e => by have := hrw _ e.symm; omega)).trans (hg5.alloc _), by rw [castL_snoc, ints_snoc, List.length_append]; exact own7, Nat.le_trans hsz5 (by have := hgrow.size; simp at this; omega), (hb6.alloc hs6 _).grown hgrow (by simp; omega) (fun k hk => by have := hrw k hk; omega)⟩
          clear own5 own7 hgrow hb6 hrw hg5 hsz5
          go_wp2_with fail
          go_roundw
          case rel => exact ⟨k + 1, q - p, K ++ [p], by go_num, by omega, by omega, by simp; omega, HA2, R.out.1, R.out.2.1, R.out.2.2.1, R.out.2.2.2⟩
          case measure => simp [intOf]; omega
      · obtain rfl : k = n := by omega
        have hq0 : q = 0 := by
          apply Nat.eq_of_testBit_eq
          intro j
          rw [Nat.zero_testBit]
          rcases Nat.lt_or_ge j k with h | h
          · exact HA.out.2 j h
          · exact Nat.testBit_lt_two_pow (Nat.lt_of_lt_of_le (Nat.lt_of_le_of_lt hq HM.out) (Nat.pow_le_pow_right (by omega) (by have := HN.out; omega)))
        subst hq0
        have hpr := HA.out.1.done
        have R : Hid (∀ v, wo.ownsRow w1.heap.size 3 1 v (castL K).length (ints (castL K)) → PartsP a b m w1 (.returned v) wo) := fun v hv => ⟨castL K, .inr ⟨a, b, m, K, HPV.out, rfl, rfl, rfl, hpr, rfl⟩, by rw [castL_len]; omega, v, rfl, hv, hb⟩
        clear hpr HA hb hg
        have HO := Lib.hid (R.out _ (own_base own (by omega)))
        clear own R
        go_wp2_with fail
        go_ret
        exact HO.out
end Go.Proofs.Ytamchfdiehkloaa

/-! Law8A -/
namespace Go.Proofs.Ytamchfdiehkloaa
open Go.RowKit

/-- One part exactly. -/
def OneP (w h M : Int) : Prop := ∃ L, PartsV w h M L ∧ L.length = 1
def WholeP (w h M : Int) (W : World) (e : Ending) (w' : World) : Prop := ∃ v : Bool, e = .returned (.bool v) ∧ (v = true ↔ OneP w h M) ∧ Below W.heap.size W w'
theorem oneP_no {w h M : Int} (hB : shapeB w h M = false) : ¬ OneP w h M := by
  rintro ⟨L, h | ⟨a, b, m, K, e, _⟩, hl⟩
  · rw [h.2] at hl; simp at hl
  · rw [hB] at e; cases e
theorem oneP_zero {a b : Nat} : ¬ OneP a b (0 : Nat) := by
  rintro ⟨L, h | ⟨a', b', m, K, e, q1, q2, q3, p, rfl⟩, hl⟩
  · rw [h.2] at hl; simp at hl
  · have q3 := Int.ofNat.inj q3
    subst q3
    cases p with
    | none => simp at hl
    | more hk _ _ _ => simp at hk
theorem oneP_iff {a b m k p : Nat} (hB : shapeB a b m = true) (hk : m.testBit k = true) (hl : ∀ j, j < k → m.testBit j = false) (hp : PartOf (Adj a b) m.testBit k p) : OneP a b m ↔ p = m := by
  constructor
  · rintro ⟨L, h | ⟨a', b', m', K, e, q1, q2, q3, hK, rfl⟩, hl'⟩
    · rw [h.2] at hl'; simp at hl'
    · have q1 := Int.ofNat.inj q1
      have q2 := Int.ofNat.inj q2
      have q3 := Int.ofNat.inj q3
      subst q1; subst q2; subst q3
      exact (hK.one hk hl hp).1 (by simpa using hl')
  · rintro rfl
    refine ⟨[(p : Int)], .inr ⟨a, b, p, [p], hB, rfl, rfl, rfl, .more hk hl hp ?_, rfl⟩, rfl⟩
    rw [Nat.sub_self]; exact .none
set_option maxRecDepth 100000 in
theorem impl_whole (w h M : Int) (W : World) : Calls Try.prog 147 #[.int .i64 w, .int .i64 h, .int .i64 M] W (WholeP w h M W) := by
  have HI := Lib.hid (fun W => impl_parts w h M W)
  go_enter Try.func147, Try.ntmps147
  go_wp2_with fail
  refine (HI.out _).mono ?_
  rintro e w4 ⟨L, hL, hlen, v4, rfl, own4, hb4⟩
  obtain ⟨_, A4, c4, rfl, p4⟩ := own_ints own4
  have R : Hid (∀ v : Bool, v = decide (L.length = 1) → WholeP w h M W (.returned (.bool v)) w4) := fun v hv => ⟨v, rfl, by
    rw [hv, decide_eq_true_iff]
    exact ⟨fun h => ⟨L, hL, h⟩, fun ⟨L', h1, h2⟩ => by rw [hL.uniq h1]; exact h2⟩, hb4⟩
  clear hL own4 p4 hb4
  go_wp2_with fail
  go_ret
  exact R.out _ (by
    rw [Bool.eq_iff_iff]
    simp
    try omega)
end Go.Proofs.Ytamchfdiehkloaa

/-! Numb -/
namespace Go.Proofs.Ytamchfdiehkloaa
open Go.RowKit

/-! ### The places of the ones of a mask -/
def idxL (m n : Nat) : List Nat := (List.range n).filter m.testBit
theorem idxL_zero (m : Nat) : idxL m 0 = [] := rfl
theorem idxL_yes {m k : Nat} (h : m.testBit k = true) : idxL m (k + 1) = idxL m k ++ [k] := by
  unfold idxL; rw [List.range_succ, List.filter_append]; simp [h]
theorem idxL_no {m k : Nat} (h : m.testBit k = false) : idxL m (k + 1) = idxL m k := by
  unfold idxL; rw [List.range_succ, List.filter_append]; simp [h]
theorem idxL_len (m n : Nat) : (idxL m n).length ≤ n := Nat.le_trans (List.length_filter_le _ _) (by simp)
theorem mem_idxL {m n i : Nat} : i ∈ idxL m n ↔ i < n ∧ m.testBit i = true := by simp [idxL]
theorem idxL_nodup (m n : Nat) : (idxL m n).Nodup := List.nodup_range.filter _
theorem idxL_sorted (m n : Nat) : (idxL m n).Pairwise (· < ·) := List.pairwise_lt_range.filter _
theorem idxL_more {m n : Nat} (h : m < 2 ^ n) : ∀ d, idxL m (n + d) = idxL m n
  | 0 => rfl
  | d + 1 => by rw [← Nat.add_assoc, idxL_no (Nat.testBit_lt_two_pow (Nat.lt_of_lt_of_le h (Nat.pow_le_pow_right (by omega) (by omega)))), idxL_more h d]
theorem pc_count : ∀ k m, pc k m = (List.range k).countP m.testBit
  | 0, _ => rfl
  | k + 1, m => by
    rw [List.range_succ_eq_map, List.countP_cons, List.countP_map]
    have e : (m.testBit ∘ Nat.succ) = (m / 2).testBit := by
      funext j; simp [Nat.testBit_succ]
    rw [e, ← pc_count k (m / 2)]
    simp only [pc, Nat.testBit_zero]
    have := Nat.mod_two_eq_zero_or_one m
    rcases this with h | h <;> simp [h]; omega
theorem pc_idx {m n : Nat} (h : m < 2 ^ n) (hn : n ≤ 64) : pc 64 m = (idxL m n).length := by
  rw [pc_count, List.countP_eq_length_filter]
  have := idxL_more h (64 - n)
  rw [show n + (64 - n) = 64 by omega] at this
  rw [← this]; rfl
theorem pc_zero_iff {m n : Nat} (h : m < 2 ^ n) (hn : n ≤ 64) : pc 64 m = 0 ↔ m = 0 := by
  constructor
  · intro e
    rcases Nat.eq_zero_or_pos m with h0 | h0
    · exact h0
    · obtain ⟨k, hk, _⟩ := exists_bit h0
      have hkn : k < n := by
        rcases Nat.lt_or_ge k n with h1 | h1
        · exact h1
        · rw [Nat.testBit_lt_two_pow (Nat.lt_of_lt_of_le h (Nat.pow_le_pow_right (by omega) h1))] at hk; cases hk
      rw [pc_idx h hn] at e
      have := mem_idxL.2 ⟨hkn, hk⟩
      rw [List.eq_nil_of_length_eq_zero e] at this
      cases this
  · rintro rfl; exact pc_zero 64

/-! ### Numberings -/
def numF : Nat → List Nat → Bool
  | _, [] => true
  | b, k :: r => decide (k ≤ b) && numF (max b (k + 1)) r
def bgF : Nat → List Nat → Nat
  | b, [] => b
  | b, k :: r => bgF (max b (k + 1)) r
theorem numF_snoc : ∀ (C : List Nat) (b k : Nat), numF b (C ++ [k]) = (numF b C && decide (k ≤ bgF b C))
  | [], b, k => by simp [numF, bgF]; rfl
  | c :: C, b, k => by simp only [List.cons_append, numF, bgF, numF_snoc C, Bool.and_assoc]; rfl
theorem bgF_snoc : ∀ (C : List Nat) (b k : Nat), bgF b (C ++ [k]) = max (bgF b C) (k + 1)
  | [], b, k => rfl
  | c :: C, b, k => by simp only [List.cons_append, bgF, bgF_snoc C]
theorem numF_append : ∀ (C D : List Nat) (b : Nat), numF b (C ++ D) = (numF b C && numF (bgF b C) D)
  | [], D, b => by simp [numF, bgF]
  | c :: C, D, b => by simp only [List.cons_append, numF, bgF, numF_append C, Bool.and_assoc]
theorem bgF_append : ∀ (C D : List Nat) (b : Nat), bgF b (C ++ D) = bgF (bgF b C) D
  | [], D, b => rfl
  | c :: C, D, b => by simp only [List.cons_append, bgF, bgF_append C]
theorem bgF_le : ∀ (C : List Nat) (b : Nat), numF b C = true → bgF b C ≤ b + C.length
  | [], b, _ => Nat.le_refl _
  | c :: C, b, h => by
    simp only [numF, Bool.and_eq_true, decide_eq_true_eq] at h
    have := bgF_le C _ h.2
    simp only [bgF, List.length_cons]
    omega
theorem bgF_ge : ∀ (C : List Nat) (b : Nat), b ≤ bgF b C
  | [], b => Nat.le_refl _
  | c :: C, b => by
    have := bgF_ge C (max b (c + 1))
    simp only [bgF]
    omega

/-! ### The pieces -/
def putP (P : List Nat) (k i : Nat) : List Nat := if k = P.length then P ++ [2 ^ i] else P.set k (P.getD k 0 ||| 2 ^ i)
def uniF : List Nat → List Nat → List Nat → List Nat
  | P, i :: I, k :: C => uniF (putP P k i) I C
  | P, _, _ => P
theorem uniF_nil (P I : List Nat) : uniF P I [] = P := by cases I <;> rfl
theorem uniF_snoc : ∀ (I C P : List Nat) (i k : Nat), I.length = C.length → uniF P (I ++ [i]) (C ++ [k]) = putP (uniF P I C) k i
  | [], [], P, i, k, _ => rfl
  | [], _ :: _, _, _, _, h => by cases h
  | _ :: _, [], _, _, _, h => by cases h
  | j :: I, c :: C, P, i, k, h => by
    simp only [List.cons_append, uniF]
    exact uniF_snoc I C _ i k (by simpa using h)
theorem take_snoc {α : Type} {L : List α} {t : Nat} (h : t < L.length) : L.take (t + 1) = L.take t ++ [L[t]] := by
  rw [List.take_add_one, List.getElem?_eq_getElem h]; rfl
theorem uniF_step {I C : List Nat} {t : Nat} (hI : t < I.length) (hC : t < C.length) : uniF [] (I.take (t + 1)) (C.take (t + 1)) = putP (uniF [] (I.take t) (C.take t)) C[t] I[t] := by
  rw [take_snoc hI, take_snoc hC, uniF_snoc _ _ _ _ _ (by simp; omega)]
theorem numF_step {C : List Nat} {b t : Nat} (h : t < C.length) : numF b (C.take (t + 1)) = (numF b (C.take t) && decide (C[t] ≤ bgF b (C.take t))) := by rw [take_snoc h, numF_snoc]
theorem bgF_step {C : List Nat} {b t : Nat} (h : t < C.length) : bgF b (C.take (t + 1)) = max (bgF b (C.take t)) (C[t] + 1) := by rw [take_snoc h, bgF_snoc]
theorem numF_take {C : List Nat} {b : Nat} (h : numF b C = true) (t : Nat) : numF b (C.take t) = true := by
  have := numF_append (C.take t) (C.drop t) b
  rw [List.take_append_drop, h] at this
  cases h1 : numF b (C.take t)
  · rw [h1] at this; cases this
  · rfl
theorem numF_at {C : List Nat} {b t : Nat} (h : numF b C = true) (ht : t < C.length) : C[t] ≤ bgF b (C.take t) := by
  have := numF_take h (t + 1)
  rw [numF_step ht, Bool.and_eq_true, decide_eq_true_eq] at this
  exact this.2
theorem putP_len {P : List Nat} {k : Nat} (i : Nat) (h : k ≤ P.length) : (putP P k i).length = max P.length (k + 1) := by
  unfold putP
  split
  · simp; omega
  · rw [List.length_set]; omega
theorem uniF_len : ∀ (I C P : List Nat), I.length = C.length → numF P.length C = true → (uniF P I C).length = bgF P.length C
  | [], [], _, _, _ => rfl
  | [], _ :: _, _, h, _ => by cases h
  | _ :: _, [], _, h, _ => by cases h
  | i :: I, c :: C, P, h, hn => by
    simp only [numF, Bool.and_eq_true, decide_eq_true_eq] at hn
    have e := putP_len i hn.1
    have := uniF_len I C (putP P c i) (by simpa using h) (by rw [e]; exact hn.2)
    simp only [uniF, bgF, this, e]
theorem uniF_take_len {I C : List Nat} (h : I.length = C.length) (hn : numF 0 C = true) (t : Nat) : (uniF [] (I.take t) (C.take t)).length = bgF 0 (C.take t) :=
  uniF_len _ _ [] (by simp [h]) (numF_take hn t)

/-- What piece j has. -/
theorem getD_putP {P : List Nat} {k i : Nat} (h : k ≤ P.length) (j : Nat) : (putP P k i).getD j 0 = if j = k then P.getD j 0 ||| 2 ^ i else P.getD j 0 := by
  unfold putP
  split
  · rename_i e
    subst e
    by_cases hj : j = P.length
    · subst hj; simp
    · rw [if_neg hj]
      simp only [List.getD_eq_getElem?_getD]
      rcases Nat.lt_or_ge j P.length with h1 | h1
      · rw [List.getElem?_append_left h1]
      · rw [List.getElem?_eq_none (by simp; omega), List.getElem?_eq_none h1]
  · rename_i e
    simp only [List.getD_eq_getElem?_getD, List.getElem?_set]
    by_cases hj : j = k
    · subst hj; rw [if_pos rfl, if_pos rfl, if_pos (by omega)]; rfl
    · rw [if_neg (Ne.symm hj), if_neg hj]
theorem uniF_bit : ∀ (I C P : List Nat), I.length = C.length → numF P.length C = true → ∀ j b, ((uniF P I C).getD j 0).testBit b = true ↔ (P.getD j 0).testBit b = true ∨ (b, j) ∈ I.zip C
  | [], [], P, _, _, j, b => by simp [uniF]
  | [], _ :: _, _, h, _, _, _ => by cases h
  | _ :: _, [], _, h, _, _, _ => by cases h
  | i :: I, c :: C, P, h, hn, j, b => by
    simp only [numF, Bool.and_eq_true, decide_eq_true_eq] at hn
    have e := putP_len i hn.1
    simp only [uniF]
    rw [uniF_bit I C (putP P c i) (by simpa using h) (by rw [e]; exact hn.2) j b, getD_putP hn.1]
    simp only [List.zip_cons_cons, List.mem_cons, Prod.mk.injEq]
    by_cases hj : j = c
    · subst hj
      simp only [if_true, Nat.testBit_or, Nat.testBit_two_pow, Bool.or_eq_true, decide_eq_true_eq]
      constructor
      · rintro ((h1 | h1) | h1)
        · exact .inl h1
        · exact .inr (.inl ⟨h1.symm, trivial⟩)
        · exact .inr (.inr h1)
      · rintro (h1 | ⟨h1, _⟩ | h1)
        · exact .inl (.inl h1)
        · exact .inl (.inr h1.symm)
        · exact .inr h1
    · simp only [hj, if_false, and_false, false_or]
theorem uniF_sub {I C : List Nat} (h : I.length = C.length) (hn : numF 0 C = true) {p : Nat} (hp : p ∈ uniF [] I C) : ∀ b, p.testBit b = true → b ∈ I := by
  intro b hb
  obtain ⟨j, hj, rfl⟩ := List.getElem_of_mem hp
  have := (uniF_bit I C [] h hn j b).1 (by simpa [List.getD_eq_getElem?_getD, List.getElem?_eq_getElem hj] using hb)
  rcases this with h1 | h1
  · simp at h1
  · exact (List.of_mem_zip h1).1
/-- The bit of the next cell is in no piece yet. -/
theorem uniF_free {I C : List Nat} (h : I.length = C.length) (hd : I.Nodup) (hn : numF 0 C = true) {t : Nat} (ht : t < I.length) (j : Nat) : ((uniF [] (I.take t) (C.take t)).getD j 0).testBit I[t] = false := by
  cases e : ((uniF [] (I.take t) (C.take t)).getD j 0).testBit I[t]
  · rfl
  · have := (uniF_bit (I.take t) (C.take t) [] (by simp [h]) (numF_take hn t) j I[t]).1 e
    rcases this with h1 | h1
    · simp at h1
    · have h2 := (List.of_mem_zip h1).1
      obtain ⟨s, hs, e2⟩ := List.getElem_of_mem h2
      have hs' : s < t := by simp at hs; omega
      rw [List.getElem_take] at e2
      exact absurd e2 (List.pairwise_iff_getElem.1 hd s t (by omega) ht hs')

/-! ### All numberings -/
/-- The lists with which so many cells (left) go on behind bg pieces, up to K pieces in all, in lexicographic order. -/
def numsD (K : Nat) : Nat → Nat → List (List Nat)
  | 0, bg => if bg < K then [] else [[]]
  | left + 1, bg => if bg + (left + 1) < K then [] else (List.range (min (bg + 1) K)).flatMap fun k => (numsD K left (max bg (k + 1))).map (k :: ·)
theorem numsD_mem {K : Nat} : ∀ (left bg : Nat) (c : List Nat), c ∈ numsD K left bg → c.length = left ∧ numF bg c = true ∧ K ≤ bgF bg c ∧ (bg ≤ K → bgF bg c = K)
  | 0, bg, c, h => by
    simp only [numsD] at h
    split at h
    · cases h
    · simp at h; subst h; exact ⟨rfl, rfl, by simp [bgF]; omega, fun _ => by simp [bgF]; omega⟩
  | left + 1, bg, c, h => by
    simp only [numsD] at h
    split at h
    · cases h
    · obtain ⟨k, hk, h2⟩ := List.mem_flatMap.1 h
      obtain ⟨c', hc', rfl⟩ := List.mem_map.1 h2
      have hk' : k < min (bg + 1) K := by simpa using hk
      obtain ⟨h3, h4, h5, h6⟩ := numsD_mem left _ c' hc'
      refine ⟨by simp [h3], by simp [numF, h4]; omega, by simpa [bgF] using h5, fun hb => ?_⟩
      simpa [bgF] using h6 (by omega)
theorem numsD_has {K : Nat} : ∀ (c : List Nat) (bg : Nat), numF bg c = true → bgF bg c = K → bg ≤ K → c ∈ numsD K c.length bg
  | [], bg, _, h, _ => by simp [bgF] at h; simp [numsD, h]
  | k :: c, bg, hn, h, hb => by
    simp only [numF, Bool.and_eq_true, decide_eq_true_eq] at hn
    simp only [bgF] at h
    have hge := bgF_ge c (max bg (k + 1))
    have hle := bgF_le c _ hn.2
    simp only [List.length_cons, numsD]
    rw [if_neg (by omega)]
    refine List.mem_flatMap.2 ⟨k, by simp; omega, List.mem_map.2 ⟨c, numsD_has c _ hn.2 h (by omega), rfl⟩⟩
end Go.Proofs.Ytamchfdiehkloaa

/-! PtFacts -/
namespace Go.Proofs.Ytamchfdiehkloaa
open Go.RowKit

theorem cross_flip (ax ay bx by' cx cy : Int) : crossI ax ay bx by' cx cy = -crossI bx by' ax ay cx cy := by
  unfold crossI
  simp only [Int.mul_sub, Int.mul_comm]
  omega
theorem cross_turn (ax ay bx by' cx cy : Int) : crossI ax ay bx by' cx cy = crossI bx by' cx cy ax ay := by
  unfold crossI
  simp only [Int.mul_sub, Int.mul_comm]
  omega
theorem cross_swap (ax ay bx by' cx cy : Int) : crossI ax ay bx by' cx cy = -crossI ax ay cx cy bx by' := by
  unfold crossI
  simp only [Int.mul_sub, Int.mul_comm]
  omega
theorem steps_flip (ax ay bx by' : Int) : stepsN bx by' ax ay = stepsN ax ay bx by' := by
  unfold stepsN
  have h1 : (ax - bx).natAbs = (bx - ax).natAbs := by omega
  have h2 : (ay - by').natAbs = (by' - ay).natAbs := by omega
  rw [h1, h2]
theorem steps_zero (ax ay bx by' : Int) : stepsN ax ay bx by' = 0 ↔ ax = bx ∧ ay = by' := by
  unfold stepsN
  rw [Nat.gcd_eq_zero_iff]
  omega
/-- The steps divide both differences. -/
theorem steps_div (ax ay bx by' : Int) : (stepsN ax ay bx by' : Int) * Int.tdiv (bx - ax) (stepsN ax ay bx by') = bx - ax ∧ (stepsN ax ay bx by' : Int) * Int.tdiv (by' - ay) (stepsN ax ay bx by') = by' - ay := by
  have h1 : (stepsN ax ay bx by' : Int) ∣ bx - ax := Int.ofNat_dvd_left.2 (Nat.gcd_dvd_left _ _)
  have h2 : (stepsN ax ay bx by' : Int) ∣ by' - ay := Int.ofNat_dvd_left.2 (Nat.gcd_dvd_right _ _)
  exact ⟨Int.mul_tdiv_cancel' h1, Int.mul_tdiv_cancel' h2⟩
/-- One step is no multiple. -/
theorem step_one {ax ay bx by' qx qy : Int} {n : Nat} (hn : 0 < n) (e : stepsN ax ay bx by' = n) (hx : (n : Int) * qx = bx - ax) (hy : (n : Int) * qy = by' - ay) : Nat.gcd qx.natAbs qy.natAbs = 1 := by
  have h : Nat.gcd (n * qx.natAbs) (n * qy.natAbs) = n := by
    have e1 : n * qx.natAbs = (bx - ax).natAbs := by rw [← hx, Int.natAbs_mul]; rfl
    have e2 : n * qy.natAbs = (by' - ay).natAbs := by rw [← hy, Int.natAbs_mul]; rfl
    rw [e1, e2]; exact e
  rw [Nat.gcd_mul_left] at h
  exact Nat.eq_of_mul_eq_mul_left hn (by omega)
/-- A point on the way lies on the line, and in the box. -/
theorem cross_way (ax ay qx qy : Int) (n i : Int) : crossI ax ay (ax + n * qx) (ay + n * qy) (ax + qx * i) (ay + qy * i) = 0 := by
  unfold crossI
  have e1 : ax + n * qx - ax = n * qx := by omega
  have e2 : ay + qy * i - ay = qy * i := by omega
  have e3 : ay + n * qy - ay = n * qy := by omega
  have e4 : ax + qx * i - ax = qx * i := by omega
  rw [e1, e2, e3, e4]
  have : n * qx * (qy * i) = n * qy * (qx * i) := by
    rw [Int.mul_assoc, Int.mul_assoc, ← Int.mul_assoc qx, ← Int.mul_assoc qy, Int.mul_comm qx qy]
  omega
theorem box_way (a q : Int) (n i : Nat) (h : i ≤ n) : min a (a + n * q) ≤ a + q * i ∧ a + q * i ≤ max a (a + n * q) := by
  have hi : (i : Int) ≤ n := by omega
  rcases Int.le_total 0 q with hq | hq
  · have h1 : 0 ≤ q * (i : Int) := Int.mul_nonneg hq (by omega)
    have h2 : q * (i : Int) ≤ q * n := Int.mul_le_mul_of_nonneg_left hi hq
    rw [Int.mul_comm q n] at h2
    generalize q * (i : Int) = u at *
    generalize (n : Int) * q = v at *
    omega
  · have h1 : q * (i : Int) ≤ 0 := Int.mul_nonpos_of_nonpos_of_nonneg hq (by omega)
    have h2 : q * (n : Int) ≤ q * i := Int.mul_le_mul_of_nonpos_left hq hi
    rw [Int.mul_comm q n] at h2
    generalize q * (i : Int) = u at *
    generalize (n : Int) * q = v at *
    omega
theorem square_zero (x y : Int) : x * x + y * y = 0 ↔ x = 0 ∧ y = 0 := by
  have h1 : 0 ≤ x * x := by rw [← Int.natAbs_mul_self (a := x)]; omega
  have h2 : 0 ≤ y * y := by rw [← Int.natAbs_mul_self (a := y)]; omega
  constructor
  · intro h
    have e1 : x * x = 0 := by omega
    have e2 : y * y = 0 := by omega
    exact ⟨(Int.mul_eq_zero.1 e1).elim id id, (Int.mul_eq_zero.1 e2).elim id id⟩
  · rintro ⟨rfl, rfl⟩; rfl
theorem sgn_minus (n : Int) : sgn (-n) = -sgn n := by
  rcases sgn_cases n with ⟨h, e⟩ | ⟨h, e⟩ | ⟨h, e⟩
  · rw [e, sgn_neg (by omega)]
  · rw [e, sgn_pos (by omega)]; rfl
  · rw [h]; rfl
theorem sgn_mul_neg (p q : Int) : sgn p * sgn q < 0 ↔ p * q < 0 := by
  rcases sgn_cases p with ⟨h, e⟩ | ⟨h, e⟩ | ⟨h, e⟩ <;> rcases sgn_cases q with ⟨h2, e2⟩ | ⟨h2, e2⟩ | ⟨h2, e2⟩ <;> rw [e, e2]
  · have := Int.mul_pos h h2; constructor <;> omega
  · have := Int.mul_neg_of_pos_of_neg h h2; constructor <;> omega
  · rw [h2]; simp
  · have := Int.mul_neg_of_neg_of_pos h h2; constructor <;> omega
  · have := Int.mul_pos_of_neg_of_neg h h2; constructor <;> omega
  · rw [h2]; simp
  · rw [h]; simp
  · rw [h]; simp
  · rw [h]; simp
/-- What meets depends on the shared ends as a set. -/
theorem same_set {M N : List (Int × Int)} (h : ∀ p, p ∈ M ↔ p ∈ N) : M.isEmpty = N.isEmpty ∧ sameAll M = sameAll N := by
  have key : ∀ M : List (Int × Int), sameAll M = true ↔ ∀ p ∈ M, ∀ q ∈ M, p = q := by
    intro M
    cases M with
    | nil => simp [sameAll]
    | cons x t =>
      simp only [sameAll, List.all_eq_true, Bool.and_eq_true, beq_iff_eq]
      constructor
      · intro h p hp q hq
        have e : ∀ r ∈ x :: t, r = x := fun r hr => by
          rcases List.mem_cons.1 hr with rfl | hr
          · rfl
          · exact Prod.ext (h r hr).1 (h r hr).2
        rw [e p hp, e q hq]
      · intro h y hy
        have := h y (List.mem_cons_of_mem _ hy) x (List.mem_cons_self)
        rw [this]; exact ⟨rfl, rfl⟩
  constructor
  · cases M with
    | nil =>
      cases N with
      | nil => rfl
      | cons y t => exact absurd ((h y).2 (List.mem_cons_self)) (by simp)
    | cons x t =>
      cases N with
      | nil => exact absurd ((h x).1 (List.mem_cons_self)) (by simp)
      | cons y u => rfl
  · have : sameAll M = true ↔ sameAll N = true := by
      rw [key, key]
      constructor
      · intro g p hp q hq; exact g p ((h p).2 hp) q ((h q).2 hq)
      · intro g p hp q hq; exact g p ((h p).1 hp) q ((h q).1 hq)
    cases h1 : sameAll M <;> cases h2 : sameAll N <;> simp_all
theorem meetI_of {a b c d a' b' c' d' : Int × Int} (ho : (opp a b c d && opp c d a b) = (opp a' b' c' d' && opp c' d' a' b')) (h : ∀ p, p ∈ sharedS a b c d ↔ p ∈ sharedS a' b' c' d') : meetI a b c d = meetI a' b' c' d' := by
  unfold meetI
  rw [ho, (same_set h).1, (same_set h).2]
theorem meetI_swap (a b c d : Int × Int) : meetI a b c d = meetI c d a b :=
  meetI_of (Bool.and_comm _ _) fun p => by
    unfold sharedS
    rw [List.mem_append, List.mem_append]
    exact Or.comm
theorem crossP_flip (a b p : Int × Int) : crossP b a p = -crossP a b p := by
  unfold crossP
  rw [cross_flip b.1]
theorem onP_flip (a b p : Int × Int) : onP b a p = onP a b p := by
  have hz : (crossI b.1 b.2 a.1 a.2 p.1 p.2 == 0) = (crossI a.1 a.2 b.1 b.2 p.1 p.2 == 0) := by
    rw [cross_flip b.1]
    cases h : (crossI a.1 a.2 b.1 b.2 p.1 p.2 == 0) <;> simp_all <;> omega
  unfold onP onI boxB
  rw [hz, Int.min_comm b.1, Int.max_comm b.1, Int.min_comm b.2, Int.max_comm b.2]
theorem opp_flip (a b c d : Int × Int) : opp b a d c = opp a b c d := by
  unfold opp
  rw [crossP_flip a b d, crossP_flip a b c, sgn_minus, sgn_minus, Int.neg_mul_neg, Int.mul_comm]
theorem meetI_flip (a b c d : Int × Int) : meetI b a d c = meetI a b c d :=
  meetI_of (by rw [opp_flip a b, opp_flip c d]) fun p => by
    simp only [sharedS, List.mem_append, List.mem_filter, List.mem_cons, List.not_mem_nil, or_false, onP_flip]
    constructor
    · rintro (⟨h1 | h1, h2⟩ | ⟨h1 | h1, h2⟩)
      · exact .inl ⟨.inr h1, h2⟩
      · exact .inl ⟨.inl h1, h2⟩
      · exact .inr ⟨.inr h1, h2⟩
      · exact .inr ⟨.inl h1, h2⟩
    · rintro (⟨h1 | h1, h2⟩ | ⟨h1 | h1, h2⟩)
      · exact .inl ⟨.inr h1, h2⟩
      · exact .inl ⟨.inl h1, h2⟩
      · exact .inr ⟨.inr h1, h2⟩
      · exact .inr ⟨.inl h1, h2⟩
theorem eqQ_comm (a b : Int × Int) : eqQ b a = eqQ a b := by
  unfold eqQ
  rw [Bool.beq_comm (a := b.1), Bool.beq_comm (a := b.2)]
theorem meetV_swap (a b c d : Int × Int) : meetV c d a b = meetV a b c d := by
  unfold meetV
  rw [meetI_swap a b c d]
  cases okQ a <;> cases okQ b <;> cases okQ c <;> cases okQ d <;> cases eqQ a b <;> cases eqQ c d <;> rfl
theorem meetV_flip (a b c d : Int × Int) : meetV b a d c = meetV a b c d := by
  unfold meetV
  rw [meetI_flip a b c d, eqQ_comm a b, eqQ_comm c d]
  cases okQ a <;> cases okQ b <;> cases okQ c <;> cases okQ d <;> cases eqQ a b <;> cases eqQ c d <;> rfl
theorem meetV_along {a b : Int × Int} (ha : okQ a = true) (hb : okQ b = true) (h : eqQ a b = false) : meetV a b b a = 3 := by
  have hn : ¬ a = b := fun e => by rw [e] at h; simp [eqQ] at h
  have h1 : opp a b b a = false := by
    have : crossP a b b = 0 := by simp [crossP, crossI, Int.mul_comm]
    simp [opp, this, sgn]
  have hS : sharedS a b b a = [a, b, b, a] := by
    simp [sharedS, on_left, on_right]
  have hs : sameAll [a, b, b, a] = false := by
    simp only [eqQ] at h
    simp only [sameAll, List.all_cons, List.all_nil]
    rw [Bool.beq_comm (a := b.1), Bool.beq_comm (a := b.2), h]; rfl
  unfold meetV meetI
  rw [ha, hb, h, eqQ_comm a b, h, h1, hS, hs]; rfl
/-- A crossing, by the four cross products. -/
theorem meetV_cross {a b c d : Int × Int} (ha : okQ a = true) (hb : okQ b = true) (hc : okQ c = true) (hd : okQ d = true) :
    (meetV a b c d == 2) = (decide (crossP a b c * crossP a b d < 0) && decide (crossP c d a * crossP c d b < 0)) := by
  have e1 : ∀ a b c d : Int × Int, opp a b c d = decide (crossP a b c * crossP a b d < 0) := fun a b c d => by
    unfold opp; simp only [sgn_mul_neg]
  rw [← e1, ← e1]
  have hz : ∀ a b c d : Int × Int, eqQ a b = true → opp a b c d = false := fun a b c d h => by
    simp only [eqQ, Bool.and_eq_true, beq_iff_eq] at h
    have : ∀ p, crossP a b p = 0 := fun p => by simp [crossP, crossI, h.1, h.2]
    simp [opp, this, sgn]
  unfold meetV
  rw [ha, hb, hc, hd]
  cases h1 : eqQ a b
  · cases h2 : eqQ c d
    · unfold meetI
      cases opp a b c d && opp c d a b <;> cases (sharedS a b c d).isEmpty <;> cases sameAll (sharedS a b c d) <;> rfl
    · rw [hz c d a b h2]; cases opp a b c d <;> rfl
  · rw [hz a b c d h1]; rfl
end Go.Proofs.Ytamchfdiehkloaa

/-! Geo -/
namespace Go.Proofs.Ytamchfdiehkloaa
open Go.RowKit

theorem mul_signs (x y : Int) : (0 < x → 0 < y → 0 < x * y) ∧ (x < 0 → y < 0 → 0 < x * y) ∧ (0 < x → y < 0 → x * y < 0) ∧ (x < 0 → 0 < y → x * y < 0) ∧ (x = 0 → x * y = 0) ∧ (y = 0 → x * y = 0) := by
  refine ⟨Int.mul_pos, Int.mul_pos_of_neg_of_neg, Int.mul_neg_of_pos_of_neg, Int.mul_neg_of_neg_of_pos, fun h => by rw [h, Int.zero_mul], fun h => by rw [h, Int.mul_zero]⟩
theorem prop_le {p q r s : Nat} (h : p * s = q * r) (hp : 0 < p) (hr : p ≤ r) : q ≤ s := by
  rcases Nat.lt_or_ge s q with h1 | h1
  · exfalso
    have h2 : p * s < p * q := Nat.mul_lt_mul_of_pos_left h1 hp
    have h3 : q * p ≤ q * r := Nat.mul_le_mul_left q hr
    rw [Nat.mul_comm q p] at h3
    omega
  · exact h1
theorem prop_ge {p q r s : Nat} (h : p * s = q * r) (hp : 0 < p) (hr : r ≤ p) : s ≤ q := by
  rcases Nat.lt_or_ge q s with h1 | h1
  · exfalso
    have h2 : p * q < p * s := Nat.mul_lt_mul_of_pos_left h1 hp
    have h3 : q * r ≤ q * p := Nat.mul_le_mul_left q hr
    rw [Nat.mul_comm q p] at h3
    omega
  · exact h1
theorem opp_x {ux uy vx vy : Int} (h : ux * vy = uy * vx) (hx : (0 < ux ∧ vx < 0) ∨ (ux < 0 ∧ 0 < vx)) :
    (0 < uy → vy < 0) ∧ (uy < 0 → 0 < vy) ∧ (uy = 0 → vy = 0) ∧ (ux.natAbs ≤ vx.natAbs → uy.natAbs ≤ vy.natAbs) ∧ (vx.natAbs ≤ ux.natAbs → vy.natAbs ≤ uy.natAbs) := by
  have hn : ux.natAbs * vy.natAbs = uy.natAbs * vx.natAbs := by rw [← Int.natAbs_mul, ← Int.natAbs_mul, h]
  have hp : 0 < ux.natAbs := by omega
  have m1 := mul_signs ux vy
  have m2 := mul_signs uy vx
  rw [h] at m1
  generalize uy * vx = z at *
  refine ⟨?_, ?_, ?_, prop_le hn hp, prop_ge hn hp⟩
  · intro hu
    rcases Int.lt_trichotomy vy 0 with hz | hz | hz
    · exact hz
    · exfalso
      rcases hx with hx | hx
      · have := m2.2.2.1 hu hx.2; have := m1.2.2.2.2.2 hz; omega
      · have := m2.1 hu hx.2; have := m1.2.2.2.2.2 hz; omega
    · exfalso
      rcases hx with hx | hx
      · have := m2.2.2.1 hu hx.2; have := m1.1 hx.1 hz; omega
      · have := m2.1 hu hx.2; have := m1.2.2.2.1 hx.1 hz; omega
  · intro hu
    rcases Int.lt_trichotomy vy 0 with hz | hz | hz
    · exfalso
      rcases hx with hx | hx
      · have := m2.2.1 hu hx.2; have := m1.2.2.1 hx.1 hz; omega
      · have := m2.2.2.2.1 hu hx.2; have := m1.2.1 hx.1 hz; omega
    · exfalso
      rcases hx with hx | hx
      · have := m2.2.1 hu hx.2; have := m1.2.2.2.2.2 hz; omega
      · have := m2.2.2.2.1 hu hx.2; have := m1.2.2.2.2.2 hz; omega
    · exact hz
  · intro hu
    have := m2.2.2.2.2.1 hu
    rcases Int.lt_trichotomy vy 0 with hz | hz | hz
    · exfalso
      rcases hx with hx | hx
      · have := m1.2.2.1 hx.1 hz; omega
      · have := m1.2.1 hx.1 hz; omega
    · exact hz
    · exfalso
      rcases hx with hx | hx
      · have := m1.1 hx.1 hz; omega
      · have := m1.2.2.2.1 hx.1 hz; omega
/-- x is between a and b. -/
def bt (a b x : Int) : Prop := (a ≤ x ∧ x ≤ b) ∨ (b ≤ x ∧ x ≤ a)
/-- Three points 0, u, u + v on a line: one is between the others. -/
theorem between3 {ux uy vx vy : Int} (h : ux * vy = uy * vx) :
    (bt 0 (ux + vx) ux ∧ bt 0 (uy + vy) uy) ∨ (bt ux (ux + vx) 0 ∧ bt uy (uy + vy) 0) ∨ (bt 0 ux (ux + vx) ∧ bt 0 uy (uy + vy)) := by
  unfold bt
  by_cases hx : (0 < ux ∧ vx < 0) ∨ (ux < 0 ∧ 0 < vx)
  · obtain ⟨k1, k2, k3, k4, k5⟩ := opp_x h hx
    right
    rcases Nat.le_total ux.natAbs vx.natAbs with hm | hm
    · have := k4 hm
      left
      constructor
      · omega
      · rcases Int.lt_trichotomy uy 0 with hu | hu | hu
        · have := k2 hu; omega
        · have := k3 hu; omega
        · have := k1 hu; omega
    · have := k5 hm
      right
      constructor
      · omega
      · rcases Int.lt_trichotomy uy 0 with hu | hu | hu
        · have := k2 hu; omega
        · have := k3 hu; omega
        · have := k1 hu; omega
  · by_cases hy : (0 < uy ∧ vy < 0) ∨ (uy < 0 ∧ 0 < vy)
    · obtain ⟨k1, k2, k3, k4, k5⟩ := opp_x h.symm hy
      right
      rcases Nat.le_total uy.natAbs vy.natAbs with hm | hm
      · have := k4 hm
        left
        constructor
        · rcases Int.lt_trichotomy ux 0 with hu | hu | hu
          · have := k2 hu; omega
          · have := k3 hu; omega
          · have := k1 hu; omega
        · omega
      · have := k5 hm
        right
        constructor
        · rcases Int.lt_trichotomy ux 0 with hu | hu | hu
          · have := k2 hu; omega
          · have := k3 hu; omega
          · have := k1 hu; omega
        · omega
    · left
      constructor <;> omega
theorem boxB_iff (ax ay bx by' px py : Int) : boxB ax ay bx by' px py = true ↔ bt ax bx px ∧ bt ay by' py := by
  unfold bt boxB
  simp only [Bool.and_eq_true, inB_spec]
  omega
theorem onP_iff (a b p : Int × Int) : onP a b p = true ↔ crossP a b p = 0 ∧ bt a.1 b.1 p.1 ∧ bt a.2 b.2 p.2 := by
  unfold onP onI crossP
  rw [Bool.and_eq_true, beq_iff_eq, boxB_iff]
/-- One of three points on a line is between the others. -/
theorem on_line {a b c : Int × Int} (h : crossP a b c = 0) : onP a c b = true ∨ onP b c a = true ∨ onP a b c = true := by
  have h' : (b.1 - a.1) * (c.2 - b.2) = (b.2 - a.2) * (c.1 - b.1) := by
    unfold crossP crossI at h
    have e1 : c.2 - a.2 = (b.2 - a.2) + (c.2 - b.2) := by omega
    have e2 : c.1 - a.1 = (b.1 - a.1) + (c.1 - b.1) := by omega
    rw [e1, e2, Int.mul_add, Int.mul_add, Int.mul_comm (b.2 - a.2) (b.1 - a.1)] at h
    omega
  have f1 : crossP a c b = 0 := by
    have := h
    unfold crossP at this ⊢
    rw [cross_swap] at this; omega
  have f2 : crossP b c a = 0 := by
    have := h
    unfold crossP at this ⊢
    rw [cross_turn] at this; exact this
  simp only [onP_iff]
  have := between3 h'
  unfold bt at *
  rcases this with h1 | h1 | h1
  · exact .inl ⟨f1, by omega, by omega⟩
  · exact .inr (.inl ⟨f2, by omega, by omega⟩)
  · exact .inr (.inr ⟨h, by omega, by omega⟩)
theorem eqQ_iff (p q : Int × Int) : eqQ p q = true ↔ p = q := by
  unfold eqQ
  rw [Bool.and_eq_true, beq_iff_eq, beq_iff_eq, Prod.ext_iff]
theorem sameAll_iff (x : Int × Int) (t : List (Int × Int)) : sameAll (x :: t) = true ↔ ∀ y ∈ x :: t, y = x := by
  simp only [sameAll, List.all_eq_true, Bool.and_eq_true, beq_iff_eq]
  constructor
  · intro h y hy
    rcases List.mem_cons.1 hy with rfl | hy
    · rfl
    · exact Prod.ext (h y hy).1 (h y hy).2
  · intro h y hy
    rw [h y (List.mem_cons_of_mem _ hy)]
    exact ⟨rfl, rfl⟩
theorem meet_one {a b c d : Int × Int} (h : meetI a b c d = 1) : ∀ p q, p ∈ sharedS a b c d → q ∈ sharedS a b c d → p = q := by
  unfold meetI at h
  cases h1 : (opp a b c d && opp c d a b)
  · rw [h1] at h
    cases hS : sharedS a b c d with
    | nil => intro p q hp; simp at hp
    | cons x t =>
      rw [hS] at h
      cases h2 : sameAll (x :: t)
      · rw [h2] at h; simp at h
      · have := (sameAll_iff x t).1 h2
        intro p q hp hq
        rw [this p hp, this q hq]
  · rw [h1] at h; simp at h
theorem mem_shared {a b c d p : Int × Int} : p ∈ sharedS a b c d ↔ ((p = a ∨ p = b) ∧ onP c d p = true) ∨ ((p = c ∨ p = d) ∧ onP a b p = true) := by
  simp [sharedS, List.mem_filter]
/-- Two sides that touch at their common corner: on a line only if the corner is between the others. -/
theorem touch_between {a b c : Int × Int} (hab : a ≠ b) (hbc : b ≠ c) (h : meetI a b b c = 1) (hc : crossP a b c = 0) : onP a c b = true := by
  have hb : b ∈ sharedS a b b c := mem_shared.2 (.inl ⟨.inr rfl, on_left b c⟩)
  rcases on_line hc with h1 | h1 | h1
  · exact h1
  · exact absurd (meet_one h a b (mem_shared.2 (.inl ⟨.inl rfl, h1⟩)) hb) hab
  · exact absurd (meet_one h b c hb (mem_shared.2 (.inr ⟨.inr rfl, h1⟩))) hbc

/-! ### A polygon's sides -/
theorem polyB_spec {L : List (Int × Int)} (h : polyB L = true) : (3 ≤ L.length ∧ L.length ≤ 10) ∧ allOk L = true ∧ (∀ i, i < L.length → gt L i ≠ gt L (nx L i)) ∧
    (∀ i k, i < k → k < L.length → pairM L i k = bif adjB L.length i k then 1 else 0) := by
  simp only [polyB, Bool.and_eq_true] at h
  obtain ⟨⟨⟨h1, h2⟩, h3⟩, h4⟩ := h
  have hn := inB_spec.1 h1
  refine ⟨by omega, h2, fun i hi he => ?_, fun i k hi hk => ?_⟩
  · have := List.all_eq_true.1 h3 i (List.mem_range.2 hi)
    rw [show eqQ (gt L i) (gt L ((i + 1) % L.length)) = true from (eqQ_iff _ _).2 he] at this
    simp at this
  · have h5 := List.all_eq_true.1 (List.all_eq_true.1 h4 i (List.mem_range.2 (by omega))) k (List.mem_range.2 hk)
    simp only [Bool.or_eq_true, decide_eq_true_eq] at h5
    rcases h5 with h5 | h5
    · omega
    · unfold pairOk at h5
      cases ha : adjB L.length i k
      · rw [ha] at h5; simpa using h5
      · rw [ha] at h5; simpa using h5
theorem nx_lt {L : List (Int × Int)} (h : 0 < L.length) (i : Nat) : nx L i < L.length := Nat.mod_lt _ h
theorem pv_lt {L : List (Int × Int)} (h : 0 < L.length) (i : Nat) : pv L i < L.length := Nat.mod_lt _ h
theorem nx_eq {L : List (Int × Int)} {i : Nat} (hi : i < L.length) : nx L i = if i + 1 = L.length then 0 else i + 1 := by
  unfold nx
  by_cases h : i + 1 = L.length
  · rw [if_pos h, h, Nat.mod_self]
  · rw [if_neg h, Nat.mod_eq_of_lt (by omega)]
theorem pv_eq {L : List (Int × Int)} {i : Nat} (hi : i < L.length) : pv L i = if i = 0 then L.length - 1 else i - 1 := by
  unfold pv
  by_cases h : i = 0
  · rw [if_pos h, h, Nat.zero_add, Nat.mod_eq_of_lt (by omega)]
  · rw [if_neg h, show i + L.length - 1 = (i - 1) + L.length by omega, Nat.add_mod_right, Nat.mod_eq_of_lt (by omega)]
theorem nx_pv {L : List (Int × Int)} {i : Nat} (hi : i < L.length) : nx L (pv L i) = i := by
  rw [nx_eq (pv_lt (by omega) i), pv_eq hi]
  by_cases h : i = 0
  · rw [if_pos h]; rw [if_pos (by omega)]; omega
  · rw [if_neg h]; rw [if_neg (by omega)]; omega
/-- The side to a corner and the side from it touch. -/
theorem meet_next {L : List (Int × Int)} (h : polyB L = true) {i : Nat} (hi : i < L.length) : meetI (gt L (pv L i)) (gt L i) (gt L i) (gt L (nx L i)) = 1 := by
  obtain ⟨hn, _, _, hp⟩ := polyB_spec h
  by_cases h0 : i = 0
  · subst h0
    have h1 := hp 0 (L.length - 1) (by omega) (by omega)
    have e : adjB L.length 0 (L.length - 1) = true := by simp [adjB]
    rw [e] at h1
    have h2 : nx L (L.length - 1) = 0 := by rw [nx_eq (by omega), if_pos (by omega)]
    have h3 : pv L 0 = L.length - 1 := by rw [pv_eq hi, if_pos rfl]
    rw [h3, meetI_swap]
    unfold pairM at h1
    rw [show (L.length - 1 + 1) % L.length = nx L (L.length - 1) from rfl, h2] at h1
    exact h1
  · have h1 := hp (i - 1) i (by omega) hi
    have e : adjB L.length (i - 1) i = true := by simp [adjB]; omega
    rw [e] at h1
    have h3 : pv L i = i - 1 := by rw [pv_eq hi, if_neg h0]
    rw [h3]
    unfold pairM at h1
    rw [show (i - 1 + 1) % L.length = nx L (i - 1) from rfl, nx_eq (by omega), if_neg (by omega), show i - 1 + 1 = i by omega] at h1
    exact h1
theorem on_bent {L : List (Int × Int)} (h : polyB L = true) {i : Nat} (hi : i < L.length) : onQ (gt L (pv L i)) (gt L (nx L i)) (gt L i) = !(bentB L i) := by
  obtain ⟨hn, hok, hne, _⟩ := polyB_spec h
  rw [onQ_ok (gt_ok hok _) (gt_ok hok _) (gt_ok hok _), bentB, Bool.not_not]
  have h1 := hne (pv L i) (pv_lt (by omega) i)
  rw [nx_pv hi] at h1
  rw [Bool.eq_iff_iff, beq_iff_eq]
  constructor
  · intro h2
    have := ((onP_iff _ _ _).1 h2).1
    unfold crossP at this ⊢
    rw [cross_swap, this]; rfl
  · exact touch_between h1 (hne i hi) (meet_next h hi)
theorem stP_range {L : List (Int × Int)} (h : polyB L = true) : ∀ k, k ≤ L.length → stP L (List.range k) = (if k = 0 then L.length - 1 else k - 1, straightTill L k) := by
  intro k
  induction k with
  | zero => intro _; rfl
  | succ k ih =>
    intro hk
    rw [List.range_succ, stP_snoc, ih (by omega)]
    unfold stStep
    have e : (if k = 0 then L.length - 1 else k - 1) = pv L k := (pv_eq (by omega)).symm
    simp only [e, on_bent h (show k < L.length by omega)]
    rw [if_neg (by omega), show k + 1 - 1 = k by omega, straightTill]
    cases bentB L k <;> rfl
theorem stP_straight {L : List (Int × Int)} (h : polyB L = true) : (stP L (List.range L.length)).2 = straightL L := by
  rw [stP_range h _ (Nat.le_refl _)]; rfl

theorem impl_straight (A : Option Addr) (c : Nat) (L : List (Int × Int)) (w : World) (hA : PtsA w A L) (hL : L.length ≤ 1048576) :
    Calls Try.prog 71 #[.slice A L.length c] w (Lists w (straightV L)) := by
  cases hp : polyB L
  · have HU : Hid (Lists w (straightV L) = fun e w' => ∃ v, e = .returned v ∧ w'.ownsRow w.heap.size 30 2 v 0 [] ∧ Below w.heap.size w w') := by
      show _ = _
      unfold straightV
      rw [hp]; rfl
    have PC := Lib.hid (impl_poly A c L w hA hL)
    rw [hp] at PC
    go_enter Try.func71, Try.ntmps71
    go_wp2_with fail
    refine PC.out.mono ?_
    rintro e w1 ⟨rfl, hb1⟩
    go_wp2_with fail
    go_ret
    rw [HU.out]
    exact ⟨_, rfl, World.ownsRow_nil _ _ _ _, hb1⟩
  · have := impl_straight_yes A c L w hA hp
    rw [stP_straight hp] at this
    unfold straightV
    rw [hp]
    exact this
end Go.Proofs.Ytamchfdiehkloaa

/-! Clone -/
namespace Go.Proofs.Ytamchfdiehkloaa
open Go.RowKit

theorem ptsA_news {w : World} {g : Nat} {L : List (Int × Int)} (h : PtsA w (some ⟨g, 0, none⟩) L) (k : Nat) : ∀ j u, (flat (L.drop k))[j]? = some u → w.cell? (Addr.add ⟨g, k * 2, none⟩ j) = some u := by
  intro j u hu
  have hj : j < (flat (L.drop k)).length := by
    rcases Nat.lt_or_ge j (flat (L.drop k)).length with h1 | h1
    · exact h1
    · rw [List.getElem?_eq_none h1] at hu; cases hu
  rw [flat_len, List.length_drop] at hj
  have hq : k + j / 2 < L.length := by omega
  obtain ⟨g', hg', h1, h2⟩ := h (k + j / 2) hq
  cases hg'
  have hf := flat_at (L.drop k) (j / 2) (by rw [List.length_drop]; omega)
  have hadd : Addr.add ⟨g, k * 2, none⟩ j = ⟨g, k * 2 + j, none⟩ := by
    unfold Addr.add
    split
    · rename_i h0; subst h0; rfl
    · rfl
  rw [hadd]
  have hd : (L.drop k)[j / 2]'(by rw [List.length_drop]; omega) = L[k + j / 2] := List.getElem_drop ..
  rw [hd] at hf
  rcases Nat.mod_two_eq_zero_or_one j with hm | hm
  · have e : j = j / 2 * 2 := by omega
    have e2 : k * 2 + j = (k + j / 2) * 2 := by omega
    rw [e2, h1, ← hu]
    rw [show (flat (L.drop k))[j]? = (flat (L.drop k))[j / 2 * 2]? from by rw [← e]]
    exact hf.1.symm
  · have e : j = j / 2 * 2 + 1 := by omega
    have e2 : k * 2 + j = (k + j / 2) * 2 + 1 := by omega
    rw [e2, h2, ← hu]
    rw [show (flat (L.drop k))[j]? = (flat (L.drop k))[j / 2 * 2 + 1]? from by rw [← e]]
    exact hf.2.symm
theorem flat_one (L : List (Int × Int)) : ∀ u ∈ flat L, u.oneCell' = true := by
  intro u hu
  simp only [flat, List.mem_flatMap, List.mem_cons, List.not_mem_nil, or_false] at hu
  obtain ⟨p, -, h | h⟩ := hu <;> subst h <;> rfl

set_option maxRecDepth 100000 in
set_option maxHeartbeats 1000000 in
theorem clone_any (A : Option Addr) (c : Nat) (L : List (Int × Int)) (w : World) (hA : PtsA w A L) (h1 : 1 ≤ L.length) (h2 : L.length ≤ 1048576) :
    Calls Try.prog 170 #[.slice A L.length c] w (Lists w L) := by
  obtain ⟨i0, hi0, hz0, hz1, hz2⟩ := info_parts infoPt
  obtain ⟨g, rfl, -⟩ := hA 0 h1
  have HU : Hid (Lists w L = fun e w' => ∃ v, e = .returned v ∧ w'.ownsRow w.heap.size 30 2 v L.length (flat L) ∧ Below w.heap.size w w') := rfl
  have hn := Lib.run_eql_slice_nil (P := Try.prog)
  have own0 := World.ownsRow_lit (base := w.heap.size) (e := 30) (size := 2) w #[] 0 (Nat.le_refl _) (by unfold maxLen; omega) (by rfl)
  have hb0 := below1 w (.cells #[] 30)
  have hA1 := ptsA_on hA hb0
  go_enter Try.func170, Try.ntmps170
  have HN := Lib.hid (ptsA_news hA1 0)
  rw [List.drop_zero, Nat.zero_mul] at HN
  clear hA hA1
  go_wp2_with (at_builtin; refine wpList_append_own _ rfl _ _ 23 rfl w.heap.size 30 i0 (.agg #[.int .i64 0, .int .i64 0]) 2 16 Try.underlying23 hi0 hz0 hz1 hz2 rfl (by decide) _ _ _ rfl own0 ⟨g, 0, none⟩ L.length c (flat L) rfl (flat_len L) HN.out (flat_one L) ?d3 ?d4 (by simp) ?_)
  case d3 => unfold maxLen; omega
  case d4 => omega
  intro v' w6 own6 hgrow _
  have R : Hid (w6.ownsRow w.heap.size 30 2 v' L.length (flat L) ∧ Below w.heap.size w w6) :=
    ⟨by simpa using own6, hb0.grown hgrow (by simp) (fun k hk => (own0.lt k hk).1)⟩
  clear own0 own6 hgrow hb0
  go_wp2_with fail
  go_ret
  rw [HU.out]
  exact ⟨_, rfl, R.out.1, R.out.2⟩

/-! ### slices.Reverse behind the first element -/
/-- After k rounds. -/
def revAt (M : List (Int × Int)) (k t : Nat) : Int × Int := if 1 ≤ t ∧ (t ≤ k ∨ M.length - k ≤ t) then gt M (M.length - t) else gt M t
def revK (M : List (Int × Int)) (k : Nat) : List (Int × Int) := (List.range M.length).map (revAt M k)
theorem revK_len (M : List (Int × Int)) (k : Nat) : (revK M k).length = M.length := by simp [revK]
theorem revK_zero (M : List (Int × Int)) : revK M 0 = M := by
  apply List.ext_getElem (by simp [revK])
  intro t h1 h2
  simp only [revK, List.getElem_map, List.getElem_range, revAt]
  rw [if_neg (by omega), gt_at h2]
theorem revK_all (M : List (Int × Int)) {k : Nat} (h : M.length ≤ 2 * k + 2) (h0 : 1 ≤ M.length) : revK M k = turnL M := by
  apply List.ext_getElem (by simp [revK, turnL, turnTill]; omega)
  intro t h1 h2
  have ht : t < M.length := by simpa [revK] using h1
  simp only [revK, List.getElem_map, List.getElem_range, revAt]
  cases t with
  | zero => rw [if_neg (by omega)]; rfl
  | succ t =>
    have e : (turnL M)[t + 1]'h2 = gt M (M.length - 1 - t) := by simp [turnL, turnTill]
    rw [e]
    by_cases hc : t + 1 ≤ k ∨ M.length - k ≤ t + 1
    · rw [if_pos ⟨by omega, hc⟩]; congr 1; omega
    · rw [if_neg (by omega)]; congr 1; omega
theorem gt_revK (M : List (Int × Int)) (k t : Nat) (ht : t < M.length) : gt (revK M k) t = revAt M k t := by
  rw [gt_at (by rw [revK_len]; exact ht)]
  simp [revK]
theorem revK_step (M : List (Int × Int)) (k : Nat) (h : 2 * k + 2 < M.length) :
    revK M (k + 1) = ((revK M k).set (1 + k) (gt (revK M k) (M.length - 1 - k))).set (M.length - 1 - k) (gt (revK M k) (1 + k)) := by
  rw [gt_revK _ _ _ (by omega), gt_revK _ _ _ (by omega)]
  apply List.ext_getElem (by simp [revK])
  intro t h1 h2
  have ht : t < M.length := by simpa [revK] using h1
  rw [List.getElem_set, List.getElem_set]
  simp only [revK, List.getElem_map, List.getElem_range, revAt]
  by_cases e1 : M.length - 1 - k = t
  · rw [if_pos e1, if_pos (by omega), if_neg (by omega)]; congr 1; omega
  · rw [if_neg e1]
    by_cases e2 : 1 + k = t
    · rw [if_pos e2, if_pos (by omega), if_neg (by omega)]; congr 1; omega
    · rw [if_neg e2]
      by_cases hc : 1 ≤ t ∧ (t ≤ k ∨ M.length - k ≤ t)
      · rw [if_pos (by omega), if_pos hc]
      · rw [if_neg (by omega), if_neg hc]
theorem flat_set1 (M : List (Int × Int)) : ∀ i (p : Int × Int), i < M.length → flat (M.set i p) = ((flat M).set (i * 2) (.int .i64 p.1)).set (i * 2 + 1) (.int .i64 p.2) := by
  induction M with
  | nil => intro i p h; simp at h
  | cons q M ih =>
    intro i p h
    have e : ∀ (r : Int × Int) (N : List (Int × Int)), flat (r :: N) = .int .i64 r.1 :: .int .i64 r.2 :: flat N := fun _ _ => rfl
    cases i with
    | zero => rw [List.set_cons_zero, e, e]; rfl
    | succ i =>
      rw [List.set_cons_succ, e, e, ih i p (by simpa using h)]
      have h1 : (i + 1) * 2 = i * 2 + 1 + 1 := by omega
      have h2 : (i + 1) * 2 + 1 = i * 2 + 1 + 1 + 1 := by omega
      rw [h2, h1]
      simp

theorem pts_own {w : World} {B g n cap : Nat} {L : List (Int × Int)} (h : w.ownsRow B 30 2 (.slice (some ⟨g, 0, none⟩) n cap) n (flat L)) (hn : L.length = n) : ∀ k, k < n → w.cell? ⟨g, k * 2, none⟩ = some (.int .i64 (gt L k).1) ∧ w.cell? ⟨g, k * 2 + 1, none⟩ = some (.int .i64 (gt L k).2) := by
  intro k hk
  have hk' : k < L.length := by omega
  rw [h.cellAt (k * 2) (by omega), h.cellAt (k * 2 + 1) (by omega), gt_at hk']
  exact flat_at L k hk'

theorem grown_drew {w w' : World} {r : Option Nat} (h : w.grownBy w' r) : w.grownBy w'.drew r := ⟨h.os, h.tape, h.output, h.size, h.block⟩
set_option maxRecDepth 100000 in
set_option maxHeartbeats 4000000 in
theorem rev_any (B g cap : Nat) (M : List (Int × Int)) (w : World) (hown : w.ownsRow B 30 2 (.slice (some ⟨g, 0, none⟩) M.length cap) M.length (flat M)) (h1 : 2 ≤ M.length) (h2 : M.length ≤ 1048576) :
    Calls Try.prog 64 #[.slice (some ⟨g, 2, none⟩) (M.length - 1) (cap - 1)] w fun e w' => (∃ v, e = .returned v) ∧ w'.ownsRow B 30 2 (.slice (some ⟨g, 0, none⟩) M.length cap) M.length (flat (turnL M)) ∧ w.grownBy w' (some g) := by
  obtain ⟨n, hn⟩ : ∃ n, n = M.length := ⟨_, rfl⟩
  have HN := Lib.hid hn
  rw [← hn] at hown h1 h2 ⊢
  clear hn
  have f1 : ((n - 1 : Nat) : Int) - 1 = ((n - 2 : Nat) : Int) := by omega
  go_enter Try.func64, Try.ntmps64
  go_wp2_with fail
  go_loopw [2, 3] (fun i j wr => ∃ k q : Nat, i = .int .i64 k ∧ j = .int .i64 q ∧ Hid (k + q + 2 = n ∧ k ≤ q + 1) ∧ wr.ownsRow B 30 2 (.slice (some ⟨g, 0, none⟩) n cap) n (flat (revK M k)) ∧ w.grownBy wr (some g)) (fun i j _ => n - (intOf i).toNat)
  case atStart => exact ⟨0, n - 2, rfl, rfl, ⟨by omega, by omega⟩, by rw [revK_zero]; exact hown, World.grownBy.refl _ _⟩
  case round =>
    obtain ⟨k, q, rfl, rfl, HK, own, hgr⟩ := hrel
    have hk1 := HK.out.1
    by_cases hlt : k < q
    · obtain ⟨x, hx⟩ : ∃ x, x = (gt (revK M k) (1 + k)).1 := ⟨_, rfl⟩
      obtain ⟨y, hy⟩ : ∃ y, y = (gt (revK M k) (1 + k)).2 := ⟨_, rfl⟩
      obtain ⟨x', hx'⟩ : ∃ x', x' = (gt (revK M k) (1 + q)).1 := ⟨_, rfl⟩
      obtain ⟨y', hy'⟩ : ∃ y', y' = (gt (revK M k) (1 + q)).2 := ⟨_, rfl⟩
      have hP := pts_own own (by rw [revK_len]; exact HN.out.symm)
      have p1 := hP (1 + k) (by omega)
      have p2 := hP (1 + q) (by omega)
      rw [← hx, ← hy] at p1
      rw [← hx', ← hy'] at p2
      have e1 : (1 + k) * 2 = 2 + k * 2 := by omega
      have e2 : (1 + q) * 2 = 2 + q * 2 := by omega
      rw [e1] at p1
      rw [e2] at p2
      obtain ⟨c1, c2⟩ := p1
      obtain ⟨c3, c4⟩ := p2
      have f2 := own.frozenAt (2 + k * 2)
      have f3 := own.frozenAt (2 + k * 2 + 1)
      have f4 := own.frozenAt (2 + q * 2)
      have f5 := own.frozenAt (2 + q * 2 + 1)
      have hk2 : (k : Int) < ((n - 1 : Nat) : Int) := by omega
      have hq2 : (q : Int) < ((n - 1 : Nat) : Int) := by omega
      have hml : (revK M k).length = n := by rw [revK_len]; exact HN.out.symm
      have own4 := ((((own.stored (2 + k * 2) (.int .i64 x')).1.stored (2 + k * 2 + 1) (.int .i64 y')).1.stored (2 + q * 2) (.int .i64 x)).1.stored (2 + q * 2 + 1) (.int .i64 y)).1
      have hq1 : M.length - 1 - k = 1 + q := by have := HN.out; omega
      have hstep : revK M (k + 1) = ((revK M k).set (1 + k) (x', y')).set (1 + q) (x, y) := by
        rw [revK_step M k (by have := HN.out; omega), hq1, hx, hy, hx', hy']
      have hflat : ((((flat (revK M k)).set (2 + k * 2) (.int .i64 x')).set (2 + k * 2 + 1) (.int .i64 y')).set (2 + q * 2) (.int .i64 x)).set (2 + q * 2 + 1) (.int .i64 y) = flat (revK M (k + 1)) := by
        rw [hstep, flat_set1 _ _ _ (by rw [List.length_set]; omega), flat_set1 _ _ _ (by omega), e1, e2]
      rw [hflat] at own4
      have hgr4 := only_set (only_set (only_set (only_set hgr (2 + k * 2) (.int .i64 x')) (2 + k * 2 + 1) (.int .i64 y')) (2 + q * 2) (.int .i64 x)) (2 + q * 2 + 1) (.int .i64 y)
      have R := Lib.hid (And.intro own4 hgr4)
      clear own own4 hgr hgr4 hP e1 e2 hx hy hx' hy' hk1 hown hflat hstep hq1 hml
      have hq0 : (0 : Int) ≤ (q : Int) - 1 := by omega
      have g1 : (q : Int) - 1 = ((q - 1 : Nat) : Int) := by omega
      go_wp2_with fail
      go_region
      go_wp2_with fail
      go_roundw
      case rel => exact ⟨k + 1, q - 1, by go_num, by first | rfl | go_num | exact congrArg _ g1, ⟨by have := HK.out.1; omega, by omega⟩, own_drew R.out.1, grown_drew R.out.2⟩
      case measure => simp [intOf]; omega
    · have e : revK M k = turnL M := revK_all M (by have := HN.out; have := HK.out; omega) (by have := HN.out; omega)
      rw [e] at own
      have R := Lib.hid (And.intro own hgr)
      clear own hgr hown hk1 e
      go_wp2_with fail
      go_end0
      exact ⟨⟨_, rfl⟩, R.out.1, R.out.2⟩

theorem own_cap {w : World} {B g n cap : Nat} {e : TypeId} {size : Nat} {xs : List Value} (h : w.ownsRow B e size (.slice (some ⟨g, 0, none⟩) n cap) n xs) : n ≤ cap := by
  rcases h.2 with ⟨h1, _⟩ | ⟨g', cap', cur, hv, hB, hg, h3⟩
  · cases h1
  · simp only [Value.slice.injEq] at hv
    obtain ⟨-, -, rfl⟩ := hv
    exact h3.1

set_option maxRecDepth 100000 in
set_option maxHeartbeats 2000000 in
theorem impl_turn (A : Option Addr) (c : Nat) (L : List (Int × Int)) (w : World) (hA : PtsA w A L) (hL : L.length ≤ 1048576) :
    Calls Try.prog 138 #[.slice A L.length c] w (Lists w (turnV L)) := by
  cases hp : polyB L
  · have HU : Hid (Lists w (turnV L) = fun e w' => ∃ v, e = .returned v ∧ w'.ownsRow w.heap.size 30 2 v 0 [] ∧ Below w.heap.size w w') := by
      show _ = _
      unfold turnV
      rw [hp]; rfl
    have PC := Lib.hid (impl_poly A c L w hA hL)
    rw [hp] at PC
    go_enter Try.func138, Try.ntmps138
    go_wp2_with fail
    refine PC.out.mono ?_
    rintro e w1 ⟨rfl, hb1⟩
    go_wp2_with fail
    go_ret
    rw [HU.out]
    exact ⟨_, rfl, World.ownsRow_nil _ _ _ _, hb1⟩
  · obtain ⟨h3, h10, hok⟩ := polyB_all hp
    have hlen : (turnL L).length = L.length := by simp [turnL, turnTill]; omega
    have HU : Hid (Lists w (turnV L) = fun e w' => ∃ v, e = .returned v ∧ w'.ownsRow w.heap.size 30 2 v L.length (flat (turnL L)) ∧ Below w.heap.size w w') := by
      show _ = _
      unfold turnV
      rw [hp, ← hlen]; rfl
    have PC := Lib.hid (impl_poly A c L w hA hL)
    rw [hp] at PC
    have HC := Lib.hid (fun (W : World) (hb : Below w.heap.size w W) => clone_any A c L W (ptsA_on hA hb) (by omega) hL)
    unfold Lists at HC
    clear hA hlen
    go_enter Try.func138, Try.ntmps138
    go_wp2_with fail
    refine PC.out.mono ?_
    rintro e w1 ⟨rfl, hb1⟩
    go_wp2_with fail
    refine (HC.out _ hb1).mono ?_
    rintro e w2 ⟨v, rfl, own, hb2⟩
    have hb12 := hb1.trans (hb2.mono hb1.size)
    replace own := own_base own hb1.size
    have hv : ∃ g cap, v = .slice (some ⟨g, 0, none⟩) L.length cap := by
      rcases own.2 with ⟨_, h0⟩ | ⟨g, cap, _, rfl, _⟩
      · omega
      · exact ⟨g, cap, rfl⟩
    obtain ⟨g, cap, rfl⟩ := hv
    have hcap := own_cap own
    have hgl := (own.lt g rfl).1
    have HR := Lib.hid (rev_any w.heap.size g cap L w2 own (by omega) hL)
    have hc1 : ¬ cap = 1 := by omega
    have hc2 : ¬ 1 = cap := by omega
    have hl1 : (1 : Int) ≤ (L.length : Int) := by omega
    have hl2 : 1 ≤ L.length := by omega
    clear hb1 hb2 own
    go_wp2_with fail
    refine HR.out.mono ?_
    rintro e w3 ⟨⟨u, rfl⟩, own3, hg3⟩
    have hb3 := hb12.grown hg3 hb12.size (fun k e => by cases e; exact hgl)
    have R := Lib.hid own3
    clear own3 hg3 hb12
    go_wp2_with fail
    go_ret
    rw [HU.out]
    exact ⟨_, rfl, R.out, hb3⟩
end Go.Proofs.Ytamchfdiehkloaa

/-! Box -/
namespace Go.Proofs.Ytamchfdiehkloaa
open Go.RowKit

def minI (x y : Int) : Int := if y < x then y else x
def maxI (x y : Int) : Int := if x < y then y else x
theorem run_minI (w : World) (x y : Int) (ts : Array TypeId) (t : TypeId) : (Builtin.min_ ts t #[.int .i64 x, .int .i64 y]).run Try.prog w = .ok (.int .i64 (minI x y)) w := by
  simp [go_sem, minI]
theorem run_maxI (w : World) (x y : Int) (ts : Array TypeId) (t : TypeId) : (Builtin.max_ ts t #[.int .i64 x, .int .i64 y]).run Try.prog w = .ok (.int .i64 (maxI x y)) w := by
  simp [go_sem, maxI]
def boxStep (s : (Int × Int) × (Int × Int)) (p : Int × Int) : (Int × Int) × (Int × Int) := ((minI s.1.1 p.1, minI s.1.2 p.2), (maxI s.2.1 p.1, maxI s.2.2 p.2))
def boxTill (L : List (Int × Int)) : Nat → (Int × Int) × (Int × Int)
  | 0 => (gt L 0, gt L 0)
  | k + 1 => boxStep (boxTill L k) (gt L k)
def ptV (p : Int × Int) : Value := .agg #[.int .i64 p.1, .int .i64 p.2]
def boxR (L : List (Int × Int)) : Value := bif polyB L then .tuple #[ptV (boxTill L L.length).1, ptV (boxTill L L.length).2, .bool true] else .tuple #[ptV (0, 0), ptV (0, 0), .bool false]


set_option maxRecDepth 100000 in
set_option maxHeartbeats 4000000 in
theorem impl_box (A : Option Addr) (c : Nat) (L : List (Int × Int)) (w : World) (hA : PtsA w A L) (hL : L.length ≤ 1048576) :
    Calls Try.prog 87 #[.slice A L.length c] w fun e w' => e = .returned (boxR L) ∧ Below w.heap.size w w' := by
  have hb0 := below2 w (.cells #[.int .i64 0, .int .i64 0] 30) (.cells #[.int .i64 0, .int .i64 0] 30)
  have PC := Lib.hid (fun (W : World) (hb : Below w.heap.size w W) => impl_poly A c L W (ptsA_on hA hb) hL)
  have a1 := (at_new w 0 0 30).alloc (.cells #[.int .i64 0, .int .i64 0] 30)
  have a2 := at_new (w.alloc (.cells #[.int .i64 0, .int .i64 0] 30)) 0 0 30
  rw [size_alloc] at a2
  cases hp : polyB L
  · have HR : Hid (boxR L = .tuple #[.agg #[.int .i64 0, .int .i64 0], .agg #[.int .i64 0, .int .i64 0], .bool false]) := by
      show _ = _
      rw [boxR, hp]; rfl
    rw [hp] at PC
    clear hA
    go_enter Try.func87, Try.ntmps87
    go_wp2_with fail
    refine (PC.out _ hb0).mono ?_
    rintro e w1 ⟨rfl, hb1⟩
    have b1 := hb0.trans (hb1.mono hb0.size)
    have r1 := a1.step hb1
    have r2 := a2.step hb1
    have c1 := r1.c0; have c2 := r1.c1; have c3 := r2.c0; have c4 := r2.c1
    have f1 := at_frozen r1 0; have f2 := at_frozen r1 1; have f3 := at_frozen r2 0; have f4 := at_frozen r2 1
    have e1 := at_store1 (at_store r1 0 0) 0
    have e2 := at_set (at_set r2 (b := w.heap.size) (by omega) 0 (.int .i64 0)) (b := w.heap.size) (by omega) 1 (.int .i64 0)
    have e3 := at_store1 (at_store e2 0 0) 0
    have e4 := at_set (at_set e1 (b := w.heap.size + 1) (by omega) 0 (.int .i64 0)) (b := w.heap.size + 1) (by omega) 1 (.int .i64 0)
    have q1 := e2.c0; have q2 := e2.c1; have q3 := at_frozen e2 0; have q4 := at_frozen e2 1
    have d1 := e4.c0; have d2 := e4.c1; have d3 := e3.c0; have d4 := e3.c1
    have hsw : w.heap.size ≤ w.heap.size + 1 := Nat.le_succ _
    have bE := (((b1.setCell (p := ⟨w.heap.size, 0, none⟩) (Nat.le_refl _) (.int .i64 0)).setCell (p := ⟨w.heap.size, 1, none⟩) (Nat.le_refl _) (.int .i64 0)).setCell (p := ⟨w.heap.size + 1, 0, none⟩) hsw (.int .i64 0)).setCell (p := ⟨w.heap.size + 1, 1, none⟩) hsw (.int .i64 0)
    clear hb1 b1 r1 r2 e1 e2 e3 e4
    go_wp2_with fail
    exact bodyPost_ret (v := .tuple #[.agg #[.int .i64 0, .int .i64 0], .agg #[.int .i64 0, .int .i64 0], .bool false]) (by simp [results, Try.results87, go_sem, d1, d2, d3, d4]) rfl ⟨by rw [HR.out], bE⟩
  · obtain ⟨h3, h10, hok⟩ := polyB_all hp
    obtain ⟨g, rfl, -⟩ := hA 0 (by omega)
    have hmin : ∀ (w : World) (x y : Int) (ts : Array TypeId) (t : TypeId), (Builtin.min_ ts t #[.int .i64 x, .int .i64 y]).run Try.prog w = .ok (.int .i64 (minI x y)) w := run_minI
    have hmax : ∀ (w : World) (x y : Int) (ts : Array TypeId) (t : TypeId), (Builtin.max_ ts t #[.int .i64 x, .int .i64 y]).run Try.prog w = .ok (.int .i64 (maxI x y)) w := run_maxI
    have HR : Hid (boxR L = .tuple #[ptV (boxTill L L.length).1, ptV (boxTill L L.length).2, .bool true]) := by
      show _ = _
      rw [boxR, hp]; rfl
    rw [hp] at PC
    go_enter Try.func87, Try.ntmps87
    go_wp2_with fail
    refine (PC.out _ hb0).mono ?_
    rintro e w1 ⟨rfl, hb1⟩
    have b1 := hb0.trans (hb1.mono hb0.size)
    have hs1 : w.heap.size + 2 ≤ w1.heap.size := by have := hb1.size; simp at this; omega
    have r1 := a1.step hb1
    have r2 := a2.step hb1
    have HA := Lib.hid (ptsA_on hA b1)
    obtain ⟨c1, c2⟩ := gt_cells HA.out (i := 0) (by omega)
    simp only [Nat.zero_mul, Nat.zero_add] at c1 c2
    obtain ⟨X, hX⟩ : ∃ X, X = (gt L 0).1 := ⟨_, rfl⟩
    obtain ⟨Y, hY⟩ : ∃ Y, Y = (gt L 0).2 := ⟨_, rfl⟩
    have H0 : Hid (boxTill L 0 = ((X, Y), (X, Y))) := by
      show _ = _
      rw [hX, hY]; rfl
    rw [← hX] at c1; rw [← hY] at c2
    have d1 := cell_on (below1 w1 (.cells #[.int .i64 X, .int .i64 Y] 30)) rfl c1
    have d2 := cell_on (below1 w1 (.cells #[.int .i64 X, .int .i64 Y] 30)) rfl c2
    have hn1 : (0 : Int) < (L.length : Int) := by omega
    have m1 := fun o => cell_on (below1 w1 o) rfl c1
    have m2 := fun o => cell_on (below1 w1 o) rfl c2
    have m3 := fun o p => cell_on (below2 w1 o p) rfl c1
    have m4 := fun o p => cell_on (below2 w1 o p) rfl c2
    clear hX hY hA hb1 hb0 a1 a2 PC d1 d2
    go_wp2_with fail
    go_region
    · go_wp2_with fail
      obtain ⟨W, hW⟩ : ∃ W, W = ((w1.alloc (.cells #[.int .i64 X, .int .i64 Y] 30)).alloc (.cells #[.int .i64 X, .int .i64 Y] 30)).drew := ⟨_, rfl⟩
      have aL : At W (w1.heap.size) X Y 30 := by rw [hW]; exact (at_new w1 X Y 30).alloc _
      have aH : At W (w1.heap.size + 1) X Y 30 := by rw [hW]; have := at_new (w1.alloc (.cells #[.int .i64 X, .int .i64 Y] 30)) X Y 30; rwa [size_alloc] at this
      have z3 : At W w.heap.size 0 0 30 := by rw [hW]; exact (r1.alloc _).alloc _
      have z4 : At W (w.heap.size + 1) 0 0 30 := by rw [hW]; exact (r2.alloc _).alloc _
      have b3 : Below w.heap.size w W := by rw [hW]; exact (b1.trans ((below2 w1 _ _).mono (by omega))).drew
      have b13 : Below w1.heap.size w1 W := by rw [hW]; exact (below2 w1 _ _).drew
      rw [← hW]
      clear hW c1 c2 r1 r2 b1 m1 m2 m3 m4
      go_loopw [22] (fun i wr => ∃ k : Nat, k ≤ L.length ∧ i = .int .i64 k ∧ At wr (w1.heap.size) (boxTill L k).1.1 (boxTill L k).1.2 30 ∧ At wr (w1.heap.size + 1) (boxTill L k).2.1 (boxTill L k).2.2 30 ∧ At wr w.heap.size 0 0 30 ∧ At wr (w.heap.size + 1) 0 0 30 ∧ Below w.heap.size w wr ∧ Below w1.heap.size w1 wr) (fun i _ => L.length - (intOf i).toNat)
      case atStart => exact ⟨0, Nat.zero_le _, rfl, by rw [H0.out]; exact aL, by rw [H0.out]; exact aH, z3, z4, b3, b13⟩
      case round =>
        clear aL aH z3 z4 b3 b13
        obtain ⟨k, hk, rfl, aL, aH, z3, z4, b3, b13⟩ := hrel
        by_cases hlt : k < L.length
        · obtain ⟨c1, c2⟩ := gt_cells (ptsA_on HA.out b13) hlt
          have HS : Hid (boxTill L (k + 1) = boxStep (boxTill L k) (gt L k)) := rfl
          have hsk := b13.size
          obtain ⟨x, hx⟩ : ∃ x, x = (gt L k).1 := ⟨_, rfl⟩
          obtain ⟨y, hy⟩ : ∃ y, y = (gt L k).2 := ⟨_, rfl⟩
          obtain ⟨lx, hlx⟩ : ∃ lx, lx = (boxTill L k).1.1 := ⟨_, rfl⟩
          obtain ⟨ly, hly⟩ : ∃ ly, ly = (boxTill L k).1.2 := ⟨_, rfl⟩
          obtain ⟨hx', hhx⟩ : ∃ hx', hx' = (boxTill L k).2.1 := ⟨_, rfl⟩
          obtain ⟨hy', hhy⟩ : ∃ hy', hy' = (boxTill L k).2.2 := ⟨_, rfl⟩
          have HT : Hid (boxTill L (k + 1) = ((minI lx x, minI ly y), (maxI hx' x, maxI hy' y))) := by
            show _ = _
            rw [HS.out, hx, hy, hlx, hly, hhx, hhy]; rfl
          rw [← hx] at c1; rw [← hy] at c2; rw [← hlx, ← hly] at aL; rw [← hhx, ← hhy] at aH
          clear hx hy hlx hly hhx hhy HS
          have hl1 := aL.lt
          have hl2 := aH.lt
          have a0 := at_new wr x y 30
          have aL1 := aL.alloc (.cells #[.int .i64 x, .int .i64 y] 30)
          have aH1 := aH.alloc (.cells #[.int .i64 x, .int .i64 y] 30)
          have y3 := z3.alloc (.cells #[.int .i64 x, .int .i64 y] 30)
          have y4 := z4.alloc (.cells #[.int .i64 x, .int .i64 y] 30)
          have bb := b3.alloc b3.size (.cells #[.int .i64 x, .int .i64 y] 30)
          have bb13 := b13.alloc hsk (.cells #[.int .i64 x, .int .i64 y] 30)
          have l1 := aL1.c0; have l2 := aL1.c1; have p1 := a0.c0; have p2 := a0.c1
          have g1 := at_frozen aL1 0; have g2 := at_frozen aL1 1
          have aL2 := at_store1 (at_store aL1 (minI lx x) 0) (minI ly y)
          have aH2 := at_set (at_set aH1 (b := w1.heap.size) (by omega) 0 (.int .i64 (minI lx x))) (b := w1.heap.size) (by omega) 1 (.int .i64 (minI ly y))
          have a02 := at_set (at_set a0 (b := w1.heap.size) (by omega) 0 (.int .i64 (minI lx x))) (b := w1.heap.size) (by omega) 1 (.int .i64 (minI ly y))
          have l3 := (at_store aL1 (minI lx x) 0).c1
          have h1 := aH2.c0; have h2 := aH2.c1; have p3 := a02.c0; have p4 := a02.c1
          have g3 := at_frozen aH2 0; have g4 := at_frozen aH2 1
          have h4 := (at_store aH2 (maxI hx' x) 0).c1
          have aH3 := at_store1 (at_store aH2 (maxI hx' x) 0) (maxI hy' y)
          have aL3 := at_set (at_set aL2 (b := w1.heap.size + 1) (by omega) 0 (.int .i64 (maxI hx' x))) (b := w1.heap.size + 1) (by omega) 1 (.int .i64 (maxI hy' y))
          have y3' := at_set (at_set (at_set (at_set y3 (b := w1.heap.size) (by omega) 0 (.int .i64 (minI lx x))) (b := w1.heap.size) (by omega) 1 (.int .i64 (minI ly y))) (b := w1.heap.size + 1) (by omega) 0 (.int .i64 (maxI hx' x))) (b := w1.heap.size + 1) (by omega) 1 (.int .i64 (maxI hy' y))
          have y4' := at_set (at_set (at_set (at_set y4 (b := w1.heap.size) (by omega) 0 (.int .i64 (minI lx x))) (b := w1.heap.size) (by omega) 1 (.int .i64 (minI ly y))) (b := w1.heap.size + 1) (by omega) 0 (.int .i64 (maxI hx' x))) (b := w1.heap.size + 1) (by omega) 1 (.int .i64 (maxI hy' y))
          have hle1 : w.heap.size ≤ w1.heap.size := by omega
          have hle2 : w.heap.size ≤ w1.heap.size + 1 := by omega
          have hle3 : w1.heap.size ≤ w1.heap.size := by omega
          have hle4 : w1.heap.size ≤ w1.heap.size + 1 := by omega
          have bb' := (((bb.setCell (p := ⟨w1.heap.size, 0, none⟩) hle1 (.int .i64 (minI lx x))).setCell (p := ⟨w1.heap.size, 1, none⟩) hle1 (.int .i64 (minI ly y))).setCell (p := ⟨w1.heap.size + 1, 0, none⟩) hle2 (.int .i64 (maxI hx' x))).setCell (p := ⟨w1.heap.size + 1, 1, none⟩) hle2 (.int .i64 (maxI hy' y))
          have bb13' := (((bb13.setCell (p := ⟨w1.heap.size, 0, none⟩) hle3 (.int .i64 (minI lx x))).setCell (p := ⟨w1.heap.size, 1, none⟩) hle3 (.int .i64 (minI ly y))).setCell (p := ⟨w1.heap.size + 1, 0, none⟩) hle4 (.int .i64 (maxI hx' x))).setCell (p := ⟨w1.heap.size + 1, 1, none⟩) hle4 (.int .i64 (maxI hy' y))
          have R := Lib.hid (And.intro aL3 (And.intro aH3 (And.intro y3' (And.intro y4' (And.intro bb' bb13')))))
          have d1 := cell_on (below1 wr (.cells #[.int .i64 x, .int .i64 y] 30)) rfl c1
          have d2 := cell_on (below1 wr (.cells #[.int .i64 x, .int .i64 y] 30)) rfl c2
          clear aL aH z3 z4 b3 b13 aL1 aH1 y3 y4 bb bb13 aL2 aH2 a02 aH3 aL3 y3' y4' bb' bb13' a0 hl1 hl2 hle1 hle2 hle3 hle4
          go_wp2_with fail
          go_roundw
          case rel => exact ⟨k + 1, by omega, by go_num, by rw [HT.out]; exact R.out.1, by rw [HT.out]; exact R.out.2.1, R.out.2.2.1, R.out.2.2.2.1, R.out.2.2.2.2.1, R.out.2.2.2.2.2⟩
          case measure => simp [intOf]; omega
        · obtain rfl : k = L.length := by omega
          obtain ⟨lx, hlx⟩ : ∃ lx, lx = (boxTill L L.length).1.1 := ⟨_, rfl⟩
          obtain ⟨ly, hly⟩ : ∃ ly, ly = (boxTill L L.length).1.2 := ⟨_, rfl⟩
          obtain ⟨hx', hhx⟩ : ∃ hx', hx' = (boxTill L L.length).2.1 := ⟨_, rfl⟩
          obtain ⟨hy', hhy⟩ : ∃ hy', hy' = (boxTill L L.length).2.2 := ⟨_, rfl⟩
          have HT : Hid (boxR L = .tuple #[.agg #[.int .i64 lx, .int .i64 ly], .agg #[.int .i64 hx', .int .i64 hy'], .bool true]) := by
            show _ = _
            rw [HR.out, hlx, hly, hhx, hhy]; rfl
          rw [← hlx, ← hly] at aL; rw [← hhx, ← hhy] at aH
          clear hlx hly hhx hhy
          have l1 := aL.c0; have l2 := aL.c1; have h1 := aH.c0; have h2 := aH.c1
          have f1 := at_frozen z3 0; have f2 := at_frozen z3 1; have f3 := at_frozen z4 0; have f4 := at_frozen z4 1
          have v1 := z3.c0; have v2 := z3.c1; have v3 := z4.c0; have v4 := z4.c1
          have v5 := (at_store z3 lx 0).c1
          have e1 := at_store1 (at_store z3 lx 0) ly
          have e2 := at_set (at_set z4 (b := w.heap.size) (by omega) 0 (.int .i64 lx)) (b := w.heap.size) (by omega) 1 (.int .i64 ly)
          have q1 := e2.c0; have q2 := e2.c1; have q3 := at_frozen e2 0; have q4 := at_frozen e2 1
          have q5 := (at_store e2 hx' 0).c1
          have e3 := at_store1 (at_store e2 hx' 0) hy'
          have e4 := at_set (at_set e1 (b := w.heap.size + 1) (by omega) 0 (.int .i64 hx')) (b := w.heap.size + 1) (by omega) 1 (.int .i64 hy')
          have d1 := e4.c0; have d2 := e4.c1; have d3 := e3.c0; have d4 := e3.c1
          have hsw : w.heap.size ≤ w.heap.size + 1 := Nat.le_succ _
          have bE := (((b3.setCell (p := ⟨w.heap.size, 0, none⟩) (Nat.le_refl _) (.int .i64 lx)).setCell (p := ⟨w.heap.size, 1, none⟩) (Nat.le_refl _) (.int .i64 ly)).setCell (p := ⟨w.heap.size + 1, 0, none⟩) hsw (.int .i64 hx')).setCell (p := ⟨w.heap.size + 1, 1, none⟩) hsw (.int .i64 hy')
          have R := Lib.hid (And.intro bE.drew (And.intro e3 e4))
          clear aL aH z3 z4 b3 b13 e1 e2 e3 e4 bE HR
          go_wp2_with fail
          go_region
          go_wp2_with fail
          exact bodyPost_ret (v := .tuple #[.agg #[.int .i64 lx, .int .i64 ly], .agg #[.int .i64 hx', .int .i64 hy'], .bool true]) (by simp [results, Try.results87, go_sem, d1, d2, d3, d4]) rfl ⟨by rw [HT.out], R.out.1⟩
    · go_wp2_with fail
      obtain ⟨W, hW⟩ : ∃ W, W = ((w1.alloc (.cells #[.int .i64 X, .int .i64 Y] 30)).alloc (.cells #[.int .i64 X, .int .i64 Y] 30)).drew := ⟨_, rfl⟩
      have aL : At W (w1.heap.size + 1) X Y 30 := by rw [hW]; have := at_new (w1.alloc (.cells #[.int .i64 X, .int .i64 Y] 30)) X Y 30; rwa [size_alloc] at this
      have aH : At W (w1.heap.size) X Y 30 := by rw [hW]; exact (at_new w1 X Y 30).alloc _
      have z3 : At W w.heap.size 0 0 30 := by rw [hW]; exact (r1.alloc _).alloc _
      have z4 : At W (w.heap.size + 1) 0 0 30 := by rw [hW]; exact (r2.alloc _).alloc _
      have b3 : Below w.heap.size w W := by rw [hW]; exact (b1.trans ((below2 w1 _ _).mono (by omega))).drew
      have b13 : Below w1.heap.size w1 W := by rw [hW]; exact (below2 w1 _ _).drew
      rw [← hW]
      clear hW c1 c2 r1 r2 b1 m1 m2 m3 m4
      go_loopw [22] (fun i wr => ∃ k : Nat, k ≤ L.length ∧ i = .int .i64 k ∧ At wr (w1.heap.size + 1) (boxTill L k).1.1 (boxTill L k).1.2 30 ∧ At wr (w1.heap.size) (boxTill L k).2.1 (boxTill L k).2.2 30 ∧ At wr w.heap.size 0 0 30 ∧ At wr (w.heap.size + 1) 0 0 30 ∧ Below w.heap.size w wr ∧ Below w1.heap.size w1 wr) (fun i _ => L.length - (intOf i).toNat)
      case atStart => exact ⟨0, Nat.zero_le _, rfl, by rw [H0.out]; exact aL, by rw [H0.out]; exact aH, z3, z4, b3, b13⟩
      case round =>
        clear aL aH z3 z4 b3 b13
        obtain ⟨k, hk, rfl, aL, aH, z3, z4, b3, b13⟩ := hrel
        by_cases hlt : k < L.length
        · obtain ⟨c1, c2⟩ := gt_cells (ptsA_on HA.out b13) hlt
          have HS : Hid (boxTill L (k + 1) = boxStep (boxTill L k) (gt L k)) := rfl
          have hsk := b13.size
          obtain ⟨x, hx⟩ : ∃ x, x = (gt L k).1 := ⟨_, rfl⟩
          obtain ⟨y, hy⟩ : ∃ y, y = (gt L k).2 := ⟨_, rfl⟩
          obtain ⟨lx, hlx⟩ : ∃ lx, lx = (boxTill L k).1.1 := ⟨_, rfl⟩
          obtain ⟨ly, hly⟩ : ∃ ly, ly = (boxTill L k).1.2 := ⟨_, rfl⟩
          obtain ⟨hx', hhx⟩ : ∃ hx', hx' = (boxTill L k).2.1 := ⟨_, rfl⟩
          obtain ⟨hy', hhy⟩ : ∃ hy', hy' = (boxTill L k).2.2 := ⟨_, rfl⟩
          have HT : Hid (boxTill L (k + 1) = ((minI lx x, minI ly y), (maxI hx' x, maxI hy' y))) := by
            show _ = _
            rw [HS.out, hx, hy, hlx, hly, hhx, hhy]; rfl
          rw [← hx] at c1; rw [← hy] at c2; rw [← hlx, ← hly] at aL; rw [← hhx, ← hhy] at aH
          clear hx hy hlx hly hhx hhy HS
          have hl1 := aL.lt
          have hl2 := aH.lt
          have a0 := at_new wr x y 30
          have aL1 := aL.alloc (.cells #[.int .i64 x, .int .i64 y] 30)
          have aH1 := aH.alloc (.cells #[.int .i64 x, .int .i64 y] 30)
          have y3 := z3.alloc (.cells #[.int .i64 x, .int .i64 y] 30)
          have y4 := z4.alloc (.cells #[.int .i64 x, .int .i64 y] 30)
          have bb := b3.alloc b3.size (.cells #[.int .i64 x, .int .i64 y] 30)
          have bb13 := b13.alloc hsk (.cells #[.int .i64 x, .int .i64 y] 30)
          have l1 := aL1.c0; have l2 := aL1.c1; have p1 := a0.c0; have p2 := a0.c1
          have g1 := at_frozen aL1 0; have g2 := at_frozen aL1 1
          have aL2 := at_store1 (at_store aL1 (minI lx x) 0) (minI ly y)
          have aH2 := at_set (at_set aH1 (b := w1.heap.size + 1) (by omega) 0 (.int .i64 (minI lx x))) (b := w1.heap.size + 1) (by omega) 1 (.int .i64 (minI ly y))
          have a02 := at_set (at_set a0 (b := w1.heap.size + 1) (by omega) 0 (.int .i64 (minI lx x))) (b := w1.heap.size + 1) (by omega) 1 (.int .i64 (minI ly y))
          have l3 := (at_store aL1 (minI lx x) 0).c1
          have h1 := aH2.c0; have h2 := aH2.c1; have p3 := a02.c0; have p4 := a02.c1
          have g3 := at_frozen aH2 0; have g4 := at_frozen aH2 1
          have h4 := (at_store aH2 (maxI hx' x) 0).c1
          have aH3 := at_store1 (at_store aH2 (maxI hx' x) 0) (maxI hy' y)
          have aL3 := at_set (at_set aL2 (b := w1.heap.size) (by omega) 0 (.int .i64 (maxI hx' x))) (b := w1.heap.size) (by omega) 1 (.int .i64 (maxI hy' y))
          have y3' := at_set (at_set (at_set (at_set y3 (b := w1.heap.size + 1) (by omega) 0 (.int .i64 (minI lx x))) (b := w1.heap.size + 1) (by omega) 1 (.int .i64 (minI ly y))) (b := w1.heap.size) (by omega) 0 (.int .i64 (maxI hx' x))) (b := w1.heap.size) (by omega) 1 (.int .i64 (maxI hy' y))
          have y4' := at_set (at_set (at_set (at_set y4 (b := w1.heap.size + 1) (by omega) 0 (.int .i64 (minI lx x))) (b := w1.heap.size + 1) (by omega) 1 (.int .i64 (minI ly y))) (b := w1.heap.size) (by omega) 0 (.int .i64 (maxI hx' x))) (b := w1.heap.size) (by omega) 1 (.int .i64 (maxI hy' y))
          have hle1 : w.heap.size ≤ w1.heap.size + 1 := by omega
          have hle2 : w.heap.size ≤ w1.heap.size := by omega
          have hle3 : w1.heap.size ≤ w1.heap.size + 1 := by omega
          have hle4 : w1.heap.size ≤ w1.heap.size := by omega
          have bb' := (((bb.setCell (p := ⟨w1.heap.size + 1, 0, none⟩) hle1 (.int .i64 (minI lx x))).setCell (p := ⟨w1.heap.size + 1, 1, none⟩) hle1 (.int .i64 (minI ly y))).setCell (p := ⟨w1.heap.size, 0, none⟩) hle2 (.int .i64 (maxI hx' x))).setCell (p := ⟨w1.heap.size, 1, none⟩) hle2 (.int .i64 (maxI hy' y))
          have bb13' := (((bb13.setCell (p := ⟨w1.heap.size + 1, 0, none⟩) hle3 (.int .i64 (minI lx x))).setCell (p := ⟨w1.heap.size + 1, 1, none⟩) hle3 (.int .i64 (minI ly y))).setCell (p := ⟨w1.heap.size, 0, none⟩) hle4 (.int .i64 (maxI hx' x))).setCell (p := ⟨w1.heap.size, 1, none⟩) hle4 (.int .i64 (maxI hy' y))
          have R := Lib.hid (And.intro aL3 (And.intro aH3 (And.intro y3' (And.intro y4' (And.intro bb' bb13')))))
          have d1 := cell_on (below1 wr (.cells #[.int .i64 x, .int .i64 y] 30)) rfl c1
          have d2 := cell_on (below1 wr (.cells #[.int .i64 x, .int .i64 y] 30)) rfl c2
          clear aL aH z3 z4 b3 b13 aL1 aH1 y3 y4 bb bb13 aL2 aH2 a02 aH3 aL3 y3' y4' bb' bb13' a0 hl1 hl2 hle1 hle2 hle3 hle4
          go_wp2_with fail
          go_roundw
          case rel => exact ⟨k + 1, by omega, by go_num, by rw [HT.out]; exact R.out.1, by rw [HT.out]; exact R.out.2.1, R.out.2.2.1, R.out.2.2.2.1, R.out.2.2.2.2.1, R.out.2.2.2.2.2⟩
          case measure => simp [intOf]; omega
        · obtain rfl : k = L.length := by omega
          obtain ⟨lx, hlx⟩ : ∃ lx, lx = (boxTill L L.length).1.1 := ⟨_, rfl⟩
          obtain ⟨ly, hly⟩ : ∃ ly, ly = (boxTill L L.length).1.2 := ⟨_, rfl⟩
          obtain ⟨hx', hhx⟩ : ∃ hx', hx' = (boxTill L L.length).2.1 := ⟨_, rfl⟩
          obtain ⟨hy', hhy⟩ : ∃ hy', hy' = (boxTill L L.length).2.2 := ⟨_, rfl⟩
          have HT : Hid (boxR L = .tuple #[.agg #[.int .i64 lx, .int .i64 ly], .agg #[.int .i64 hx', .int .i64 hy'], .bool true]) := by
            show _ = _
            rw [HR.out, hlx, hly, hhx, hhy]; rfl
          rw [← hlx, ← hly] at aL; rw [← hhx, ← hhy] at aH
          clear hlx hly hhx hhy
          have l1 := aL.c0; have l2 := aL.c1; have h1 := aH.c0; have h2 := aH.c1
          have f1 := at_frozen z3 0; have f2 := at_frozen z3 1; have f3 := at_frozen z4 0; have f4 := at_frozen z4 1
          have v1 := z3.c0; have v2 := z3.c1; have v3 := z4.c0; have v4 := z4.c1
          have v5 := (at_store z3 lx 0).c1
          have e1 := at_store1 (at_store z3 lx 0) ly
          have e2 := at_set (at_set z4 (b := w.heap.size) (by omega) 0 (.int .i64 lx)) (b := w.heap.size) (by omega) 1 (.int .i64 ly)
          have q1 := e2.c0; have q2 := e2.c1; have q3 := at_frozen e2 0; have q4 := at_frozen e2 1
          have q5 := (at_store e2 hx' 0).c1
          have e3 := at_store1 (at_store e2 hx' 0) hy'
          have e4 := at_set (at_set e1 (b := w.heap.size + 1) (by omega) 0 (.int .i64 hx')) (b := w.heap.size + 1) (by omega) 1 (.int .i64 hy')
          have d1 := e4.c0; have d2 := e4.c1; have d3 := e3.c0; have d4 := e3.c1
          have hsw : w.heap.size ≤ w.heap.size + 1 := Nat.le_succ _
          have bE := (((b3.setCell (p := ⟨w.heap.size, 0, none⟩) (Nat.le_refl _) (.int .i64 lx)).setCell (p := ⟨w.heap.size, 1, none⟩) (Nat.le_refl _) (.int .i64 ly)).setCell (p := ⟨w.heap.size + 1, 0, none⟩) hsw (.int .i64 hx')).setCell (p := ⟨w.heap.size + 1, 1, none⟩) hsw (.int .i64 hy')
          have R := Lib.hid (And.intro bE.drew (And.intro e3 e4))
          clear aL aH z3 z4 b3 b13 e1 e2 e3 e4 bE HR
          go_wp2_with fail
          go_region
          go_wp2_with fail
          exact bodyPost_ret (v := .tuple #[.agg #[.int .i64 lx, .int .i64 ly], .agg #[.int .i64 hx', .int .i64 hy'], .bool true]) (by simp [results, Try.results87, go_sem, d1, d2, d3, d4]) rfl ⟨by rw [HT.out], R.out.1⟩
end Go.Proofs.Ytamchfdiehkloaa

/-! Uni9 -/
namespace Go.Proofs.Ytamchfdiehkloaa
open Go.RowKit

/-! ### What a numbering is, over ints -/
def numV (M : List Int) : Bool := M.all (fun x => decide (0 ≤ x)) && numF 0 (M.map Int.toNat)
theorem numV_cast (C : List Nat) : numV (castL C) = numF 0 C := by
  unfold numV castL
  rw [List.map_map, show (Int.toNat ∘ fun k : Nat => (k : Int)) = id by funext k; simp, List.map_id]
  simp
theorem numV_some {M : List Int} (h : numV M = true) : ∃ C, M = castL C ∧ numF 0 C = true ∧ C.length = M.length := by
  unfold numV at h
  rw [Bool.and_eq_true] at h
  refine ⟨M.map Int.toNat, ?_, h.2, by simp⟩
  unfold castL
  rw [List.map_map]
  refine (List.map_id M).symm.trans (List.map_congr_left fun x hx => ?_)
  have := List.all_eq_true.1 h.1 x hx
  simp only [decide_eq_true_eq] at this
  simp only [Function.comp, id]
  omega
theorem castL_inj : ∀ {C D : List Nat}, castL C = castL D → C = D
  | [], [], _ => rfl
  | [], _ :: _, h => by simp [castL] at h
  | _ :: _, [], h => by simp [castL] at h
  | c :: C, d :: D, h => by
    simp only [castL, List.map_cons, List.cons.injEq] at h
    rw [Int.ofNat.inj h.1, castL_inj (C := C) (D := D) h.2]
theorem numV_step {M : List Int} {C : List Nat} {k : Nat} (hk : k < M.length) (h : M.take k = castL C) {x : Nat} (hx : M[k] = (x : Int)) : M.take (k + 1) = castL (C ++ [x]) := by
  rw [take_snoc hk, h, castL_snoc, hx]
theorem numV_fail {M : List Int} {C : List Nat} {k : Nat} (hk : k < M.length) (h : M.take k = castL C) (hbad : inB M[k] 0 (bgF 0 C : Nat) = false) : numV M = false := by
  cases e : numV M
  · rfl
  · obtain ⟨D, rfl, hD, hDl⟩ := numV_some e
    have hk2 : k < D.length := by omega
    have h2 : D.take k = C := by
      have : castL (D.take k) = castL C := by rw [← h]; simp [castL, List.map_take]
      exact castL_inj this
    have h3 := numF_at hD hk2
    rw [h2] at h3
    have : (castL D)[k] = ((D[k] : Nat) : Int) := by simp [castL]
    rw [this] at hbad
    have h4 : inB ((D[k] : Nat) : Int) 0 (bgF 0 C : Nat) = true := by
      unfold inB
      rw [Bool.and_eq_true, decide_eq_true_eq, decide_eq_true_eq]
      omega
    rw [h4] at hbad
    cases hbad
theorem inB_nat {x : Int} {b : Nat} (h : inB x 0 (b : Int) = true) : ∃ k : Nat, x = k ∧ k ≤ b := by
  unfold inB at h
  rw [Bool.and_eq_true, decide_eq_true_eq, decide_eq_true_eq] at h
  exact ⟨x.toNat, by omega, by omega⟩
theorem maxI_nat (a b : Nat) : maxI (a : Int) ((b : Int) + 1) = ((max a (b + 1) : Nat) : Int) := by
  unfold maxI
  split <;> omega

set_option maxRecDepth 100000 in
set_option maxHeartbeats 1000000 in
theorem isNum_any (A : Option Addr) (c : Nat) (M : List Int) (w : World) (hP : IntsA w A M) (hL : M.length ≤ 1048576) :
    Calls Try.prog 100 #[.slice A M.length c] w fun e w' => e = .returned (.bool (numV M)) ∧ w' = w := by
  have HP := Lib.hid hP; clear hP
  have hmax : ∀ (w : World) (x y : Int) (ts : Array TypeId) (t : TypeId), (Builtin.max_ ts t #[.int .i64 x, .int .i64 y]).run Try.prog w = .ok (.int .i64 (maxI x y)) w := run_maxI
  go_enter Try.func100, Try.ntmps100
  go_wp2_with fail
  go_loop [3, 8] (fun b i => ∃ (k bg : Nat) (C : List Nat), k ≤ M.length ∧ i = .int .i64 k ∧ b = .int .i64 bg ∧ bg ≤ k ∧ Hid (M.take k = castL C ∧ numF 0 C = true ∧ bg = bgF 0 C ∧ C.length = k)) (fun _ i => M.length - (intOf i).toNat)
  case atStart => exact ⟨0, 0, [], Nat.zero_le _, rfl, rfl, Nat.le_refl _, by simp [castL], rfl, rfl, rfl⟩
  case round =>
    obtain ⟨k, bg, C, hk, rfl, rfl, hbk, HC⟩ := hrel
    by_cases hlt : k < M.length
    · obtain ⟨g1, rfl, hc⟩ := HP.out k hlt
      obtain ⟨p, hp⟩ : ∃ p, p = M[k] := ⟨_, rfl⟩
      rw [← hp] at hc
      cases hin : inB p 0 (bg : Int)
      · have HF : Hid (numV M = false) := numV_fail hlt HC.out.1 (by rw [← HC.out.2.2.1, ← hp]; exact hin)
        have HI := Lib.hid (fun w => from_any p 0 bg w)
        rw [hin] at HI
        clear hin hp
        go_wp2_with fail
        refine (HI.out _).mono ?_
        rintro e w1 ⟨rfl, rfl⟩
        go_wp2_with fail
        go_ret
        rw [HF.out]
        exact ⟨rfl, rfl⟩
      · obtain ⟨x, rfl, hxb⟩ := inB_nat hin
        have HI := Lib.hid (fun w => from_any x 0 bg w)
        rw [hin] at HI
        have hm := maxI_nat bg x
        have HC2 : Hid (M.take (k + 1) = castL (C ++ [x]) ∧ numF 0 (C ++ [x]) = true ∧ max bg (x + 1) = bgF 0 (C ++ [x]) ∧ (C ++ [x]).length = k + 1) := by
          obtain ⟨q1, q2, q3, q4⟩ := HC.out
          refine ⟨numV_step hlt q1 hp.symm, ?_, ?_, by simp [q4]⟩
          · rw [numF_snoc, q2, Bool.true_and, decide_eq_true_eq]; omega
          · rw [bgF_snoc, q3]
        have hmb : max bg (x + 1) ≤ k + 1 := by omega
        generalize max bg (x + 1) = bg2 at *
        clear hin hp
        go_wp2_with fail
        refine (HI.out _).mono ?_
        rintro e w1 ⟨rfl, rfl⟩
        go_wp2_with fail
        go_round
        case rel => exact ⟨k + 1, bg2, C ++ [x], by omega, by go_num, by first | rfl | go_num | exact congrArg _ hm, hmb, HC2⟩
        case measure => simp [intOf]; omega
    · have HT : Hid (numV M = true) := by
        obtain ⟨q1, q2, q3, q4⟩ := HC.out
        rw [List.take_of_length_le (by omega)] at q1
        show _ = _
        rw [q1, numV_cast]; exact q2
      go_wp2_with fail
      go_ret
      rw [HT.out]
      exact ⟨rfl, rfl⟩

/-! ### The cells of a shape that can be cut -/
def okC (w h M : Int) : Bool := shapeB w h M && decide (1 ≤ pc 64 M.toNat ∧ pc 64 M.toNat ≤ 9)
def idxV (w h M : Int) : List Nat := idxL M.toNat (w * h).toNat
def cutCells (w h M : Int) : List Int := bif okC w h M then castL ((idxV w h M).map (2 ^ ·)) else []
theorem and_bit {m k : Nat} (h : m.testBit k = true) : m &&& 2 ^ k = 2 ^ k := Nat.eq_of_testBit_eq fun j => by
  rw [Nat.testBit_and, Nat.testBit_two_pow]
  by_cases e : k = j
  · subst e; simp [h]
  · simp [e]
theorem and_nobit {m k : Nat} (h : m.testBit k = false) : m &&& 2 ^ k = 0 := Nat.eq_of_testBit_eq fun j => by
  rw [Nat.testBit_and, Nat.testBit_two_pow]
  by_cases e : k = j
  · subst e; simp [h]
  · simp [e]
set_option maxRecDepth 100000 in
set_option maxHeartbeats 2000000 in
theorem cellsTo_any (w h M : Int) (W : World) : Calls Try.prog 99 #[.int .i64 w, .int .i64 h, .int .i64 M] W (ListsI W (cutCells w h M)) := by
  have HS := Lib.hid (fun W => impl_cells w h M W)
  have HF := Lib.hid (fun W => from_any (cellsV w h M) 1 9 W)
  cases hB : okC w h M
  · have hin : inB (cellsV w h M) 1 9 = false := by
      unfold okC at hB
      cases hS : shapeB w h M
      · rw [cellsV_no hS]; rfl
      · obtain ⟨a, b, m, rfl, rfl, rfl, _⟩ := mask_nat hS
        rw [hS, Bool.true_and, decide_eq_false_iff_not, Int.toNat_natCast] at hB
        rw [cellsV_yes hS]
        unfold inB
        rw [Bool.and_eq_false_iff, decide_eq_false_iff_not, decide_eq_false_iff_not]
        omega
    rw [hin] at HF
    have HC : Hid (cutCells w h M = []) := by
      show _ = _
      unfold cutCells; rw [hB]; rfl
    rw [HC.out]
    clear hin hB
    go_enter Try.func99, Try.ntmps99
    go_wp2_with fail
    refine (HS.out _).mono ?_
    rintro e w1 ⟨rfl, rfl⟩
    go_wp2_with fail
    refine (HF.out _).mono ?_
    rintro e w1 ⟨rfl, rfl⟩
    go_wp2_with fail
    go_ret
    exact ⟨_, rfl, World.ownsRow_nil _ _ _ _, Below.refl _ _⟩
  · obtain ⟨i0, hi0, hz0, hz1, hz2⟩ := info_parts infoI
    have HC : Hid (cutCells w h M = castL ((idxV w h M).map (2 ^ ·))) := by
      show _ = _
      unfold cutCells; rw [hB]; rfl
    rw [HC.out]
    unfold okC at hB
    rw [Bool.and_eq_true, decide_eq_true_eq] at hB
    obtain ⟨hS, hp1, hp9⟩ := hB
    obtain ⟨a, b, m, rfl, rfl, rfl, ha1, ha2, hb1, hb2, hm, hab⟩ := mask_nat hS
    have hin : inB (cellsV (a : Int) b m) 1 9 = true := by
      rw [cellsV_yes hS]
      rw [Int.toNat_natCast] at hp1 hp9
      unfold inB
      rw [Bool.and_eq_true, decide_eq_true_eq, decide_eq_true_eq]
      omega
    rw [hin] at HF
    obtain ⟨n, hn⟩ : ∃ n, n = a * b := ⟨_, rfl⟩
    have hN : ((a : Int) * (b : Int) = (n : Int)) := by rw [hn, Int.natCast_mul]
    have HIX : Hid (idxV (a : Int) b m = idxL m n) := by
      show _ = _
      unfold idxV
      rw [hN]; rfl
    rw [HIX.out]
    rw [← hn] at hab hm
    have hm36 : m < 2 ^ 36 := lt62 hm hab
    clear hS hp1 hp9 hm hn hin
    go_enter Try.func99, Try.ntmps99
    go_wp2_with fail
    refine (HS.out _).mono ?_
    rintro e w1 ⟨rfl, rfl⟩
    go_wp2_with fail
    refine (HF.out _).mono ?_
    rintro e w1 ⟨rfl, rfl⟩
    go_wp2_with fail
    go_loopw [7, 8, 9, 19] (fun o _ _ i wr => ∃ (k : Nat) (K : List Nat), k ≤ n ∧ i = .int .i64 k ∧ K.length ≤ k ∧ Hid (K = (idxL m k).map (2 ^ ·)) ∧ wr.ownsRow w1.heap.size 3 1 o (castL K).length (ints (castL K)) ∧ Below w1.heap.size w1 wr) (fun _ _ _ i _ => n - (intOf i).toNat)
    case atStart => exact ⟨0, [], Nat.zero_le _, rfl, Nat.le_refl _, rfl, World.ownsRow_nil _ _ _ _, Below.refl _ _⟩
    case round =>
      obtain ⟨wo, rfl⟩ : ∃ wo : World, wo = wr := ⟨_, rfl⟩
      obtain ⟨k, K, hk, rfl, hKl, HK, own, hb⟩ := hrel
      by_cases hlt : k < n
      · have hlt36 : k < 36 := by omega
        obtain ⟨p, hp, hp2, hp3⟩ := pow_nat k hlt36
        have hand := and_nat (a := m) (b := p) (by omega) (by omega)
        cases hT : m.testBit k
        · rw [hp2, and_nobit hT, ← hp2] at hand
          have HK2 : Hid (K = (idxL m (k + 1)).map (2 ^ ·)) := by
            show _ = _
            rw [idxL_no hT]; exact HK.out
          have R := Lib.hid (And.intro own hb)
          clear hT hp2 own hb
          go_wp2_with fail
          go_roundw
          case rel => exact ⟨k + 1, K, by omega, by go_num, by omega, HK2, R.out.1, R.out.2⟩
          case measure => simp [intOf]; omega
        · rw [hp2, and_bit hT, ← hp2] at hand
          have hp0 : 0 < p := by rw [hp2]; exact Nat.two_pow_pos k
          have HK2 : Hid (K ++ [p] = (idxL m (k + 1)).map (2 ^ ·)) := by
            show _ = _
            rw [idxL_yes hT, List.map_append, ← HK.out, hp2]; rfl
          have hs6 := hb.size
          have hKL : (castL K).length ≤ 36 := by rw [castL_len]; omega
          clear hT hp2
          go_wp2_with (at_builtin; refine wpList_append_own _ rfl _ _ 43 rfl w1.heap.size 3 i0 (.int .i64 0) 1 8 Try.underlying43 hi0 hz0 hz1 hz2 rfl (by decide) _ _ _ rfl (own.alloc _) ⟨wo.heap.size, 0, none⟩ 1 1 [.int .i64 (p : Int)] rfl rfl ?d1 ?d2 ?d3 ?d4 ?d5 ?_)
          case d1 => exact World.news_of_block (cs := #[.int .i64 (p : Int)]) (t := 3) (fr := (0, 0)) (heap_alloc_new wo _)
          case d2 => simp [Value.oneCell']
          case d3 => unfold maxLen; omega
          case d4 => omega
          case d5 => simp; omega
          intro v' w7 own7 hgrow _
          have hrw := fun k hk => (own.lt k hk).1
          have R : Hid (w7.ownsRow w1.heap.size 3 1 v' (castL (K ++ [p])).length (ints (castL (K ++ [p]))) ∧ Below w1.heap.size w1 w7) :=
            ⟨by rw [castL_snoc, ints_snoc, List.length_append]; exact own7, (hb.alloc hs6 _).grown hgrow (by simp; omega) hrw⟩
          clear own own7 hgrow hb hrw
          go_wp2_with fail
          go_roundw
          case rel => exact ⟨k + 1, K ++ [p], by omega, by go_num, by simp; omega, HK2, R.out.1, R.out.2⟩
          case measure => simp [intOf]; omega
      · obtain rfl : k = n := by omega
        have R := Lib.hid (And.intro own hb)
        clear own hb
        go_wp2_with fail
        go_ret
        rw [← HK.out]
        exact ⟨_, rfl, R.out.1, R.out.2⟩
end Go.Proofs.Ytamchfdiehkloaa

/-! Pair9 -/
namespace Go.Proofs.Ytamchfdiehkloaa
open Go.RowKit

/-- The sum of the first n values. -/
def sm (f : Nat → Nat) : Nat → Nat
  | 0 => 0
  | n + 1 => sm f n + f n
theorem sm_congr {f g : Nat → Nat} : ∀ {n : Nat}, (∀ i, i < n → f i = g i) → sm f n = sm g n
  | 0, _ => rfl
  | n + 1, h => by simp only [sm]; rw [sm_congr (fun i hi => h i (by omega)), h n (by omega)]
theorem sm_add (f g : Nat → Nat) : ∀ n, sm (fun i => f i + g i) n = sm f n + sm g n
  | 0 => rfl
  | n + 1 => by simp only [sm, sm_add f g n]; omega
theorem sm_zero : ∀ n, sm (fun _ => 0) n = 0
  | 0 => rfl
  | n + 1 => by simp only [sm, sm_zero n]
theorem sm_swap (f : Nat → Nat → Nat) (m : Nat) : ∀ n, sm (fun i => sm (f i) m) n = sm (fun j => sm (fun i => f i j) n) m
  | 0 => (sm_zero m).symm
  | n + 1 => by
    simp only [sm]
    rw [sm_swap f m n, ← sm_add]
theorem sm_count (p : Nat → Bool) : ∀ n, sm (fun i => if p i then 1 else 0) n = (List.range n).countP p
  | 0 => rfl
  | n + 1 => by
    rw [List.range_succ, List.countP_append, ← sm_count p n]
    simp [sm, List.countP_cons]
theorem sm_filter (p : Nat → Bool) (f : Nat → Nat) : ∀ n, (((List.range n).filter p).map f).sum = sm (fun i => if p i then f i else 0) n
  | 0 => rfl
  | n + 1 => by
    rw [List.range_succ, List.filter_append, List.map_append, List.sum_append, sm_filter p f n]
    cases h : p n <;> simp [sm, h]

def nbrB (w h i j : Nat) : Bool := decide (i < w * h ∧ j < w * h ∧ ((i % w = j % w ∧ (i / w + 1 = j / w ∨ j / w + 1 = i / w)) ∨ (i / w = j / w ∧ (i % w + 1 = j % w ∨ j % w + 1 = i % w))))
theorem nbrB_iff {w h i j : Nat} : nbrB w h i j = true ↔ Adj w h i j := by unfold nbrB Adj; rw [decide_eq_true_iff]
theorem nbrB_symm (w h i j : Nat) : nbrB w h i j = nbrB w h j i := by
  rw [Bool.eq_iff_iff, nbrB_iff, nbrB_iff]; exact ⟨Adj.symm, Adj.symm⟩
/-- How many neighbors a cell has in a set. -/
def degN (w h q i : Nat) : Nat := (List.range (w * h)).countP fun j => q.testBit j && nbrB w h i j
def b2 (b : Bool) : Nat := if b then 1 else 0
theorem degN_sm (w h q i : Nat) : degN w h q i = sm (fun j => b2 (q.testBit j && nbrB w h i j)) (w * h) := (sm_count _ _).symm
/-- The pairs of neighbors, the first one in p, the other in q. -/
def eN (w h p q : Nat) : Nat := ((idxL p (w * h)).map (degN w h q)).sum
theorem eN_sm (w h p q : Nat) : eN w h p q = sm (fun i => sm (fun j => b2 (p.testBit i && q.testBit j && nbrB w h i j)) (w * h)) (w * h) := by
  unfold eN idxL
  rw [sm_filter]
  refine sm_congr fun i _ => ?_
  cases h1 : p.testBit i
  · simp only [Bool.false_and]
    rw [show (fun _ => b2 false) = (fun _ : Nat => 0) from rfl, sm_zero]; rfl
  · simp only [Bool.true_and, if_true]
    exact degN_sm _ _ _ _
theorem eN_symm (w h p q : Nat) : eN w h p q = eN w h q p := by
  rw [eN_sm, eN_sm, sm_swap]
  refine sm_congr fun i _ => sm_congr fun j _ => ?_
  rw [nbrB_symm w h j i, Bool.and_comm (p.testBit j)]
theorem eN_or {w h p q r : Nat} (hd : ∀ j, q.testBit j = true → r.testBit j = false) : eN w h p (q ||| r) = eN w h p q + eN w h p r := by
  rw [eN_sm, eN_sm, eN_sm, ← sm_add]
  refine sm_congr fun i _ => ?_
  rw [← sm_add]
  refine sm_congr fun j _ => ?_
  have := hd j
  rw [Nat.testBit_or]
  cases p.testBit i <;> cases hq : q.testBit j <;> cases hr : r.testBit j <;> cases nbrB w h i j <;> simp_all [b2]
theorem eN_zero (w h p : Nat) : eN w h p 0 = 0 := by
  rw [eN_sm]
  rw [sm_congr (g := fun _ => 0) (fun i _ => by rw [sm_congr (g := fun _ => 0) (fun j _ => by simp [b2]), sm_zero]), sm_zero]
def orL : List Nat → Nat
  | [] => 0
  | p :: L => p ||| orL L
/-- No two of the masks have a common cell. -/
def apartL : List Nat → Prop
  | [] => True
  | p :: L => (∀ j, p.testBit j = true → (orL L).testBit j = false) ∧ apartL L
def eAll (w h p : Nat) : List Nat → Nat
  | [] => 0
  | q :: L => eN w h p q + eAll w h p L
/-- The pairs of neighbors in different pieces. -/
def lenN (w h : Nat) : List Nat → Nat
  | [] => 0
  | p :: L => eAll w h p L + lenN w h L
def ownE (w h : Nat) : List Nat → Nat
  | [] => 0
  | p :: L => eN w h p p + ownE w h L
theorem eN_all (w h p : Nat) : ∀ L, apartL L → eN w h p (orL L) = eAll w h p L
  | [], _ => eN_zero _ _ _
  | q :: L, hL => by simp only [orL, eAll]; rw [eN_or hL.1, eN_all w h p L hL.2]
theorem eN_both (w h : Nat) : ∀ L, apartL L → eN w h (orL L) (orL L) = ownE w h L + 2 * lenN w h L
  | [], _ => eN_zero _ _ _
  | p :: L, hL => by
    have e1 := eN_both w h L hL.2
    have e2 := eN_all w h p L hL.2
    have e3 := eN_symm w h (orL L) p
    simp only [orL, ownE, lenN]
    rw [eN_or hL.1, eN_symm w h (p ||| orL L) p, eN_symm w h (p ||| orL L) (orL L), eN_or hL.1, eN_or hL.1]
    omega
/-! ### The pieces of a numbering have each cell once -/
theorem orL_bit : ∀ (L : List Nat) (b : Nat), (orL L).testBit b = true ↔ ∃ p ∈ L, p.testBit b = true
  | [], b => by simp [orL]
  | p :: L, b => by simp [orL, Nat.testBit_or, orL_bit L b]
theorem apartL_of : ∀ {L : List Nat}, (∀ i j (hi : i < L.length) (hj : j < L.length) b, (L[i]).testBit b = true → (L[j]).testBit b = true → i = j) → apartL L
  | [], _ => trivial
  | p :: L, h => by
    refine ⟨fun b hb => ?_, apartL_of fun i j hi hj b h1 h2 => ?_⟩
    · cases e : (orL L).testBit b
      · rfl
      · obtain ⟨q, hq, h2⟩ := (orL_bit L b).1 e
        obtain ⟨j, hj, rfl⟩ := List.getElem_of_mem hq
        have := h 0 (j + 1) (by simp) (by simp; omega) b hb (by simpa using h2)
        omega
    · have := h (i + 1) (j + 1) (by simp; omega) (by simp; omega) b (by simpa using h1) (by simpa using h2)
      omega
theorem zip_uniq {I C : List Nat} (hd : I.Nodup) : ∀ {b j j' : Nat}, (b, j) ∈ I.zip C → (b, j') ∈ I.zip C → j = j' := by
  intro b j j' h1 h2
  obtain ⟨s, hs, e1⟩ := List.getElem_of_mem h1
  obtain ⟨t, ht, e2⟩ := List.getElem_of_mem h2
  rw [List.getElem_zip] at e1 e2
  simp only [Prod.mk.injEq] at e1 e2
  have hs' : s < I.length := by simp at hs; omega
  have ht' : t < I.length := by simp at ht; omega
  have hst : s = t := by
    rcases Nat.lt_trichotomy s t with h | h | h
    · exact absurd (e1.1.trans e2.1.symm) (List.pairwise_iff_getElem.1 hd s t hs' ht' h)
    · exact h
    · exact absurd (e2.1.trans e1.1.symm) (List.pairwise_iff_getElem.1 hd t s ht' hs' h)
  subst hst
  exact e1.2.symm.trans e2.2
theorem uniF_at {I C : List Nat} (h : I.length = C.length) (hn : numF 0 C = true) {j : Nat} (hj : j < (uniF [] I C).length) (b : Nat) : ((uniF [] I C)[j]).testBit b = true ↔ (b, j) ∈ I.zip C := by
  have := uniF_bit I C [] h hn j b
  rw [List.getD_eq_getElem?_getD, List.getElem?_eq_getElem hj] at this
  simpa using this
theorem uniF_apart {I C : List Nat} (h : I.length = C.length) (hd : I.Nodup) (hn : numF 0 C = true) : apartL (uniF [] I C) :=
  apartL_of fun _ _ hi hj b h1 h2 => zip_uniq hd ((uniF_at h hn hi b).1 h1) ((uniF_at h hn hj b).1 h2)
theorem numF_lt : ∀ {C : List Nat} {b k : Nat}, k ∈ C → k < bgF b C
  | c :: C, b, k, hk => by
    simp only [bgF]
    rcases List.mem_cons.1 hk with rfl | h
    · have := bgF_ge C (max b (k + 1)); omega
    · exact numF_lt h
theorem uniF_or {m n : Nat} {C : List Nat} (hm : m < 2 ^ n) (h : (idxL m n).length = C.length) (hn : numF 0 C = true) : orL (uniF [] (idxL m n) C) = m := by
  refine Nat.eq_of_testBit_eq fun b => ?_
  rw [Bool.eq_iff_iff, orL_bit]
  constructor
  · rintro ⟨p, hp, hb⟩
    exact (mem_idxL.1 (uniF_sub h hn hp b hb)).2
  · intro hb
    have hbn : b < n := by
      rcases Nat.lt_or_ge b n with h1 | h1
      · exact h1
      · rw [Nat.testBit_lt_two_pow (Nat.lt_of_lt_of_le hm (Nat.pow_le_pow_right (by omega) h1))] at hb; cases hb
    obtain ⟨t, ht, e⟩ := List.getElem_of_mem (mem_idxL.2 ⟨hbn, hb⟩)
    have htC : t < C.length := by omega
    have hz : (b, C[t]) ∈ (idxL m n).zip C := by
      have : t < ((idxL m n).zip C).length := by simp; omega
      have h2 := List.getElem_mem this
      rw [List.getElem_zip, e] at h2
      exact h2
    have hl : C[t] < (uniF [] (idxL m n) C).length := by
      rw [uniF_len _ _ [] h hn]
      exact numF_lt (List.getElem_mem htC)
    exact ⟨_, List.getElem_mem hl, (uniF_at h hn hl b).2 hz⟩
end Go.Proofs.Ytamchfdiehkloaa

/-! Law4 -/
namespace Go.Proofs.Ytamchfdiehkloaa
open Go.RowKit
end Go.Proofs.Ytamchfdiehkloaa

/-! Whole9 -/
namespace Go.Proofs.Ytamchfdiehkloaa
open Go.RowKit

/-- A whole number of a list at a place. -/
theorem castL_get {K : List Nat} {k : Nat} (h : k < (castL K).length) : (castL K)[k] = ((K[k]'(by rwa [castL_len] at h) : Nat) : Int) := by simp [castL]
theorem castL_set (K : List Nat) (k v : Nat) : (castL K).set k (v : Int) = castL (K.set k v) := by simp [castL, List.map_set]
theorem ints_put (M : List Int) (k : Nat) (v : Int) : (ints M).set k (.int .i64 v) = ints (M.set k v) := by simp [ints, List.map_set]
theorem uniF_lt {I C : List Nat} (h : I.length = C.length) (hn : numF 0 C = true) {n : Nat} (hI : ∀ i ∈ I, i < n) {p : Nat} (hp : p ∈ uniF [] I C) : p < 2 ^ n :=
  Nat.lt_pow_two_of_testBit p fun j hj => by
    cases e : p.testBit j
    · rfl
    · have := hI j (uniF_sub h hn hp j e); omega
theorem uniF_lt36 {I C : List Nat} (h : I.length = C.length) (hn : numF 0 C = true) (hI : ∀ i ∈ I, i < 36) (t k : Nat) : (uniF [] (I.take t) (C.take t)).getD k 0 < 2 ^ 36 := by
  rcases Nat.lt_or_ge k (uniF [] (I.take t) (C.take t)).length with h1 | h1
  · rw [List.getD_eq_getElem?_getD, List.getElem?_eq_getElem h1]
    exact uniF_lt (by simp [h]) (numF_take hn t) (fun i hi => hI i (List.mem_of_mem_take hi)) (List.getElem_mem h1)
  · rw [List.getD_eq_getElem?_getD, List.getElem?_eq_none h1]; decide
theorem own_castL {w : World} {B : Nat} {e : TypeId} {v : Value} {n : Nat} {P : List Nat} (h : w.ownsRow B e 1 v n (ints (castL P))) : ∃ A c, v = .slice A n c := by
  have h1 := h.1
  rw [ints_len, castL_len] at h1
  obtain ⟨_, A, c, rfl, _⟩ := own_ints h
  exact ⟨A, c, by rw [castL_len]; congr 1; omega⟩
theorem own_some {w : World} {B : Nat} {e : TypeId} {v : Value} {n : Nat} {xs : List Value} (h : w.ownsRow B e 1 v n xs) (hn : 0 < n) : ∃ g c, v = .slice (some ⟨g, 0, none⟩) n c := by
  obtain ⟨k, rfl⟩ : ∃ k, n = k + 1 := ⟨n - 1, by omega⟩
  exact ownsRow_succ h
theorem row_cell {w : World} {B g n cap : Nat} {e : TypeId} {P : List Nat} (h : w.ownsRow B e 1 (.slice (some ⟨g, 0, none⟩) n cap) n (ints (castL P))) {x : Nat} (hx : x < P.length) : w.cell? ⟨g, x, none⟩ = some (.int .i64 ((P.getD x 0 : Nat) : Int)) := by
  have hl := h.1
  rw [ints_len, castL_len] at hl
  rw [h.cellAt x (by omega)]
  simp [ints, castL, hx]
theorem row_put {w : World} {B g n cap : Nat} {e : TypeId} {P : List Nat} (h : w.ownsRow B e 1 (.slice (some ⟨g, 0, none⟩) n cap) n (ints (castL P))) (x v : Nat) : (w.setCell ⟨g, x, none⟩ (.int .i64 (v : Int))).ownsRow B e 1 (.slice (some ⟨g, 0, none⟩) n cap) n (ints (castL (P.set x v))) := by
  have := (h.stored x (.int .i64 (v : Int))).1
  rw [ints_put, castL_set] at this
  exact this
set_option maxRecDepth 100000 in
set_option maxHeartbeats 4000000 in
theorem unite_any (A1 A2 : Option Addr) (c1 c2 : Nat) (I C : List Nat) (W : World) (h1 : IntsA W A1 (castL (I.map (2 ^ ·)))) (h2 : IntsA W A2 (castL C)) (hl : I.length = C.length) (h9 : C.length ≤ 9) (hI : ∀ i ∈ I, i < 36) (hn : numF 0 C = true) :
    Calls Try.prog 102 #[.slice A1 C.length c1, .slice A2 C.length c2] W (ListsI W (castL (uniF [] I C))) := by
  obtain ⟨i0, hi0, hz0, hz1, hz2⟩ := info_parts infoI
  have H1 := Lib.hid h1; have H2 := Lib.hid h2
  have HN := Lib.hid hn
  have HI := Lib.hid hI
  have HL := Lib.hid hl
  clear h1 h2 hn hI hl
  go_enter Try.func102, Try.ntmps102
  go_wp2_with fail
  go_loopw [5, 6, 7, 10] (fun o _ _ i wr => ∃ (k : Nat) (P : List Nat), k ≤ C.length ∧ i = .int .i64 k ∧ P.length ≤ k ∧ Hid (P = uniF [] (I.take k) (C.take k)) ∧ wr.ownsRow W.heap.size 3 1 o P.length (ints (castL P)) ∧ Below W.heap.size W wr) (fun _ _ _ i _ => C.length - (intOf i).toNat)
  case atStart => exact ⟨0, [], Nat.zero_le _, rfl, Nat.le_refl _, rfl, World.ownsRow_nil _ _ _ _, Below.refl _ _⟩
  case round =>
    obtain ⟨wo, rfl⟩ : ∃ wo : World, wo = wr := ⟨_, rfl⟩
    obtain ⟨k, P, hk, rfl, hPk, HP, own, hb⟩ := hrel
    by_cases hlt : k < C.length
    · have hlI : k < I.length := by have := HL.out; omega
      obtain ⟨g2, rfl, e2⟩ := intsA_on H2.out hb k (by rw [castL_len]; exact hlt)
      obtain ⟨g1, rfl, e1⟩ := intsA_on H1.out hb k (by rw [castL_len, List.length_map]; exact hlI)
      rw [castL_get] at e1 e2
      simp only [List.getElem_map] at e1
      have hi36 : I[k] < 36 := HI.out _ (List.getElem_mem hlI)
      obtain ⟨p, hp⟩ : ∃ p, p = 2 ^ I[k] := ⟨_, rfl⟩
      have hp3 : p ≤ 68719476736 := by rw [hp]; exact two_le36 (by omega)
      rw [← hp] at e1
      have HQ1 : Hid (∀ w7, Below W.heap.size W w7 → w7.cell? ⟨g1, k, none⟩ = some (.int .i64 (p : Int))) := fun w7 hb7 => by
        obtain ⟨_, q, e⟩ := intsA_on H1.out hb7 k (by rw [castL_len, List.length_map]; exact hlI)
        cases q
        rw [castL_get] at e
        simp only [List.getElem_map, ← hp] at e
        exact e
      obtain ⟨x, hx⟩ : ∃ x, x = C[k] := ⟨_, rfl⟩
      rw [← hx] at e2
      have hxP : x ≤ P.length := by
        have := numF_at HN.out hlt
        rw [← uniF_take_len HL.out HN.out k, ← HP.out, ← hx] at this
        exact this
      have hst : uniF [] (I.take (k + 1)) (C.take (k + 1)) = putP P x I[k] := by rw [uniF_step hlI hlt, ← HP.out, hx]
      have hq := uniF_lt36 HL.out HN.out HI.out k x
      rw [← HP.out] at hq
      have hs6 := hb.size
      obtain ⟨n, hn⟩ : ∃ n, n = P.length := ⟨_, rfl⟩
      rw [← hn] at own hPk hxP
      have hxl' := Lib.hid hn
      obtain ⟨A5, c5, rfl⟩ := own_castL own
      have hPL : n ≤ 9 := by omega
      by_cases hc : x = n
      · have HS : Hid (P ++ [p] = uniF [] (I.take (k + 1)) (C.take (k + 1))) := by
          show _ = _
          rw [hst]; unfold putP; rw [if_pos (hc.trans hn), hp]
        have hor := or_nat (a := 0) (b := p) (by omega) (by omega)
        rw [Nat.zero_or, show ((0 : Nat) : Int) = 0 from rfl] at hor
        have k1 := e1; have k2 := e2
        subst hc
        clear hst hq hp hx hxP hn
        go_wp2_with (at_builtin; refine wpList_append_own _ rfl _ _ 43 rfl W.heap.size 3 i0 (.int .i64 0) 1 8 Try.underlying43 hi0 hz0 hz1 hz2 rfl (by decide) _ _ _ rfl (own.alloc _) ⟨wo.heap.size, 0, none⟩ 1 1 [.int .i64 0] rfl rfl (World.news_of_block (cs := #[.int .i64 0]) (t := 3) (fr := (0, 0)) (heap_alloc_new wo _)) ?d2 ?d3 ?d4 ?d5 ?_)
        case d2 => simp [Value.oneCell']
        case d3 => unfold maxLen; omega
        case d4 => omega
        case d5 => first | omega | (simp; omega)
        intro v' w7 own7 hgrow _
        have hrw := fun k hk => (own.lt k hk).1
        have hb7 := (hb.alloc hs6 (.cells #[.int .i64 0] 3)).grown hgrow (by simp; omega) hrw
        obtain ⟨g7, cap7, rfl⟩ := ownsRow_succ own7
        have e1' := HQ1.out _ hb7
        have hs7 := hb7.size
        have own8 : w7.ownsRow W.heap.size 3 1 (.slice (some ⟨g7, 0, none⟩) (x + 1) cap7) (x + 1) (ints (castL (P ++ [0]))) := by rw [castL_snoc, ints_snoc]; exact own7
        have hc7 := row_cell own8 (x := x) (by rw [List.length_append, ← hxl'.out]; simp)
        rw [List.getD_eq_getElem?_getD, List.getElem?_append_right (by rw [hxl'.out]; exact Nat.le_refl _), ← hxl'.out, Nat.sub_self] at hc7
        simp only [List.getElem?_cons_zero, Option.getD_some] at hc7
        have hf7 := own8.frozenAt x
        have hput := row_put own8 x p
        have hset : (P ++ [0]).set x p = P ++ [p] := by rw [hxl'.out]; simp
        rw [hset] at hput
        have hb8 := hb7.setCell (p := ⟨g7, x, none⟩) (own7.lt g7 rfl).1 (.int .i64 (p : Int))
        have R := Lib.hid (And.intro hput hb8)
        clear own own7 own8 hput hb8 hb7 hb hgrow hrw hset HP
        go_wp2_with fail
        go_region
        go_wp2_with fail
        go_roundw
        case rel => exact ⟨k + 1, P ++ [p], by omega, by go_num, by rw [List.length_append, ← hxl'.out]; simp only [List.length_singleton]; omega, HS, by rw [List.length_append, ← hxl'.out]; exact own_drew R.out.1, R.out.2.drew⟩
        case measure => simp [intOf]; omega
      · have hxn : x < n := by omega
        have HS : Hid (P.set x (P.getD x 0 ||| p) = uniF [] (I.take (k + 1)) (C.take (k + 1))) := by
          show _ = _
          rw [hst]; unfold putP; rw [if_neg (by omega), hp]
        obtain ⟨q, hq'⟩ : ∃ q, q = P.getD x 0 := ⟨_, rfl⟩
        rw [← hq'] at hq HS
        have hor := or_nat (a := q) (b := p) (by omega) (by omega)
        have hceq : ((x : Int) == (n : Int)) = false := by rw [beq_eq_false_iff_ne]; omega
        obtain ⟨g7, cap7, e7⟩ := own_some own (by omega)
        cases e7
        have hc7 := row_cell own (x := x) (by omega)
        rw [← hq'] at hc7
        have hf7 := own.frozenAt x
        have hput := row_put own x (q ||| p)
        have hb8 := hb.setCell (p := ⟨g7, x, none⟩) (own.lt g7 rfl).1 (.int .i64 ((q ||| p : Nat) : Int))
        have R := Lib.hid (And.intro hput hb8)
        clear hst hq hp hx hxP hc hq' own hput hb8 hb HP hn
        generalize q ||| p = r at *
        go_wp2_with fail
        go_region
        go_wp2_with fail
        go_roundw
        case rel => exact ⟨k + 1, P.set x r, by omega, by go_num, by rw [List.length_set, ← hxl'.out]; omega, HS, by rw [List.length_set, ← hxl'.out]; exact own_drew R.out.1, R.out.2.drew⟩
        case measure => simp [intOf]; omega
    · have R := Lib.hid (And.intro own hb)
      obtain rfl : k = C.length := by omega
      have HQ : Hid (P = uniF [] I C) := by
        show _ = _
        rw [HP.out, List.take_of_length_le (Nat.le_refl _), List.take_of_length_le (by have := HL.out; omega)]
      clear own hb
      go_wp2_with fail
      go_ret
      rw [← HQ.out]
      exact ⟨_, rfl, by rw [castL_len]; exact R.out.1, R.out.2⟩

/-! ### Whole pieces -/
def AllP (w h : Int) (L : List Int) : Prop := ∀ p ∈ L, OneP w h p
set_option maxRecDepth 100000 in
theorem notWhole_any (w h x : Int) (b1 b2 : Nat) (W : World) (h1 : W.cell? ⟨b1, 0, none⟩ = some (.int .i64 w)) (h2 : W.cell? ⟨b2, 0, none⟩ = some (.int .i64 h)) :
    Calls Try.prog 146 #[.int .i64 x, .pointer (some ⟨b1, 0, none⟩), .pointer (some ⟨b2, 0, none⟩)] W fun e w' => ∃ v : Bool, e = .returned (.bool v) ∧ (v = false ↔ OneP w h x) ∧ Below W.heap.size W w' := by
  have HW := Lib.hid (fun W => impl_whole w h x W)
  go_enter Try.func146, Try.ntmps146
  go_wp2_with fail
  refine (HW.out _).mono ?_
  rintro e w1 ⟨v, rfl, hv, hb⟩
  have R : Hid (∀ u : Bool, u = !v → ∃ v : Bool, Ending.returned (.bool u) = .returned (.bool v) ∧ (v = false ↔ OneP w h x) ∧ Below W.heap.size W w1) := fun u hu => ⟨u, rfl, by rw [hu, ← hv]; cases v <;> simp, hb⟩
  clear hv hb
  go_wp2_with fail
  go_ret
  exact R.out _ (by first | rfl | simp)
set_option maxRecDepth 100000 in
set_option maxHeartbeats 1000000 in
theorem findNot_any (w h : Int) (b1 b2 : Nat) (A : Option Addr) (c : Nat) (M : List Int) (W : World) (hP : IntsA W A M) (hL : M.length ≤ 1048576) (h1 : W.cell? ⟨b1, 0, none⟩ = some (.int .i64 w)) (h2 : W.cell? ⟨b2, 0, none⟩ = some (.int .i64 h)) :
    Calls Try.prog 172 #[.slice A M.length c, .func (.func 146) #[] #[.pointer (some ⟨b1, 0, none⟩), .pointer (some ⟨b2, 0, none⟩)]] W fun e w' => ∃ z : Int, e = .returned (.int .i64 z) ∧ (z < 0 ↔ AllP w h M) ∧ Below W.heap.size W w' := by
  have HP := Lib.hid hP
  have H1 := Lib.hid h1
  have H2 := Lib.hid h2
  clear hP h1 h2
  go_enter Try.func172, Try.ntmps172
  go_wp2_with fail
  go_loopw [5, 8] (fun _ i wr => ∃ j : Nat, j ≤ M.length ∧ i = .int .i64 j ∧ Hid (AllP w h (M.take j)) ∧ Below W.heap.size W wr) (fun _ i _ => M.length - (intOf i).toNat)
  case atStart => exact ⟨0, Nat.zero_le _, rfl, fun p hp => by simp at hp, Below.refl _ _⟩
  case round =>
    obtain ⟨k, hk, rfl, HA, hb⟩ := hrel
    by_cases hlt : k < M.length
    · obtain ⟨g, rfl, hc⟩ := intsA_on HP.out hb k hlt
      obtain ⟨x, hx⟩ : ∃ x, x = M[k] := ⟨_, rfl⟩
      rw [← hx] at hc
      have HC := Lib.hid (notWhole_any w h x b1 b2 wr (cell_on hb rfl H1.out) (cell_on hb rfl H2.out))
      have HX := Lib.hid hx
      clear hx
      go_wp2_with fail
      refine HC.out.mono ?_
      rintro e w1 ⟨v, rfl, hv, hb1⟩
      have hb2 := below_on hb hb1
      cases v
      · have HA2 : Hid (AllP w h (M.take (k + 1))) := by
          show AllP _ _ _
          rw [take_snoc hlt]
          intro p hp
          rcases List.mem_append.1 hp with h1 | h1
          · exact HA.out p h1
          · simp only [List.mem_singleton] at h1
            rw [h1, ← HX.out]; exact hv.1 rfl
        clear hv hb hb1
        go_wp2_with fail
        go_roundw
        case rel => exact ⟨k + 1, by omega, by go_num, HA2, hb2⟩
        case measure => simp [intOf]; omega
      · have R : Hid (((k : Int) < 0 ↔ AllP w h M) ∧ Below W.heap.size W w1) := by
          refine ⟨⟨fun h => absurd h (by omega), fun h => ?_⟩, hb2⟩
          have := h x (by rw [HX.out]; exact List.getElem_mem hlt)
          exact absurd (hv.2 this) (by simp)
        clear hv hb hb1 hb2
        go_wp2_with fail
        go_ret
        exact ⟨_, rfl, R.out⟩
    · have R : Hid (((-1 : Int) < 0 ↔ AllP w h M) ∧ Below W.heap.size W wr) := by
        refine ⟨⟨fun _ => ?_, fun _ => by omega⟩, hb⟩
        have := HA.out
        rw [List.take_of_length_le (by omega)] at this
        exact this
      clear hb
      go_wp2_with fail
      go_ret
      exact ⟨_, rfl, R.out⟩
set_option maxRecDepth 100000 in
theorem areWhole_any (w h : Int) (A : Option Addr) (c : Nat) (M : List Int) (W : World) (hP : IntsA W A M) (hL : M.length ≤ 1048576) :
    Calls Try.prog 101 #[.int .i64 w, .int .i64 h, .slice A M.length c] W fun e w' => ∃ v : Bool, e = .returned (.bool v) ∧ (v = true ↔ AllP w h M) ∧ Below W.heap.size W w' := by
  have bx1 := (Boxed.new W 3 (.int .i64 w)).alloc (.cells #[.int .i64 h] 3)
  have bx2 := Boxed.new (W.alloc (.cells #[.int .i64 w] 3)) 3 (.int .i64 h)
  simp only [World.size_alloc] at bx2
  have hb0 := below2 W (.cells #[.int .i64 w] 3) (.cells #[.int .i64 h] 3)
  have HC := Lib.hid (fun b1 b2 A c W hP => findNot_any w h b1 b2 A c M W hP hL)
  have HP := Lib.hid (intsA_on hP hb0)
  clear hP
  have HCF : Hid (∀ f W, Calls Try.prog 172 #[.slice A M.length c, f] W (fun e w' => ∃ z : Int, e = .returned (.int .i64 z) ∧ (z < 0 ↔ AllP w h M) ∧ Below W.heap.size W w') → Calls Try.prog 145 #[.slice A M.length c, f] W fun e w' => ∃ v : Bool, e = .returned (.bool v) ∧ (v = false ↔ AllP w h M) ∧ Below W.heap.size W w') := by
    intro f W HI
    have HI := Lib.hid HI
    clear HP HC bx1 bx2 hb0
    go_enter Try.func145, Try.ntmps145
    go_wp2_with fail
    refine HI.out.mono ?_
    rintro e w1 ⟨z, rfl, hz, hb⟩
    have R : Hid (∀ u : Bool, u = decide (0 ≤ z) → ∃ v : Bool, Ending.returned (.bool u) = .returned (.bool v) ∧ (v = false ↔ AllP w h M) ∧ Below W.heap.size W w1) := fun u hu => ⟨u, rfl, by rw [hu, decide_eq_false_iff_not, ← hz]; omega, hb⟩
    clear hz hb
    go_wp2_with fail
    go_ret
    exact R.out _ (by first | rfl | simp)
  go_enter Try.func101, Try.ntmps101
  go_wp2_with fail
  refine (HCF.out _ _ (HC.out _ _ _ _ _ HP.out bx1.cell bx2.cell)).mono ?_
  rintro e w1 ⟨v, rfl, hv, hb⟩
  have R : Hid (∀ u : Bool, u = !v → ∃ v : Bool, Ending.returned (.bool u) = .returned (.bool v) ∧ (v = true ↔ AllP w h M) ∧ Below W.heap.size W w1) := fun u hu => ⟨u, rfl, by rw [hu, ← hv]; cases v <;> simp, hb0.trans (hb.mono hb0.size)⟩
  clear hv hb hb0 bx1 bx2 HP
  go_wp2_with fail
  go_ret
  exact R.out _ (by first | rfl | simp)
end Go.Proofs.Ytamchfdiehkloaa
