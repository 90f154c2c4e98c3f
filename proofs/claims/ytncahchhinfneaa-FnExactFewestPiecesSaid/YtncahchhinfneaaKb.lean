/-
  Walks and facts of this seat, part Kb (merged by a script of this repo out of smaller texts).
-/
import Derived.Test.YtncahchhinfneaaKa
import Derived.WalkSpells
import Derived.RegionTactic
import Derived.Deep.RegionLaw
import Derived.Lib.AppendZerosOnto
import Derived.Lib.SliceRun
/-! Keep -/
namespace Go.Proofs.Ytncahchhinfneaa
open Go.RowKit Go.Shelf Go.Sort
attribute [local go_sem] Oper.semAt_some

theorem ownFrom_keepP {β : Type} {m B M : Nat} {W0 : World} (hm : m ≤ W0.heap.size) (hB : B < W0.heap.size) (hM : W0.heap.size ≤ M) : OwnFrom M (fun (_ : β) W => KeepP m B W0 W) :=
  fun _ X Y row hs hg hr => by
    have hX : B < X.heap.size := Nat.lt_of_lt_of_le hB hs.1.size
    refine keepP_t hs ⟨(Below.refl m X).grown hg (Nat.le_trans hm hs.1.size) (fun k e => by have := (hr k e).1; omega), hg.block B hX (fun e => by have := (hr _ e.symm).1; omega)⟩
theorem boxed_side {W W' : World} {B : Nat} {L : List (Int × Int)} {i : Nat} (h : SideAt W B L i) (hb : Below W.heap.size W W') : SideAt W' B L i := (hb.block B h.lt).trans h
theorem boxed_same {W W' : World} {B : Nat} {t : TypeId} {v : Value} (h : Boxed W B t v) (hb : W'.heap[B]? = W.heap[B]?) : Boxed W' B t v := hb.trans h

/-- How the sides i < k of n have to meet. -/
def needI (i k n : Int) : Int := bif wrap64 (k - i) == 1 || wrap64 (k - i) == n - 1 then 1 else 0
theorem need_any (i k n : Int) (w : World) (hn : 0 ≤ n ∧ n ≤ 100) :
    Calls Try.prog 196 #[.int .i64 i, .int .i64 k, .int .i64 n] w fun e w' => e = .returned (.int .i64 (needI i k n)) ∧ w' = w := by
  obtain ⟨d, hd⟩ : ∃ d, d = wrap64 (k - i) := ⟨_, rfl⟩
  have HV : Hid (needI i k n = bif d == 1 || d == n - 1 then 1 else 0) := by
    show _ = _
    rw [hd]; rfl
  have hd2 : wrap64 (k - i) = d := hd.symm
  clear hd
  cases h1 : (d == 1)
  · cases h2 : (d == n - 1)
    all_goals
      rw [h1, h2] at HV
      go_enter Try.func196, Try.ntmps196
      go_wp2_with fail
      go_ret
      exact ⟨ret_int (by rw [HV.out]; rfl), rfl⟩
  · rw [h1] at HV
    go_enter Try.func196, Try.ntmps196
    go_wp2_with fail
    go_ret
    exact ⟨ret_int (by rw [HV.out]; rfl), rfl⟩

theorem need_below (i k n : Int) (w : World) (hn : 0 ≤ n ∧ n ≤ 100) :
    Calls Try.prog 196 #[.int .i64 i, .int .i64 k, .int .i64 n] w fun e w' => e = .returned (.int .i64 (needI i k n)) ∧ Below w.heap.size w w' :=
  (need_any i k n w hn).mono fun _ _ ⟨he, hw⟩ => ⟨he, by rw [hw]; exact Below.refl _ _⟩
theorem meet_pt (a b c d : Int × Int) (w : World) :
    Calls Try.prog 195 #[(.agg #[.int .i64 a.1, .int .i64 a.2]), (.agg #[.int .i64 b.1, .int .i64 b.2]), (.agg #[.int .i64 c.1, .int .i64 c.2]), (.agg #[.int .i64 d.1, .int .i64 d.2])] w fun e w' => e = .returned (.int .i64 (meetV a b c d)) ∧ Below w.heap.size w w' :=
  impl_meet a.1 a.2 b.1 b.2 c.1 c.2 d.1 d.2 w

theorem pts_of {w : World} {g : Nat} {L : List (Int × Int)} (h : PtsA w (some ⟨g, 0, none⟩) L) : Pts w g L := fun k hk => by
  have := gt_cells h hk
  rw [gt_at hk] at this
  exact this

def cellB (L : List (Int × Int)) (i k : Nat) : Bool := !(decide (i < k)) || (meetV (gt L i) (gt L (nx L i)) (gt L k) (gt L (nx L k)) == needI i k L.length)
def rowB (L : List (Int × Int)) (i : Nat) : Bool := (List.range L.length).all (cellB L i)
def keepB (L : List (Int × Int)) : Bool := (List.range L.length).all (rowB L)

set_option maxRecDepth 100000 in
set_option maxHeartbeats 8000000 in
theorem keep_any (A : Option Addr) (c : Nat) (L : List (Int × Int)) (w : World) (hA : PtsA w A L) (h1 : 1 ≤ L.length) (h2 : L.length ≤ 100) :
    Calls Try.prog 142 #[.slice A L.length c] w fun e w' => e = .returned (.bool (keepB L)) ∧ Below w.heap.size w w' := by
  refine (callsIn_wide (n := 9)).1 ?_
  refine callsIn_of_wp_marks Try.func142 rfl trivial ?_ rfl
  simp only [Try.ntmps142, List.size_toArray, List.length_cons, List.length_nil, Nat.reduceAdd, Nat.reduceSub, Array.replicate_succ, Array.replicate_zero, List.push_toArray, List.append_toArray, List.nil_append, List.cons_append]
  gi_wp2
  refine ⟨trivial, (wide0.calls (sides_any A L.length c _)).mono ?_⟩
  rintro e w2 ⟨rfl, rfl⟩
  gi_wp2
  have bP := ((Boxed.new w 23 (.slice A L.length c)).alloc (.cells #[.bool false] 4)).alloc (.cells #[.slice A L.length c] 23)
  have bR := (Boxed.new (w.alloc (.cells #[.slice A L.length c] 23)) 4 (.bool false)).alloc (.cells #[.slice A L.length c] 23)
  have bS := Boxed.new ((w.alloc (.cells #[.slice A L.length c] 23)).alloc (.cells #[.bool false] 4)) 23 (.slice A L.length c)
  simp only [World.size_alloc] at bR bS
  have hB0 : Below w.heap.size w (((w.alloc (.cells #[.slice A L.length c] 23)).alloc (.cells #[.bool false] 4)).alloc (.cells #[.slice A L.length c] 23)) := below3 _ _ _ _
  have hsz : (((w.alloc (.cells #[.slice A L.length c] 23)).alloc (.cells #[.bool false] 4)).alloc (.cells #[.slice A L.length c] 23)).heap.size = w.heap.size + 3 := by simp
  obtain ⟨W0, hW0⟩ : ∃ W0, ((w.alloc (.cells #[.slice A L.length c] 23)).alloc (.cells #[.bool false] 4)).alloc (.cells #[.slice A L.length c] 23) = W0 := ⟨_, rfl⟩
  rw [hW0] at bP bR bS hB0 hsz ⊢
  clear hW0
  refine wpIn_rangeFunc_ownH rfl (by decide) (gf := 144) (lb := #[.pointer (some ⟨w.heap.size + 1 + 1, 0, none⟩)]) rfl trivial (enters_of Try.func144 (by kernel_rfl) rfl)
    (sides_stops 8 (w.heap.size + 1 + 1) A c L w W0 (by omega) (by omega) hA hB0 (by omega) bS.cell) keepP_t (keepP_b (by omega) (by omega)) (Below.refl _ _) (fun _ => rfl)
    (fun pre W => ((((∀ i ∈ pre, rowB L i = true) ∧ Boxed W (w.heap.size + 1) 4 (.bool false)) ∧ Boxed W w.heap.size 23 (.slice A L.length c)) ∧ Boxed W (w.heap.size + 1 + 1) 23 (.slice A L.length c)) ∧ Below w.heap.size w W)
    (fun co pre W => ((co = .ret ∧ ∃ i ∈ pre, rowB L i = false) ∧ Boxed W (w.heap.size + 1) 4 (.bool false)) ∧ Below w.heap.size w W)
    (OwnFrom.and (OwnFrom.and (OwnFrom.and (OwnFrom.and (ownFrom_pure _ _) (Own.from (boxed_own _ _ _) _)) (Own.from (boxed_own _ _ _) _)) (Own.from (boxed_own _ _ _) _)) (ownFrom_below (Nat.le_refl _) (by omega)))
    (fun co => OwnFrom.and (OwnFrom.and (ownFrom_pure _ _) (Own.from (boxed_own _ _ _) _)) (ownFrom_below (Nat.le_refl _) (by omega)))
    ⟨⟨⟨⟨by simp, bR⟩, bP⟩, bS⟩, hB0⟩
    (fun x a' W => ∃ Bi Bs, (w.heap.size + 1 + 1 < Bi ∧ Bi < Bs) ∧ Boxed W Bi 3 (.int .i64 (x : Int)) ∧ SideAt W Bs L x ∧ a' = { tmps := #[.slice A L.length c, .pointer (some ⟨w.heap.size, 0, none⟩), .pointer (some ⟨w.heap.size + 1, 0, none⟩), .pointer (some ⟨Bi, 0, none⟩), .pointer (some ⟨Bs, 0, none⟩), undef, undef, .slice A L.length c, .func (.func 144) #[] #[.pointer (some ⟨w.heap.size + 1 + 1, 0, none⟩)], .int .i64 (x : Int), .agg #[.int .i64 (gt L x).1, .int .i64 (gt L x).2, .int .i64 (gt L (nx L x)).1, .int .i64 (gt L (nx L x)).2], undef, undef, undef, undef, undef, undef, undef, undef, undef, undef, undef, undef, undef, undef, undef, undef, undef, undef, undef, undef, undef, undef, undef, undef], defers := [] })
    (fun x a' _ X Y row hs hg hr => by obtain ⟨Bi, Bs, e1, e2, e3, e4⟩ := hs; exact ⟨Bi, Bs, e1, boxed_own Bi 3 (fun (_ : Unit) => Value.int .i64 (x : Int)) () X Y row e2 hg (fun r e => (hr r e).2), sideAt_own Bs L x _ () X Y row e3 hg hr, e4⟩)
    ?assign ?body ?done ?stop
  case assign =>
    rintro l pre x W K ⟨⟨⟨⟨hp, bR1⟩, bP1⟩, bS1⟩, hB1⟩ hK
    simp only [sideV]
    gi_wp2
    have hs2 := hB1.size
    have hb2 := below2 W (.cells #[.int .i64 (x : Int)] 3) (.cells #[.int .i64 (gt L x).1, .int .i64 (gt L x).2, .int .i64 (gt L (nx L x)).1, .int .i64 (gt L (nx L x)).2] 81)
    exact hK _ _ (keepsFrom_below hb2) (KeepP.of_below hb2 hs2 bS1.lt) ⟨⟨⟨⟨hp, boxed_on bR1 hb2⟩, boxed_on bP1 hb2⟩, boxed_on bS1 hb2⟩, hB1.trans (hb2.mono hs2)⟩
      ⟨W.heap.size, W.heap.size + 1, ⟨bS1.lt, by omega⟩, (Boxed.new W 3 _).alloc _, by have := sideAt_new (W.alloc (.cells #[.int .i64 (x : Int)] 3)) L x; rwa [World.size_alloc] at this, rfl⟩
  case body =>
    rintro l pre x a' W hl ⟨r, hr⟩ ⟨⟨⟨⟨hp, bR1⟩, bP1⟩, bS1⟩, hB1⟩ ⟨Bi, Bs, ⟨hBi, hBs⟩, bI, sX, rfl⟩ hlt
    have cP := bP1.cell
    gi_wp2
    refine ⟨trivial, ((wideR l).calls (sides_any A L.length c _)).mono ?_⟩
    rintro e w' ⟨rfl, rfl⟩
    gi_wp2
    have hsW := hB1.size
    have bN := Boxed.new W 23 (.slice A L.length c)
    have hr' : (W.alloc (.cells #[.slice A L.length c] 23)).heap[l]? = some (.loop r) := (Below.heap_alloc W _ l (Array.getElem?_eq_some_iff.1 hr).1).trans hr
    have hS1 := bS1.lt
    have hW1 := below1 W (.cells #[.slice A L.length c] 23)
    refine wpIn_rangeFunc_ownN (l₀ := l) (r₀ := r) rfl hr' (by decide) (gf := 144) (lb := #[.pointer (some ⟨W.heap.size, 0, none⟩)]) rfl trivial (enters_of Try.func144 (by kernel_rfl) rfl)
      ((sides_stops 6 W.heap.size A c L w _ (by omega) (by omega) hA (hB1.trans (hW1.mono hsW)) (by simp) bN.cell).inRound l) keepP_t (keepP_b (by simp; omega) (by simp)) (Below.refl _ _) (fun _ => rfl)
      (fun pre' W' => (((((∀ k ∈ pre', cellB L x k = true) ∧ Boxed W' (w.heap.size + 1) 4 (.bool false)) ∧ Boxed W' w.heap.size 23 (.slice A L.length c)) ∧ Boxed W' Bi 3 (.int .i64 (x : Int))) ∧ (Boxed W' W.heap.size 23 (.slice A L.length c) ∧ SideAt W' Bs L x)) ∧ (KeepP w.heap.size (w.heap.size + 1 + 1) W W' ∧ KeepsFrom W0.heap.size W W'))
      (fun co pre' W' => ((co = .ret ∧ ∃ k ∈ pre', cellB L x k = false) ∧ Boxed W' (w.heap.size + 1) 4 (.bool false)) ∧ (KeepP w.heap.size (w.heap.size + 1 + 1) W W' ∧ KeepsFrom W0.heap.size W W'))
      (OwnFrom.and (OwnFrom.and (OwnFrom.and (OwnFrom.and (OwnFrom.and (ownFrom_pure _ _) (Own.from (boxed_own _ _ _) _)) (Own.from (boxed_own _ _ _) _)) (Own.from (boxed_own _ _ _) _)) (OwnFrom.and (Own.from (boxed_own _ _ _) _) (fun s X Y row hs hg hr => sideAt_own Bs L x _ () X Y row hs hg hr))) (OwnFrom.and (ownFrom_keepP hsW hS1 (by simp)) (ownFrom_keepsFrom (by simp))))
      (fun co => OwnFrom.and (OwnFrom.and (ownFrom_pure _ _) (Own.from (boxed_own _ _ _) _)) (OwnFrom.and (ownFrom_keepP hsW hS1 (by simp)) (ownFrom_keepsFrom (by simp))))
      ⟨⟨⟨⟨⟨by simp, bR1.alloc _⟩, bP1.alloc _⟩, bI.alloc _⟩, bN, boxed_side sX hW1⟩, KeepP.of_below hW1 hsW hS1, keepsFrom_below hW1⟩
      (fun y a'' W' => ∃ Bt, W.heap.size < Bt ∧ SideAt W' Bt L y ∧ a'' = { tmps := #[.slice A L.length c, .pointer (some ⟨w.heap.size, 0, none⟩), .pointer (some ⟨w.heap.size + 1, 0, none⟩), .pointer (some ⟨Bi, 0, none⟩), .pointer (some ⟨Bs, 0, none⟩), .int .i64 (y : Int), .pointer (some ⟨Bt, 0, none⟩), .slice A L.length c, .func (.func 144) #[] #[.pointer (some ⟨w.heap.size + 1 + 1, 0, none⟩)], .int .i64 (x : Int), .agg #[.int .i64 (gt L x).1, .int .i64 (gt L x).2, .int .i64 (gt L (nx L x)).1, .int .i64 (gt L (nx L x)).2], .slice A L.length c, .func (.func 144) #[] #[.pointer (some ⟨W.heap.size, 0, none⟩)], .int .i64 (y : Int), .agg #[.int .i64 (gt L y).1, .int .i64 (gt L y).2, .int .i64 (gt L (nx L y)).1, .int .i64 (gt L (nx L y)).2], undef, undef, undef, undef, undef, undef, undef, undef, undef, undef, undef, undef, undef, undef, undef, undef, undef, undef, undef, undef], defers := [] })
      (fun y a'' _ X Y row hs hg hr => by obtain ⟨Bt, e1, e2, e3⟩ := hs; exact ⟨Bt, e1, sideAt_own Bt L y _ () X Y row e2 hg hr, e3⟩)
      ?assign2 ?body2 ?done2 ?stop2
    case assign2 =>
      rintro l2 pre' y W' K ⟨⟨⟨⟨⟨hq, bR2⟩, bP2⟩, bI2⟩, bN2, sX2⟩, hKP, hKF⟩ hK
      simp only [sideV]
      gi_wp2
      have hb2 := below1 W' (.cells #[.int .i64 (gt L y).1, .int .i64 (gt L y).2, .int .i64 (gt L (nx L y)).1, .int .i64 (gt L (nx L y)).2] 81)
      have hs2 := hKP.1.size
      exact hK _ _ (keepsFrom_below hb2) (KeepP.of_below hb2 (by omega) bN2.lt) ⟨⟨⟨⟨⟨hq, bR2.alloc _⟩, bP2.alloc _⟩, bI2.alloc _⟩, bN2.alloc _, boxed_side sX2 hb2⟩, keepP_t hKP (KeepP.of_below hb2 (by omega) (by omega)), hKF.trans (keepsFrom_below hb2)⟩
        ⟨W'.heap.size, bN2.lt, sideAt_new W' L y, rfl⟩
    case body2 =>
      rintro l2 pre' y a'' W' - - ⟨⟨⟨⟨⟨hq, bR2⟩, bP2⟩, bI2⟩, bN2, sX2⟩, hKP, hKF⟩ ⟨Bt, hBt, sY2, rfl⟩ -
      have cR := bR2.cell
      have fR := bR2.frozen
      have cI := bI2.cell
      have cP2 := bP2.cell
      obtain ⟨x0, x1, x2, x3⟩ := sX2.cells
      obtain ⟨y0, y1, y2, y3⟩ := sY2.cells
      have HC : Hid (cellB L x y = (!(decide (x < y)) || (meetV (gt L x) (gt L (nx L x)) (gt L y) (gt L (nx L y)) == needI x y L.length))) := rfl
      obtain ⟨mv, hmv⟩ : ∃ mv, mv = meetV (gt L x) (gt L (nx L x)) (gt L y) (gt L (nx L y)) := ⟨_, rfl⟩
      obtain ⟨nv, hnv⟩ : ∃ nv, nv = needI x y L.length := ⟨_, rfl⟩
      have HM := Lib.hid (fun W => meet_pt (gt L x) (gt L (nx L x)) (gt L y) (gt L (nx L y)) W)
      have HN := Lib.hid (fun W => need_below (x : Int) (y : Int) (L.length : Int) W (by omega))
      rw [← hmv] at HC HM
      rw [← hnv] at HC HN
      clear hmv hnv
      have k0 := cell_regrown x0; have k1 := cell_regrown x1; have k2 := cell_regrown x2; have k3 := cell_regrown x3
      have k4 := cell_regrown y0; have k5 := cell_regrown y1; have k6 := cell_regrown y2; have k7 := cell_regrown y3
      have k8 := cell_regrown cI; have k9 := cell_regrown cP2
      by_cases hxy : x < y
      · have dxy : decide ((x : Int) < (y : Int)) = true := by simpa using hxy
        rw [decide_eq_true hxy, Bool.not_true, Bool.false_or] at HC
        by_cases hmn : mv = nv
        · subst hmn
          have HT : Hid (cellB L x y = true) := by
            show _ = _
            rw [HC.out]; simp
          clear HC
          gi_wp2
          refine region_quiet_in (wideR l2) (by kernel_rfl) (by kernel_rfl) (by kernel_rfl) ?_
          repeat (first
            | go_big_quiet_step (first | exact Calls.regrown_of (HM.out _) | exact Calls.regrown_of (HN.out _))
            | quiet_step (first | exact Calls.regrown_of (HM.out _) | exact Calls.regrown_of (HN.out _)))
          refine wpQuiet_nil ?_
          rintro _ ⟨⟨dq, osq⟩, rfl⟩
          have hg := below_regrown W' dq osq
          have hs2 := hKP.1.size
          clear k0 k1 k2 k3 k4 k5 k6 k7 k8 k9
          generalize grow (redrawn W' dq) osq = W2 at *
          gi_wp2
          exact ⟨keepsFrom_below hg, KeepP.of_below hg (by omega) bN2.lt, ⟨⟨⟨⟨fun z hz => (List.mem_append.1 hz).elim (hq z) (fun e => by simp at e; subst e; exact HT.out), boxed_on bR2 hg⟩, boxed_on bP2 hg⟩, boxed_on bI2 hg⟩, boxed_on bN2 hg, boxed_side sX2 hg⟩,
            keepP_t hKP (KeepP.of_below hg (by omega) (by omega)), hKF.trans (keepsFrom_below hg)⟩
        · have HT : Hid (cellB L x y = false) := by
            show _ = _
            rw [HC.out]; simpa using hmn
          have dmn : (mv != nv) = true := by simpa using hmn
          clear HC
          gi_wp2
          refine region_quiet_in (wideR l2) (by kernel_rfl) (by kernel_rfl) (by kernel_rfl) ?_
          repeat (first
            | go_big_quiet_step (first | exact Calls.regrown_of (HM.out _) | exact Calls.regrown_of (HN.out _))
            | quiet_step (first | exact Calls.regrown_of (HM.out _) | exact Calls.regrown_of (HN.out _)))
          refine wpQuiet_nil ?_
          rintro _ ⟨⟨dq, osq⟩, rfl⟩
          have hg := below_regrown W' dq osq
          have hs2 := hKP.1.size
          clear k0 k1 k2 k3 k4 k5 k6 k7 k8 k9
          have bR3 := boxed_on bR2 hg
          generalize grow (redrawn W' dq) osq = W2 at *
          have cR3 := bR3.cell
          have fR3 := bR3.frozen
          gi_wp2
          exact ⟨(keepsFrom_below hg).trans ((KeepsOthers.setCell _ _ _).from _), ⟨⟨rfl, y, List.mem_append.2 (.inr (by simp)), HT.out⟩, bR3.set _⟩,
            keepP_t hKP ((KeepP.of_below hg (by omega) (by omega)).setCell (by omega) (by omega) _ _), hKF.trans ((keepsFrom_below hg).trans ((KeepsOthers.setCell _ _ _).from _))⟩
      · have dxy : decide ((x : Int) < (y : Int)) = false := by simpa using hxy
        have HT : Hid (cellB L x y = true) := by
          show _ = _
          rw [HC.out, decide_eq_false hxy]; rfl
        clear HC
        gi_wp2
        refine region_quiet_in (wideR l2) (by kernel_rfl) (by kernel_rfl) (by kernel_rfl) ?_
        repeat (first
          | go_big_quiet_step (first | exact Calls.regrown_of (HM.out _) | exact Calls.regrown_of (HN.out _))
          | quiet_step (first | exact Calls.regrown_of (HM.out _) | exact Calls.regrown_of (HN.out _)))
        refine wpQuiet_nil ?_
        rintro _ ⟨⟨dq, osq⟩, rfl⟩
        have hg := below_regrown W' dq osq
        have hs2 := hKP.1.size
        clear k0 k1 k2 k3 k4 k5 k6 k7 k8 k9
        generalize grow (redrawn W' dq) osq = W2 at *
        gi_wp2
        exact ⟨keepsFrom_below hg, KeepP.of_below hg (by omega) bN2.lt, ⟨⟨⟨⟨fun z hz => (List.mem_append.1 hz).elim (hq z) (fun e => by simp at e; subst e; exact HT.out), boxed_on bR2 hg⟩, boxed_on bP2 hg⟩, boxed_on bI2 hg⟩, boxed_on bN2 hg, boxed_side sX2 hg⟩,
          keepP_t hKP (KeepP.of_below hg (by omega) (by omega)), hKF.trans (keepsFrom_below hg)⟩
    case done2 =>
      rintro ys' W' rfl ⟨⟨⟨⟨⟨hq, bR2⟩, bP2⟩, bI2⟩, bN2, sX2⟩, hKP, hKF⟩
      gi_wp2
      have hrow : rowB L x = true := by
        simp only [rowB, List.all_eq_true]
        exact hq
      exact ⟨hKF, hKP, ⟨⟨⟨⟨fun z hz => (List.mem_append.1 hz).elim (hp z) (fun e => by simp at e; subst e; exact hrow), bR2⟩, bP2⟩, boxed_same bS1 hKP.2⟩, hB1.trans hKP.1⟩⟩
    case stop2 =>
      rintro co pre' W' ⟨k, hk, rfl⟩ ⟨⟨⟨rfl, j, hj, hjb⟩, bR2⟩, hKP, hKF⟩
      gi_wp2
      have hrow : rowB L x = false := by
        simp only [rowB, List.all_eq_false]
        exact ⟨j, by simp only [List.mem_range] at hj ⊢; omega, by rw [hjb]; exact Bool.false_ne_true⟩
      exact ⟨hKF, ⟨⟨rfl, x, List.mem_append.2 (.inr (by simp)), hrow⟩, bR2⟩, hB1.trans hKP.1⟩
  case done =>
    rintro D zs W hD rfl ⟨⟨⟨⟨hp, bR1⟩, bP1⟩, bS1⟩, hB1⟩ hK
    have cR := bR1.cell
    have fR := bR1.frozen
    gi_wp2
    have hK' := (KeepsOthers.setCell W ⟨w.heap.size + 1, 0, none⟩ (.bool true)).same D _ hK rfl
    refine ⟨by simp, .inl ⟨_, _, rfl, run_takeDeferred hK', ?_⟩⟩
    have hc5 := cell_kept (bR1.set (.bool true)).cell (grownBy_putObj' _ D (.deferred none)) (fun r e => by cases e; exact ⟨_, hK', rfl⟩)
    have hkeep : keepB L = true := by
      simp only [keepB, List.all_eq_true]
      exact hp
    refine ⟨.bool true, ?_, by rw [hkeep], (hB1.setCell (p := ⟨w.heap.size + 1, 0, none⟩) (by simp) _).trans (belowK_b (w := w) (Nat.le_refl _) _ D _ _ (by omega) hK' rfl rfl)⟩
    simp [results, Try.f142, go_sem, hc5]
  case stop =>
    rintro D co pre W hD ⟨k, hk, rfl⟩ ⟨⟨⟨rfl, j, hj, hjb⟩, bR1⟩, hB1⟩ hK
    gi_wp2
    refine ⟨by simp, .inl ⟨_, _, rfl, run_takeDeferred hK, ?_⟩⟩
    have hc5 := cell_kept bR1.cell (grownBy_putObj' _ D (.deferred none)) (fun r e => by cases e; exact ⟨_, hK, rfl⟩)
    have hkeep : keepB L = false := by
      simp only [keepB, List.all_eq_false]
      exact ⟨j, by simp only [List.mem_range] at hj ⊢; omega, by rw [hjb]; exact Bool.false_ne_true⟩
    refine ⟨.bool false, ?_, by rw [hkeep], hB1.trans (belowK_b (w := w) (Nat.le_refl _) _ D _ _ (by omega) hK rfl rfl)⟩
    simp [results, Try.f142, go_sem, hc5]

theorem need_adj {i k n : Nat} (h1 : i < k) (h2 : k < n) (hn : n ≤ 100) : needI i k n = bif adjB n i k then 1 else 0 := by
  have e : wrap64 ((k : Int) - i) = (k : Int) - i := IntWalk.wrap64_in _ (by omega)
  have e1 : ((k : Int) - i == 1 || (k : Int) - i == n - 1) = adjB n i k := by
    rw [Bool.eq_iff_iff]
    simp only [adjB, Bool.or_eq_true, Bool.and_eq_true, beq_iff_eq]
    omega
  rw [needI, e, e1]
theorem meetV_ok {L : List (Int × Int)} (hok : allOk L = true) (i k : Nat) :
    meetV (gt L i) (gt L (nx L i)) (gt L k) (gt L (nx L k)) = bif !(eqQ (gt L i) (gt L (nx L i))) && !(eqQ (gt L k) (gt L (nx L k))) then pairM L i k else 0 := by
  have h := fun j => gt_ok hok j
  unfold meetV okQ
  rw [h i, h (nx L i), h k, h (nx L k)]
  rfl
theorem keep_eq {L : List (Int × Int)} (hin : inB (L.length : Int) 3 10 = true) (hok : allOk L = true) : keepB L = (nbB L && pairsB L) := by
  have hn := inB_spec.1 hin
  rw [Bool.eq_iff_iff]
  simp only [Bool.and_eq_true]
  constructor
  · intro hk
    have hc : ∀ i k, i < k → k < L.length → meetV (gt L i) (gt L (nx L i)) (gt L k) (gt L (nx L k)) = bif adjB L.length i k then 1 else 0 := fun i k h1 h2 => by
      have h3 := List.all_eq_true.1 hk i (List.mem_range.2 (by omega))
      have h4 := List.all_eq_true.1 h3 k (List.mem_range.2 h2)
      unfold cellB at h4
      rw [decide_eq_true h1, Bool.not_true, Bool.false_or, beq_iff_eq, need_adj h1 h2 (by omega)] at h4
      exact h4
    have hnb : ∀ i, i < L.length → eqQ (gt L i) (gt L (nx L i)) = false := fun i hi => by
      cases he : eqQ (gt L i) (gt L (nx L i))
      · rfl
      · rcases Nat.lt_or_ge (i + 1) L.length with h | h
        · have := hc i (i + 1) (by omega) h
          rw [meetV_ok hok, he] at this
          simp [adjB] at this
        · have h0 : i = L.length - 1 := by omega
          have := hc 0 i (by omega) hi
          rw [meetV_ok hok, he] at this
          simp [adjB, h0] at this
    refine ⟨nb_true hnb, pairs_true fun i hi k hik hk => ?_⟩
    have := hc i k hik hk
    rw [meetV_ok hok, hnb i hi, hnb k hk] at this
    simp only [Bool.not_false, Bool.and_self, cond_true] at this
    unfold pairOk
    rw [this]
    cases adjB L.length i k <;> rfl
  · rintro ⟨h1, h2⟩
    have hnb : ∀ i, i < L.length → eqQ (gt L i) (gt L (nx L i)) = false := fun i hi => by
      have := List.all_eq_true.1 h1 i (List.mem_range.2 hi)
      show eqQ (gt L i) (gt L ((i + 1) % L.length)) = false
      simpa using this
    simp only [keepB, List.all_eq_true, List.mem_range]
    intro i hi
    simp only [rowB, List.all_eq_true, List.mem_range]
    intro k hk
    unfold cellB
    by_cases hik : i < k
    · rw [decide_eq_true hik, Bool.not_true, Bool.false_or, beq_iff_eq, need_adj hik hk (by omega), meetV_ok hok, hnb i hi, hnb k hk]
      simp only [Bool.not_false, Bool.and_self, cond_true]
      have h3 := List.all_eq_true.1 (List.all_eq_true.1 h2 i (List.mem_range.2 hi)) k (List.mem_range.2 hk)
      simp only [Bool.or_eq_true, decide_eq_true_eq] at h3
      rcases h3 with h3 | h3
      · omega
      · unfold pairOk at h3
        cases ha : adjB L.length i k
        · rw [ha] at h3; simpa using h3
        · rw [ha] at h3; simpa using h3
    · rw [decide_eq_false hik]; rfl

set_option maxRecDepth 100000 in
set_option maxHeartbeats 800000 in
theorem impl_poly (A : Option Addr) (c : Nat) (L : List (Int × Int)) (w : World) (hA : PtsA w A L) (hL : L.length ≤ 1048576) :
    Calls Try.prog 74 #[.slice A L.length c] w fun e w' => e = .returned (.bool (polyB L)) ∧ Below w.heap.size w w' := by
  cases hin : inB (L.length : Int) 3 10
  · have HV : Hid (polyB L = false) := by
      show _ = _
      rw [polyB, hin]; rfl
    go_enter Try.func74, Try.ntmps74
    go_wp2_with fail
    refine (from_any _ _ _ _).mono ?_
    rintro e w1 ⟨rfl, rfl⟩
    go_wp2_with fail
    go_ret
    exact ⟨ret_bool HV.out.symm, Below.refl _ _⟩
  have hn := inB_spec.1 hin
  obtain ⟨g, rfl, -⟩ := hA 0 (by omega)
  have hg : g < w.heap.size := by
    obtain ⟨g', hg', h1, -⟩ := hA 0 (by omega)
    cases hg'
    exact World.block_lt_of_cell? w _ h1
  have HP := Lib.hid (fun (W : World) (hb : Below w.heap.size w W) => all_any g c L W (pts_of (ptsA_on hA hb)) (Nat.lt_of_lt_of_le hg hb.size) hL)
  have HK := Lib.hid (fun (W : World) (hb : Below w.heap.size w W) => keep_any (some ⟨g, 0, none⟩) c L W (ptsA_on hA hb) (by omega) (by omega))
  cases hok : allOk L
  · have HV : Hid (polyB L = false) := by
      show _ = _
      rw [polyB, hin, hok]; rfl
    rw [hok] at HP
    clear hA HK
    go_enter Try.func74, Try.ntmps74
    go_wp2_with fail
    refine (from_any _ _ _ _).mono ?_
    rintro e w1 ⟨rfl, rfl⟩
    go_wp2_with fail
    refine (HP.out _ (Below.refl _ _)).mono ?_
    rintro e w2 ⟨rfl, hb2⟩
    go_wp2_with fail
    go_ret
    exact ⟨ret_bool HV.out.symm, hb2⟩
  · have HV : Hid (polyB L = keepB L) := by
      show _ = _
      rw [keep_eq hin hok, polyB, hin, hok]
      simp only [Bool.true_and]
    rw [hok] at HP
    clear hA
    go_enter Try.func74, Try.ntmps74
    go_wp2_with fail
    refine (from_any _ _ _ _).mono ?_
    rintro e w1 ⟨rfl, rfl⟩
    go_wp2_with fail
    refine (HP.out _ (Below.refl _ _)).mono ?_
    rintro e w2 ⟨rfl, hb2⟩
    go_wp2_with fail
    refine (HK.out _ hb2).mono ?_
    rintro e w3 ⟨rfl, hb3⟩
    go_wp2_with fail
    go_ret
    exact ⟨ret_bool HV.out.symm, hb2.trans (hb3.mono hb2.size)⟩
end Go.Proofs.Ytncahchhinfneaa

/-! Rim -/
namespace Go.Proofs.Ytncahchhinfneaa
open Go.RowKit

def onRim (L : List (Int × Int)) (p : Int × Int) : Bool := (List.range L.length).any fun i => onP (gt L i) (gt L (nx L i)) p
theorem onRim_true {L : List (Int × Int)} {p : Int × Int} {i : Nat} (hi : i < L.length) (h : onP (gt L i) (gt L (nx L i)) p = true) : onRim L p = true := by
  simp only [onRim, List.any_eq_true, List.mem_range]
  exact ⟨i, hi, h⟩
theorem onRim_false {L : List (Int × Int)} {p : Int × Int} (h : ∀ i, i < L.length → onP (gt L i) (gt L (nx L i)) p = false) : onRim L p = false := by
  cases hb : onRim L p
  · rfl
  · simp only [onRim, List.any_eq_true, List.mem_range] at hb
    obtain ⟨i, hi, h2⟩ := hb
    rw [h i hi] at h2; cases h2
/-- Does the side from corner i on flip what is inside at p? -/
def flipT (L : List (Int × Int)) (p : Int × Int) (i : Nat) : Bool :=
  (decide (p.2 < (gt L i).2) != decide (p.2 < (gt L (nx L i)).2)) && ((decide ((gt L i).2 < (gt L (nx L i)).2) && decide (0 < crossP (gt L i) (gt L (nx L i)) p)) || (decide ((gt L (nx L i)).2 < (gt L i).2) && decide (crossP (gt L i) (gt L (nx L i)) p < 0)))
def insT (f : Nat → Bool) : Nat → Bool
  | 0 => false
  | k + 1 => bif f k then !(insT f k) else insT f k
def insideB (L : List (Int × Int)) (p : Int × Int) : Bool := onRim L p || insT (flipT L p) L.length
end Go.Proofs.Ytncahchhinfneaa

/-! Turn -/
namespace Go.Proofs.Ytncahchhinfneaa
open Go.RowKit

/-- The first corner and then m of the others, from the last one back. -/
def turnTill (L : List (Int × Int)) (m : Nat) : List (Int × Int) := gt L 0 :: (List.range m).map fun (j : Nat) => gt L (L.length - 1 - j)
def turnL (L : List (Int × Int)) : List (Int × Int) := turnTill L (L.length - 1)
theorem turn_step (L : List (Int × Int)) (m : Nat) : turnTill L (m + 1) = turnTill L m ++ [gt L (L.length - 1 - m)] := by
  simp [turnTill, List.range_succ]
theorem turn_len (L : List (Int × Int)) (m : Nat) : (turnTill L m).length = m + 1 := by simp [turnTill]
def turnV (L : List (Int × Int)) : List (Int × Int) := bif polyB L then turnL L else []
/-- A function that hands back a new list of points. -/
def Lists (w : World) (M : List (Int × Int)) (e : Ending) (w' : World) : Prop := ∃ v, e = .returned v ∧ w'.ownsRow w.heap.size 30 2 v M.length (flat M) ∧ Below w.heap.size w w'
set_option maxRecDepth 100000 in
set_option maxHeartbeats 2000000 in
theorem turn_any (A : Option Addr) (c : Nat) (L : List (Int × Int)) (w : World) (hA : PtsA w A L) (h1 : 1 ≤ L.length) (h2 : L.length ≤ 1000) :
    Calls Try.prog 136 #[.slice A L.length c] w (Lists w (turnL L)) := by
  obtain ⟨g, rfl, -⟩ := hA 0 h1
  obtain ⟨c1, c2⟩ := gt_cells hA h1
  simp only [Nat.zero_mul, Nat.zero_add] at c1 c2
  have HA := Lib.hid hA; clear hA
  obtain ⟨i0, hi0, hz0, hz1, hz2⟩ := info_parts infoPt
  have own0 := World.ownsRow_lit (base := w.heap.size) (e := 30) (size := 2) w #[.int .i64 (gt L 0).1, .int .i64 (gt L 0).2] 1 (Nat.le_refl _) (by decide) rfl
  have b0 := below1 w (.cells #[.int .i64 (gt L 0).1, .int .i64 (gt L 0).2] 30)
  have hM0 : Hid ([((gt L 0).1, (gt L 0).2)] = turnTill L 0) := rfl
  generalize (gt L 0).1 = x0 at *
  generalize (gt L 0).2 = y0 at *
  have f1 : wrap64 ((L.length : Int) - 1) = ((L.length - 1 : Nat) : Int) := by rw [IntWalk.wrap64_in _ (by omega)]; omega
  have f2 : (L.length : Int) - 1 = ((L.length - 1 : Nat) : Int) := by omega
  go_enter Try.func136, Try.ntmps136
  go_wp2_with fail
  clear c1 c2 f1 f2
  go_loopw [3, 4] (fun s i wr => ∃ (q g5 cap : Nat) (M : List (Int × Int)), q ≤ L.length - 1 ∧ i = .int .i64 q ∧ s = .slice (some ⟨g5, 0, none⟩) M.length cap ∧ Hid (M = turnTill L (L.length - 1 - q)) ∧ wr.ownsRow w.heap.size 30 2 (.slice (some ⟨g5, 0, none⟩) M.length cap) M.length (flat M) ∧ Below w.heap.size w wr) (fun _ i _ => (intOf i).toNat)
  case atStart => exact ⟨L.length - 1, w.heap.size, 1, [(x0, y0)], Nat.le_refl _, by first | rfl | go_num, rfl, by rw [Nat.sub_self]; exact hM0, own0, b0⟩
  case round =>
    obtain ⟨wo, rfl⟩ : ∃ wo : World, wo = wr := ⟨_, rfl⟩
    clear own0 b0
    obtain ⟨q, g5, cap, M, hq, rfl, rfl, HM, hown, hb⟩ := hrel
    by_cases hlt : 0 < q
    · obtain ⟨c1, c2⟩ := gt_cells (ptsA_on HA.out hb) (i := q) (by omega)
      have hML : M.length ≤ 1000 := by rw [HM.out, turn_len]; omega
      have HM2 : Hid (M ++ [((gt L q).1, (gt L q).2)] = turnTill L (L.length - 1 - (q - 1))) := by
        show _ = _
        have e1 : L.length - 1 - (q - 1) = (L.length - 1 - q) + 1 := by omega
        have e2 : L.length - 1 - (L.length - 1 - q) = q := by omega
        rw [e1, turn_step, e2, HM.out]
      clear HM
      generalize (gt L q).1 = x at *
      generalize (gt L q).2 = y at *
      have hp1 : (q : Int) < (L.length : Int) := by omega
      have hsz := hb.size
      have f3 : wrap64 ((q : Int) - 1) = ((q - 1 : Nat) : Int) := by rw [IntWalk.wrap64_in _ (by omega)]; omega
      have f4 : (q : Int) - 1 = ((q - 1 : Nat) : Int) := by omega
      go_wp2_with (at_builtin; refine wpList_append_lies _ rfl _ _ 23 rfl w.heap.size 30 i0 (.agg #[.int .i64 0, .int .i64 0]) 2 16 Try.underlying23 hi0 hz0 hz1 hz2 rfl (by decide) _ _ _ rfl (hown.alloc _) ⟨wo.heap.size, 0, none⟩ 1 1 [.int .i64 x, .int .i64 y] rfl rfl ?d1 ?d2 (by omega) ?d3 ?d4 ?d5 (wo.heap.size + 1) (by simp) ?_)
      case d1 => exact World.news_of_block (cs := #[.int .i64 x, .int .i64 y]) (t := 30) (fr := (0, 0)) (heap_alloc_new wo _)
      case d2 => simp [Value.oneCell']
      case d3 => unfold maxLen; omega
      case d4 => omega
      case d5 => simp; omega
      intro g6 cp6 w6 own6 hgrow _ _
      have hr := fun k hk => (hown.lt k hk).1
      have HN : Hid ((M ++ [(x, y)]).length = M.length + 1) := by simp [Hid]
      have R : Hid (w6.ownsRow w.heap.size 30 2 (.slice (some ⟨g6, 0, none⟩) (M ++ [(x, y)]).length cp6) (M ++ [(x, y)]).length (flat (M ++ [(x, y)])) ∧ Below w.heap.size w w6) :=
        ⟨by rw [flat_append, HN.out]; exact own6, (hb.alloc hb.size _).grown hgrow (by simp; omega) hr⟩
      clear hown own6 hgrow hb c1 c2
      go_wp2_with fail
      first
        | exact ⟨⟨q - 1, g6, cp6, M ++ [(x, y)], by omega, by first | rfl | go_num, by rw [HN.out], HM2, R.out.1, R.out.2⟩, by simp [intOf]; omega⟩
        | (go_roundw
           case rel => exact ⟨q - 1, g6, cp6, M ++ [(x, y)], by omega, by first | rfl | go_num, by rw [HN.out], HM2, R.out.1, R.out.2⟩
           case measure => simp [intOf]; omega)
    · have HQ : Hid (M = turnL L) := by
        show _ = _
        rw [HM.out, show q = 0 from by omega]; rfl
      have R := Lib.hid hown
      clear hown HM
      go_wp2_with fail
      go_ret
      exact ⟨_, rfl, by rw [← HQ.out]; exact R.out, hb⟩
end Go.Proofs.Ytncahchhinfneaa

/-! In -/
namespace Go.Proofs.Ytncahchhinfneaa
open Go.RowKit

def insideV (L : List (Int × Int)) (p : Int × Int) : Bool := polyB L && okQ p && insideB L p
/-- The corner before. -/
def pv (L : List (Int × Int)) (i : Nat) : Nat := (i + L.length - 1) % L.length
def bentB (L : List (Int × Int)) (i : Nat) : Bool := !(crossP (gt L (pv L i)) (gt L i) (gt L (nx L i)) == 0)
def straightTill (L : List (Int × Int)) : Nat → List (Int × Int)
  | 0 => []
  | k + 1 => bif bentB L k then straightTill L k ++ [gt L k] else straightTill L k
def straightL (L : List (Int × Int)) : List (Int × Int) := straightTill L L.length
theorem straight_len (L : List (Int × Int)) : ∀ k, (straightTill L k).length ≤ k
  | 0 => Nat.le_refl _
  | k + 1 => by
    have := straight_len L k
    simp only [straightTill]
    cases bentB L k <;> simp <;> omega
def straightV (L : List (Int × Int)) : List (Int × Int) := bif polyB L then straightL L else []
set_option maxHeartbeats 4000000 in
set_option maxRecDepth 100000 in
theorem straight_any (A : Option Addr) (c : Nat) (L : List (Int × Int)) (w : World) (hA : PtsA w A L) (h1 : 1 ≤ L.length) (h2 : L.length ≤ 10) (hok : allOk L = true) :
    Calls Try.prog 151 #[.slice A L.length c] w (Lists w (straightL L)) := by
  obtain ⟨g, rfl, -⟩ := hA 0 h1
  have HA := Lib.hid hA; have HOK := Lib.hid hok
  clear hA hok
  obtain ⟨i0, hi0, hz0, hz1, hz2⟩ := info_parts infoPt
  have own0 := World.ownsRow_lit (base := w.heap.size) (e := 30) (size := 2) w #[] 0 (Nat.le_refl _) (by decide) rfl
  have b0 := below1 w (.cells #[] 30)
  go_enter Try.func151, Try.ntmps151
  go_wp2_with fail
  go_loopw [3, 5, 6, 12] (fun s _ _ i wr => ∃ (k g5 cap : Nat) (M : List (Int × Int)), k ≤ L.length ∧ i = .int .i64 k ∧ s = .slice (some ⟨g5, 0, none⟩) M.length cap ∧ Hid (M = straightTill L k) ∧ wr.ownsRow w.heap.size 30 2 (.slice (some ⟨g5, 0, none⟩) M.length cap) M.length (flat M) ∧ Below w.heap.size w wr) (fun _ _ _ i _ => L.length - (intOf i).toNat)
  case atStart => exact ⟨0, w.heap.size, 0, [], Nat.zero_le _, rfl, rfl, rfl, own0, b0⟩
  case round =>
    obtain ⟨wo, rfl⟩ : ∃ wo : World, wo = wr := ⟨_, rfl⟩
    clear own0 b0
    obtain ⟨k, g5, cap, M, hk, rfl, rfl, HM, hown, hb⟩ := hrel
    by_cases hlt : k < L.length
    · obtain ⟨hr, hrl⟩ := next_int (i := k) h1
      have hpl : (k + L.length - 1) % L.length < L.length := Nat.mod_lt _ (by omega)
      have hpr : Int.tmod ((k : Int) + (L.length : Int) - 1) (L.length : Int) = (((k + L.length - 1) % L.length : Nat) : Int) := by
        have : (k : Int) + (L.length : Int) - 1 = ((k + L.length - 1 : Nat) : Int) := by omega
        rw [this, tmod_nat]
      have hap := ptsA_on HA.out hb
      obtain ⟨c1, c2⟩ := gt_cells hap hlt
      obtain ⟨c3, c4⟩ := gt_cells hap hrl
      obtain ⟨c5, c6⟩ := gt_cells hap hpl
      have HCR := Lib.hid (fun w => crossS_on _ _ _ _ _ _ w (all_at HOK.out hpl) (all_at HOK.out hlt) (all_at HOK.out hrl))
      have HBE : Hid (bentB L k = !(crossP ((gt L ((k + L.length - 1) % L.length)).1, (gt L ((k + L.length - 1) % L.length)).2) ((gt L k).1, (gt L k).2) ((gt L ((k + 1) % L.length)).1, (gt L ((k + 1) % L.length)).2) == 0)) := rfl
      have HST : Hid (straightTill L (k + 1) = bif bentB L k then M ++ [((gt L k).1, (gt L k).2)] else M) := by
        show _ = _
        rw [HM.out]; rfl
      have hML : M.length ≤ 10 := by rw [HM.out]; have := straight_len L k; omega
      clear hap HM
      generalize (k + 1) % L.length = r at *
      generalize (k + L.length - 1) % L.length = t at *
      generalize (gt L k).1 = x at *
      generalize (gt L k).2 = y at *
      generalize (gt L r).1 = x' at *
      generalize (gt L r).2 = y' at *
      generalize (gt L t).1 = x'' at *
      generalize (gt L t).2 = y'' at *
      generalize crossP (x'', y'') (x, y) (x', y') = C at *
      have f1 : IntKind.i64.wrap ((k : Int) + 1) = (k : Int) + 1 := IntWalk.i64_in _ (by omega)
      have f2 : IntKind.i64.wrap ((k : Int) + (L.length : Int)) = (k : Int) + (L.length : Int) := IntWalk.i64_in _ (by omega)
      have f3 : IntKind.i64.wrap ((k : Int) + (L.length : Int) - 1) = (k : Int) + (L.length : Int) - 1 := IntWalk.i64_in _ (by omega)
      have f4 : IntKind.i64.wrap (r : Int) = (r : Int) := IntWalk.i64_in _ (by omega)
      have f5 : IntKind.i64.wrap (t : Int) = (t : Int) := IntWalk.i64_in _ (by omega)
      have hp1 : (r : Int) < (L.length : Int) := by omega
      have hp2 : (0 : Int) ≤ (r : Int) := by omega
      have hp3 : (t : Int) < (L.length : Int) := by omega
      have hp4 : (0 : Int) ≤ (t : Int) := by omega
      have hne : ¬ L.length = 0 := by omega
      have hal := (Below.refl wo.heap.size wo).alloc (Nat.le_refl _) (.cells #[.int .i64 x, .int .i64 y] 30)
      have d3 := cell_on hal rfl c3; have d4 := cell_on hal rfl c4; have d5 := cell_on hal rfl c5; have d6 := cell_on hal rfl c6
      have n1 := at_new wo x y 30
      have d1 := n1.c0; have d2 := n1.c1
      have b2 := hb.alloc hb.size (.cells #[.int .i64 x, .int .i64 y] 30)
      have own2 := hown.alloc (.cells #[.int .i64 x, .int .i64 y] 30)
      have k1 := cell_regrown d1; have k2 := cell_regrown d2; have k3 := cell_regrown d3; have k4 := cell_regrown d4; have k5 := cell_regrown d5; have k6 := cell_regrown d6
      clear hal hb hown
      go_wp2_with fail
      refine wp_region_quiet_below (by kernel_rfl) (by kernel_rfl) ?_
      repeat (first
        | go_big_quiet_step (first | exact Calls.regrown_of (HCR.out _))
        | quiet_step (first | exact Calls.regrown_of (HCR.out _)))
      refine wpQuiet_nil ?_
      rintro _ ⟨⟨dq, osq⟩, rfl⟩
      have hst := below_regrown (wo.alloc (.cells #[.int .i64 x, .int .i64 y] 30)) dq osq
      have b3 := below_on b2 hst
      have own3 := own_below own2 hst
      have n3 := n1.step hst
      clear k1 k2 k3 k4 k5 k6 d1 d2 d3 d4 d5 d6 b2 own2 n1 hst c1 c2 c3 c4 c5 c6
      simp only at *
      generalize Go.Sort.grow (redrawn (wo.alloc (.cells #[.int .i64 x, .int .i64 y] 30)) dq) osq = w3 at *
      clear hr hpr f1 f2 f3 f4 f5 hp1 hp2 hp3 hp4
      cases hC : (C == 0)
      · have hC' : (C != 0) = true := by simp [bne, hC]
        have HE : Hid (M ++ [(x, y)] = straightTill L (k + 1)) := by
          show _ = _
          rw [HST.out, HBE.out, hC]; rfl
        have d1 := n3.c0; have d2 := n3.c1
        go_wp2_with (at_builtin; refine wpList_append_lies _ rfl _ _ 23 rfl w.heap.size 30 i0 (.agg #[.int .i64 0, .int .i64 0]) 2 16 Try.underlying23 hi0 hz0 hz1 hz2 rfl (by decide) _ _ _ rfl (own3.alloc _) ⟨w3.heap.size, 0, none⟩ 1 1 [.int .i64 x, .int .i64 y] rfl rfl ?d1 ?d2 (by omega) ?d3 ?d4 ?d5 (w3.heap.size + 1) (by simp) ?_)
        case d1 => exact World.news_of_block (cs := #[.int .i64 x, .int .i64 y]) (t := 30) (fr := (0, 0)) (heap_alloc_new w3 _)
        case d2 => simp [Value.oneCell']
        case d3 => unfold maxLen; omega
        case d4 => omega
        case d5 => have := b3.size; simp; omega
        intro g6 cp6 w6 own6 hgrow _ _
        have hrw := fun k hk => (own3.lt k hk).1
        have HN : Hid ((M ++ [(x, y)]).length = M.length + 1) := by simp [Hid]
        have R : Hid (w6.ownsRow w.heap.size 30 2 (.slice (some ⟨g6, 0, none⟩) (M ++ [(x, y)]).length cp6) (M ++ [(x, y)]).length (flat (M ++ [(x, y)])) ∧ Below w.heap.size w w6) :=
          ⟨by rw [flat_append, HN.out]; exact own6, (b3.alloc b3.size _).grown hgrow (by have := b3.size; simp; omega) hrw⟩
        clear own3 own6 hgrow b3 d1 d2 n3
        go_wp2_with fail
        exact ⟨⟨k + 1, g6, cp6, M ++ [(x, y)], by omega, by go_num, by rw [HN.out], HE, R.out.1, R.out.2⟩, by simp [intOf]; omega⟩
      · have hC' : (C != 0) = false := by simp [bne, hC]
        have HE : Hid (M = straightTill L (k + 1)) := by
          show _ = _
          rw [HST.out, HBE.out, hC]; rfl
        have R := Lib.hid (And.intro own3 b3)
        clear own3 b3 n3
        go_wp2_with fail
        go_roundw
        case rel => exact ⟨k + 1, g5, cap, M, by omega, by go_num, rfl, HE, R.out.1, R.out.2⟩
        case measure => simp [intOf]; omega
    · have HQ : Hid (M = straightL L) := by
        show _ = _
        rw [HM.out, show k = L.length from by omega]; rfl
      have R := Lib.hid hown
      clear hown HM
      go_wp2_with fail
      go_ret
      exact ⟨_, rfl, by rw [← HQ.out]; exact R.out, hb⟩
end Go.Proofs.Ytncahchhinfneaa

/-! Around -/
namespace Go.Proofs.Ytncahchhinfneaa
open Go.RowKit Go.Shelf Go.Sort
attribute [local go_sem] Oper.semAt_some

theorem at_own (g : Nat) (x y : Int) (t : TypeId) (B : Nat) : OwnFrom B (fun (_ : Unit) W => At W g x y t) := fun _ X Y row hs hg hr =>
  (hg.block g hs.lt (fun e => by
    obtain ⟨_, o, ho, hc⟩ := hr g e.symm
    rw [show X.heap[g]? = _ from hs] at ho
    cases ho; cases hc)).trans hs
def flipL (L : List (Int × Int)) (p : Int × Int) (l : List Nat) : Bool := l.foldl (fun b i => bif rightB (gt L i) (gt L (nx L i)) p then !b else b) false
theorem flipL_snoc (L : List (Int × Int)) (p : Int × Int) (l : List Nat) (x : Nat) : flipL L p (l ++ [x]) = bif rightB (gt L x) (gt L (nx L x)) p then !(flipL L p l) else flipL L p l := by simp [flipL]
theorem crossI_swap (ax ay bx by' px py : Int) : crossI bx by' ax ay px py = -(crossI ax ay bx by' px py) := by
  unfold crossI
  simp only [Int.sub_mul, Int.mul_sub, Int.neg_sub]
  simp only [Int.mul_comm]
  omega
theorem sgn_gt (n : Int) : decide (0 < sgn n) = decide (0 < n) := by
  unfold sgn
  by_cases h : 0 < n
  · simp [h]
  · by_cases h2 : n < 0 <;> simp [h, h2]
theorem right_flip (L : List (Int × Int)) (p : Int × Int) (i : Nat) : rightB (gt L i) (gt L (nx L i)) p = flipT L p i := by
  unfold rightB flipT loB crossP
  rw [crossI_swap (gt L i).1 (gt L i).2]
  generalize crossI (gt L i).1 (gt L i).2 (gt L (nx L i)).1 (gt L (nx L i)).2 p.1 p.2 = s
  generalize (gt L i).2 = ay
  generalize (gt L (nx L i)).2 = by'
  generalize p.2 = py
  rw [Bool.eq_iff_iff]
  by_cases h : by' < ay
  · have e1 : decide (by' < ay) = true := decide_eq_true h
    have e2 : decide (ay < by') = false := decide_eq_false (by omega)
    rw [e1, e2]
    simp only [cond_true, Bool.false_and, Bool.false_or, Bool.true_and, Bool.and_eq_true, decide_eq_true_eq, bne_iff_ne, ne_eq, decide_eq_decide]
    omega
  · have e1 : decide (by' < ay) = false := decide_eq_false h
    rw [e1]
    simp only [cond_false, Bool.false_and, Bool.or_false, Bool.and_eq_true, decide_eq_true_eq, bne_iff_ne, ne_eq, decide_eq_decide]
    omega
theorem flipL_range (L : List (Int × Int)) (p : Int × Int) (n : Nat) : flipL L p (List.range n) = insT (flipT L p) n := by
  induction n with
  | zero => rfl
  | succ n ih => rw [List.range_succ, flipL_snoc, ih, right_flip]; rfl
/-- Whether a ray to the right passes through an odd number of sides. -/
def aroundB (L : List (Int × Int)) (p : Int × Int) : Bool := insT (flipT L p) L.length
theorem right_pt (a b p : Int × Int) (w : World) (ha : smP a.1 a.2 = true) (hb : smP b.1 b.2 = true) (hp : smP p.1 p.2 = true) :
    Calls Try.prog 147 #[.agg #[.int .i64 a.1, .int .i64 a.2, .int .i64 b.1, .int .i64 b.2], (.agg #[.int .i64 p.1, .int .i64 p.2])] w fun e w' => e = .returned (.bool (rightB a b p)) ∧ Below w.heap.size w w' := right_sm a.1 a.2 b.1 b.2 p.1 p.2 w ha hb hp

set_option maxRecDepth 100000 in
set_option maxHeartbeats 4000000 in
theorem around_sm (A : Option Addr) (c : Nat) (L : List (Int × Int)) (p : Int × Int) (w : World) (hA : PtsA w A L) (h1 : 1 ≤ L.length) (h2 : L.length ≤ 10) (hok : ∀ i, smP (gt L i).1 (gt L i).2 = true) (hq : smP p.1 p.2 = true) :
    Calls Try.prog 82 #[.slice A L.length c, (.agg #[.int .i64 p.1, .int .i64 p.2])] w fun e w' => e = .returned (.bool (aroundB L p)) ∧ Below w.heap.size w w' := by
  refine (callsIn_wide (n := 6)).1 ?_
  refine callsIn_of_wp_marks Try.func82 rfl trivial ?_ rfl
  simp only [Try.ntmps82, List.size_toArray, List.length_cons, List.length_nil, Nat.reduceAdd, Nat.reduceSub, Array.replicate_succ, Array.replicate_zero, List.push_toArray, List.append_toArray, List.nil_append, List.cons_append]
  gi_wp2
  refine ⟨trivial, (wide0.calls (sides_any A L.length c _)).mono ?_⟩
  rintro e w3 ⟨rfl, rfl⟩
  gi_wp2
  have bX3 := ((at_new w p.1 p.2 30).alloc (.cells #[.bool false] 4)).alloc (.cells #[.slice A L.length c] 23)
  have bI := (Boxed.new (w.alloc (.cells #[.int .i64 p.1, .int .i64 p.2] 30)) 4 (.bool false)).alloc (.cells #[.slice A L.length c] 23)
  have bN := Boxed.new ((w.alloc (.cells #[.int .i64 p.1, .int .i64 p.2] 30)).alloc (.cells #[.bool false] 4)) 23 (.slice A L.length c)
  simp only [World.size_alloc] at bI bN
  have hB0 : Below w.heap.size w (((w.alloc (.cells #[.int .i64 p.1, .int .i64 p.2] 30)).alloc (.cells #[.bool false] 4)).alloc (.cells #[.slice A L.length c] 23)) := below3 _ _ _ _
  have hsz : (((w.alloc (.cells #[.int .i64 p.1, .int .i64 p.2] 30)).alloc (.cells #[.bool false] 4)).alloc (.cells #[.slice A L.length c] 23)).heap.size = w.heap.size + 3 := by simp
  obtain ⟨W0, hW0⟩ : ∃ W0, ((w.alloc (.cells #[.int .i64 p.1, .int .i64 p.2] 30)).alloc (.cells #[.bool false] 4)).alloc (.cells #[.slice A L.length c] 23) = W0 := ⟨_, rfl⟩
  rw [hW0] at bX3 bI bN hB0 hsz ⊢
  clear hW0
  refine wpIn_rangeFunc_ownH rfl (by decide) (gf := 144) (lb := #[.pointer (some ⟨w.heap.size + 1 + 1, 0, none⟩)]) rfl trivial (enters_of Try.func144 (by kernel_rfl) rfl)
    (sides_stops 5 (w.heap.size + 1 + 1) A c L w W0 (by omega) (by omega) hA hB0 (by omega) bN.cell) keepP_t (keepP_b (by omega) (by omega)) (Below.refl _ _) (fun _ => rfl)
    (fun pre W => ((Boxed W (w.heap.size + 1) 4 (.bool (flipL L p pre)) ∧ Boxed W (w.heap.size + 1 + 1) 23 (.slice A L.length c)) ∧ At W w.heap.size p.1 p.2 30) ∧ Below w.heap.size w W)
    (fun _ _ _ => False)
    (OwnFrom.and (OwnFrom.and (OwnFrom.and (Own.from (boxed_own _ _ _) _) (Own.from (boxed_own _ _ _) _)) (fun s X Y row hs hg hr => at_own _ _ _ _ _ () X Y row hs hg hr)) (ownFrom_below (Nat.le_refl _) (by omega)))
    (fun _ => ownFrom_pure _ (fun _ => False))
    ⟨⟨⟨bI, bN⟩, bX3⟩, hB0⟩
    (fun x a' W => ∃ Bx, w.heap.size + 1 + 1 < Bx ∧ SideAt W Bx L x ∧ a' = { tmps := #[.slice A L.length c, .agg #[.int .i64 p.1, .int .i64 p.2], undef, .pointer (some ⟨w.heap.size, 0, none⟩), .bool false, .pointer (some ⟨w.heap.size + 1, 0, none⟩), undef, .pointer (some ⟨Bx, 0, none⟩), .slice A L.length c, .func (.func 144) #[] #[.pointer (some ⟨w.heap.size + 1 + 1, 0, none⟩)], .int .i64 (x : Int), .agg #[.int .i64 (gt L x).1, .int .i64 (gt L x).2, .int .i64 (gt L (nx L x)).1, .int .i64 (gt L (nx L x)).2], undef, undef, undef, undef, undef, undef], defers := [] })
    (fun x a' _ X Y row hs hg hr => by obtain ⟨Bx, e1, e2, e3⟩ := hs; exact ⟨Bx, e1, sideAt_own Bx L x _ () X Y row e2 hg hr, e3⟩)
    ?assign ?body ?done ?stop
  case assign =>
    rintro l pre x W K ⟨⟨⟨bI4, bN4⟩, bX4⟩, hB4⟩ hK
    simp only [sideV]
    gi_wp2
    have hs4 := hB4.size
    have hb := below1 W (.cells #[.int .i64 (gt L x).1, .int .i64 (gt L x).2, .int .i64 (gt L (nx L x)).1, .int .i64 (gt L (nx L x)).2] 81)
    exact hK _ _ (keepsFrom_below hb) (KeepP.of_below hb hs4 bN4.lt) ⟨⟨⟨boxed_on bI4 hb, boxed_on bN4 hb⟩, bX4.step hb⟩, hB4.trans (hb.mono hs4)⟩ ⟨W.heap.size, bN4.lt, sideAt_new W L x, rfl⟩
  case body =>
    rintro l pre x a' W hl - ⟨⟨⟨bI5, bN5⟩, bX5⟩, hB5⟩ ⟨Bx, hBx, sX, rfl⟩ hlt
    have hs5 := hB5.size
    have HR := Lib.hid (fun W => right_pt (gt L x) (gt L (nx L x)) p W (hok _) (hok _) hq)
    have HF := Lib.hid (flipL_snoc L p pre x)
    obtain ⟨x0, x1, x2, x3⟩ := sX.cells
    have c0 := bX5.c0; have c1 := bX5.c1
    gi_wp2
    refine ⟨trivial, ((wideR l).calls (HR.out _)).mono ?_⟩
    rintro e W6 ⟨rfl, hb6⟩
    have hB6 := hB5.trans (hb6.mono hs5)
    have bI6 := boxed_on bI5 hb6
    have bN6 := boxed_on bN5 hb6
    have bX6 := bX5.step hb6
    have hK6 := KeepP.of_below hb6 hs5 bN5.lt
    have hF6 := keepsFrom_below (B := W0.heap.size) hb6
    clear hb6 hB5 bI5 bN5 bX5 sX x0 x1 x2 x3 c0 c1
    have cI := bI6.cell
    have fI := bI6.frozen
    generalize flipL L p pre = fb at *
    cases hr : rightB (gt L x) (gt L (nx L x)) p
    · rw [hr] at HF
      gi_wp2
      exact ⟨hF6, hK6, ⟨⟨by rw [HF.out]; exact bI6, bN6⟩, bX6⟩, hB6⟩
    · rw [hr] at HF
      gi_wp2
      exact ⟨hF6.trans ((KeepsOthers.setCell _ _ _).from _), hK6.setCell (by omega) (by omega) _ _, ⟨⟨by rw [HF.out]; exact bI6.set _, bN6.other (by omega) _⟩, at_set bX6 (by omega) _ _⟩, hB6.setCell (p := ⟨w.heap.size + 1, 0, none⟩) (by simp) _⟩
  case done =>
    rintro D zs W hD rfl ⟨⟨⟨bI4, bN4⟩, bX4⟩, hB4⟩ hK
    have cI := bI4.cell
    have HF := Lib.hid (flipL_range L p L.length)
    gi_wp2
    refine ⟨by simp, .inl ⟨_, _, rfl, run_takeDeferred hK, ?_⟩⟩
    exact ⟨_, results_tmp rfl _ _ _, by rw [HF.out]; rfl, hB4.trans (belowK_b (w := w) (Nat.le_refl _) W D _ _ (by omega) hK rfl rfl)⟩
  case stop =>
    rintro D k pre W hD hpre h hK
    exact h.elim
end Go.Proofs.Ytncahchhinfneaa

/-! Inside -/
namespace Go.Proofs.Ytncahchhinfneaa
open Go.RowKit Go.Shelf Go.Sort
attribute [local go_sem] Oper.semAt_some

def onQ (a b p : Int × Int) : Bool := onV a.1 a.2 b.1 b.2 p.1 p.2
theorem onQ_ok {a b p : Int × Int} (ha : okP a.1 a.2 = true) (hb : okP b.1 b.2 = true) (hp : okP p.1 p.2 = true) : onQ a b p = onP a b p := by
  unfold onQ onV onP
  rw [ha, hb, hp]; rfl
theorem crossV_ok {ax ay bx by' px py : Int} (ha : okP ax ay = true) (hb : okP bx by' = true) (hp : okP px py = true) : crossV ax ay bx by' px py = crossI ax ay bx by' px py := by
  unfold crossV
  rw [ha, hb, hp]; rfl
theorem on_pt (a b p : Int × Int) (w : World) :
    Calls Try.prog 81 #[(.agg #[.int .i64 a.1, .int .i64 a.2]), (.agg #[.int .i64 b.1, .int .i64 b.2]), (.agg #[.int .i64 p.1, .int .i64 p.2])] w fun e w' => e = .returned (.bool (onQ a b p)) ∧ Below w.heap.size w w' := impl_on a.1 a.2 b.1 b.2 p.1 p.2 w
set_option maxRecDepth 100000 in
set_option maxHeartbeats 4000000 in
theorem impl_inside_yes (A : Option Addr) (c : Nat) (L : List (Int × Int)) (p : Int × Int) (w : World) (hA : PtsA w A L) (hp : polyB L = true) (hq : okP p.1 p.2 = true) :
    Calls Try.prog 16 #[.slice A L.length c, (.agg #[.int .i64 p.1, .int .i64 p.2])] w fun e w' => e = .returned (.bool (insideB L p)) ∧ Below w.heap.size w w' := by
  obtain ⟨h3, h10, hok⟩ := polyB_all hp
  refine (callsIn_wide (n := 6)).1 ?_
  refine callsIn_of_wp_marks Try.func16 rfl trivial ?_ rfl
  simp only [Try.ntmps16, List.size_toArray, List.length_cons, List.length_nil, Nat.reduceAdd, Nat.reduceSub, Array.replicate_succ, Array.replicate_zero, List.push_toArray, List.append_toArray, List.nil_append, List.cons_append]
  have PC := Lib.hid (fun (W : World) (hb : Below w.heap.size w W) => impl_poly A c L W (ptsA_on hA hb) (by omega))
  rw [hp] at PC
  have bX := at_new w p.1 p.2 30
  have hB0 := below2 w (.cells #[.int .i64 p.1, .int .i64 p.2] 30) (.cells #[.bool false] 4)
  gi_wp2
  refine ⟨trivial, (wide0.calls (PC.out _ hB0)).mono ?_⟩
  rintro e w1 ⟨rfl, hb1⟩
  have hB1 := hB0.trans (hb1.mono hB0.size)
  have bX1 := (bX.alloc (.cells #[.bool false] 4)).step hb1
  have bR1 := boxed_on (Boxed.new (w.alloc (.cells #[.int .i64 p.1, .int .i64 p.2] 30)) 4 (.bool false)) hb1
  simp only [size_alloc] at bR1
  have hs1 : w.heap.size + 2 ≤ w1.heap.size := by have := hb1.size; simp at this; omega
  have c0 := bX1.c0; have c1 := bX1.c1
  clear hb1 bX hB0
  gi_wp2
  refine ⟨trivial, (wide0.calls (impl_ok p.1 p.2 w1)).mono ?_⟩
  rintro e w2 ⟨rfl, hb2⟩
  rw [hq]
  have hB2 := hB1.trans (hb2.mono hB1.size)
  have bX2 := bX1.step hb2
  have bR2 := boxed_on bR1 hb2
  have hs2 : w.heap.size + 2 ≤ w2.heap.size := by have := hb2.size; omega
  have c0 := bX2.c0; have c1 := bX2.c1
  clear hb2 hB1 bX1 bR1 hs1
  gi_wp2
  refine ⟨trivial, (wide0.calls (sides_any A L.length c _)).mono ?_⟩
  rintro e w3 ⟨rfl, rfl⟩
  gi_wp2
  have bX3 := bX2.alloc (.cells #[.slice A L.length c] 23)
  have bR3 := bR2.alloc (.cells #[.slice A L.length c] 23)
  have bN := Boxed.new w2 23 (.slice A L.length c)
  have hB0 : Below w.heap.size w (w2.alloc (.cells #[.slice A L.length c] 23)) := hB2.alloc (by omega) _
  have hsz : (w2.alloc (.cells #[.slice A L.length c] 23)).heap.size = w2.heap.size + 1 := by simp
  obtain ⟨W0, hW0⟩ : ∃ W0, w2.alloc (.cells #[.slice A L.length c] 23) = W0 := ⟨_, rfl⟩
  rw [hW0] at bX3 bR3 bN hB0 hsz ⊢
  clear hW0 c0 c1
  refine wpIn_rangeFunc_ownH rfl (by decide) (gf := 144) (lb := #[.pointer (some ⟨w2.heap.size, 0, none⟩)]) rfl trivial (enters_of Try.func144 (by kernel_rfl) rfl)
    (sides_stops 5 w2.heap.size A c L w W0 (by omega) (by omega) hA hB0 (by omega) bN.cell) keepP_t (keepP_b (by omega) (by omega)) (Below.refl _ _) (fun _ => rfl)
    (fun pre W => ((((∀ i ∈ pre, onQ (gt L i) (gt L (nx L i)) p = false) ∧ Boxed W (w.heap.size + 1) 4 (.bool false)) ∧ Boxed W w2.heap.size 23 (.slice A L.length c)) ∧ At W w.heap.size p.1 p.2 30) ∧ Below w.heap.size w W)
    (fun co pre W => ((co = .ret ∧ ∃ i ∈ pre, onQ (gt L i) (gt L (nx L i)) p = true) ∧ Boxed W (w.heap.size + 1) 4 (.bool true)) ∧ Below w.heap.size w W)
    (OwnFrom.and (OwnFrom.and (OwnFrom.and (OwnFrom.and (ownFrom_pure _ _) (Own.from (boxed_own _ _ _) _)) (Own.from (boxed_own _ _ _) _)) (fun s X Y row hs hg hr => at_own _ _ _ _ _ () X Y row hs hg hr)) (ownFrom_below (Nat.le_refl _) (by omega)))
    (fun co => OwnFrom.and (OwnFrom.and (ownFrom_pure _ _) (Own.from (boxed_own _ _ _) _)) (ownFrom_below (Nat.le_refl _) (by omega)))
    ⟨⟨⟨⟨by simp, bR3⟩, bN⟩, bX3⟩, hB0⟩
    (fun x a' W => ∃ Bx, w2.heap.size < Bx ∧ SideAt W Bx L x ∧ a' = { tmps := #[.slice A L.length c, .agg #[.int .i64 p.1, .int .i64 p.2], undef, .pointer (some ⟨w.heap.size, 0, none⟩), .pointer (some ⟨w.heap.size + 1, 0, none⟩), undef, .pointer (some ⟨Bx, 0, none⟩), .slice A L.length c, .bool true, .bool false, .bool false, .agg #[.int .i64 p.1, .int .i64 p.2], .bool true, .bool false, .bool false, .slice A L.length c, .func (.func 144) #[] #[.pointer (some ⟨w2.heap.size, 0, none⟩)], .int .i64 (x : Int), .agg #[.int .i64 (gt L x).1, .int .i64 (gt L x).2, .int .i64 (gt L (nx L x)).1, .int .i64 (gt L (nx L x)).2], undef, undef, undef, undef, undef, undef, undef, undef, undef], defers := [] })
    (fun x a' _ X Y row hs hg hr => by obtain ⟨Bx, e1, e2, e3⟩ := hs; exact ⟨Bx, e1, sideAt_own Bx L x _ () X Y row e2 hg hr, e3⟩)
    ?assign ?body ?done ?stop
  case assign =>
    rintro l pre x W K ⟨⟨⟨⟨hq1, bR4⟩, bN4⟩, bX4⟩, hB4⟩ hK
    simp only [sideV]
    gi_wp2
    have hs4 := hB4.size
    have hb := below1 W (.cells #[.int .i64 (gt L x).1, .int .i64 (gt L x).2, .int .i64 (gt L (nx L x)).1, .int .i64 (gt L (nx L x)).2] 81)
    exact hK _ _ (keepsFrom_below hb) (KeepP.of_below hb hs4 bN4.lt) ⟨⟨⟨⟨hq1, boxed_on bR4 hb⟩, boxed_on bN4 hb⟩, bX4.step hb⟩, hB4.trans (hb.mono hs4)⟩ ⟨W.heap.size, bN4.lt, sideAt_new W L x, rfl⟩
  case body =>
    rintro l pre x a' W hl - ⟨⟨⟨⟨hq1, bR4⟩, bN4⟩, bX4⟩, hB4⟩ ⟨Bx, hBx, sX, rfl⟩ hlt
    have hs4 := hB4.size
    have HO := Lib.hid (fun W => on_pt (gt L x) (gt L (nx L x)) p W)
    obtain ⟨x0, x1, x2, x3⟩ := sX.cells
    have c0 := bX4.c0; have c1 := bX4.c1
    cases hon : onQ (gt L x) (gt L (nx L x)) p
    · rw [hon] at HO
      have HN : Hid (∀ i ∈ pre ++ [x], onQ (gt L i) (gt L (nx L i)) p = false) := fun z hz => (List.mem_append.1 hz).elim (hq1 z) (fun e => by simp at e; subst e; exact hon)
      clear hon hq1
      gi_wp2
      refine ⟨trivial, ((wideR l).calls (HO.out _)).mono ?_⟩
      rintro e W5 ⟨rfl, hb5⟩
      gi_wp2
      exact ⟨keepsFrom_below (B := W0.heap.size) hb5, KeepP.of_below hb5 hs4 bN4.lt, ⟨⟨⟨HN.out, boxed_on bR4 hb5⟩, boxed_on bN4 hb5⟩, bX4.step hb5⟩, hB4.trans (hb5.mono hs4)⟩
    · rw [hon] at HO
      gi_wp2
      refine ⟨trivial, ((wideR l).calls (HO.out _)).mono ?_⟩
      rintro e W5 ⟨rfl, hb5⟩
      have hB5 := hB4.trans (hb5.mono hs4)
      have bR5 := boxed_on bR4 hb5
      have cR := bR5.cell
      have fR := bR5.frozen
      gi_wp2
      exact ⟨(keepsFrom_below hb5).trans ((KeepsOthers.setCell _ _ _).from _), ⟨⟨rfl, x, List.mem_append.2 (.inr (by simp)), hon⟩, bR5.set _⟩, hB5.setCell (p := ⟨w.heap.size + 1, 0, none⟩) (by simp) _⟩
  case done =>
    rintro D zs W hD rfl ⟨⟨⟨⟨hq1, bR4⟩, bN4⟩, bX4⟩, hB4⟩ hK
    have c0 := bX4.c0; have c1 := bX4.c1
    have HR := Lib.hid (around_sm A c L p W (ptsA_on hA hB4) (by omega) h10 (fun i => smP_ok (gt_ok hok i)) (smP_ok hq))
    have hv : insideB L p = aroundB L p := by
      rw [insideB, onRim_false (fun i hi => by rw [← onQ_ok (gt_ok hok i) (gt_ok hok (nx L i)) hq]; exact hq1 i (List.mem_range.2 hi)), Bool.false_or]; rfl
    generalize aroundB L p = fb at *
    gi_wp2
    refine ⟨trivial, (wide0.calls HR.out).mono ?_⟩
    rintro e W5 ⟨rfl, hb5⟩
    have hB5 := hB4.trans (hb5.mono hB4.size)
    have bR5 := boxed_on bR4 hb5
    have cR := bR5.cell
    have fR := bR5.frozen
    have hK5 := (hb5.block D (Array.getElem?_eq_some_iff.1 hK).1).trans hK
    gi_wp2
    have hK' := (KeepsOthers.setCell W5 ⟨w.heap.size + 1, 0, none⟩ (.bool fb)).same D _ hK5 rfl
    refine ⟨by simp, .inl ⟨_, _, rfl, run_takeDeferred hK', ?_⟩⟩
    have hc5 := cell_kept (bR5.set (.bool fb)).cell (grownBy_putObj' _ D (.deferred none)) (fun r e => by cases e; exact ⟨_, hK', rfl⟩)
    refine ⟨.bool fb, ?_, by rw [hv], (hB5.setCell (p := ⟨w.heap.size + 1, 0, none⟩) (by simp) _).trans (belowK_b (w := w) (Nat.le_refl _) _ D _ _ (by omega) hK' rfl rfl)⟩
    simp [results, Try.f16, go_sem, hc5]
  case stop =>
    rintro D co pre W hD ⟨k, hk, rfl⟩ ⟨⟨⟨rfl, j, hj, hjb⟩, bR1⟩, hB1⟩ hK
    gi_wp2
    refine ⟨by simp, .inl ⟨_, _, rfl, run_takeDeferred hK, ?_⟩⟩
    have hc5 := cell_kept bR1.cell (grownBy_putObj' _ D (.deferred none)) (fun r e => by cases e; exact ⟨_, hK, rfl⟩)
    refine ⟨.bool true, ?_, ?_, hB1.trans (belowK_b (w := w) (Nat.le_refl _) _ D _ _ (by omega) hK rfl rfl)⟩
    · simp [results, Try.f16, go_sem, hc5]
    · rw [onQ_ok (gt_ok hok j) (gt_ok hok (nx L j)) hq] at hjb
      rw [insideB, onRim_true (i := j) (by simp only [List.mem_range] at hj; omega) hjb]; rfl

theorem impl_inside (A : Option Addr) (c : Nat) (L : List (Int × Int)) (px py : Int) (w : World) (hA : PtsA w A L) (hL : L.length ≤ 1048576) :
    Calls Try.prog 16 #[.slice A L.length c, (.agg #[.int .i64 px, .int .i64 py])] w fun e w' => e = .returned (.bool (insideV L (px, py))) ∧ Below w.heap.size w w' := by
  cases hp : polyB L
  · have HV : Hid (insideV L (px, py) = false) := by
      show _ = _
      rw [insideV, hp]; rfl
    have PC := Lib.hid (fun (W : World) (hb : Below w.heap.size w W) => impl_poly A c L W (ptsA_on hA hb) hL)
    rw [hp] at PC
    have hB0 := below2 w (.cells #[.int .i64 px, .int .i64 py] 30) (.cells #[.bool false] 4)
    go_enter Try.func16, Try.ntmps16
    go_wp2_with fail
    refine (PC.out _ hB0).mono ?_
    rintro e w1 ⟨rfl, hb1⟩
    have bR1 := boxed_on (Boxed.new (w.alloc (.cells #[.int .i64 px, .int .i64 py] 30)) 4 (.bool false)) hb1
    simp only [size_alloc] at bR1
    have hB1 := hB0.trans (hb1.mono hB0.size)
    have cR := bR1.cell
    have fR := bR1.frozen
    clear hb1 hB0
    go_wp2_with fail
    have cR' := (bR1.set (.bool false)).cell
    refine bodyPost_ret (v := .bool false) (by simp [results, Try.results16, go_sem, cR']) rfl ⟨ret_bool HV.out.symm, hB1.setCell (p := ⟨w.heap.size + 1, 0, none⟩) (by simp) _⟩
  · cases hq : okP px py
    · have HV : Hid (insideV L (px, py) = false) := by
        show _ = _
        rw [insideV, hp, okQ_pair, hq]; rfl
      have PC := Lib.hid (fun (W : World) (hb : Below w.heap.size w W) => impl_poly A c L W (ptsA_on hA hb) hL)
      rw [hp] at PC
      have hB0 := below2 w (.cells #[.int .i64 px, .int .i64 py] 30) (.cells #[.bool false] 4)
      have bX := at_new w px py 30
      go_enter Try.func16, Try.ntmps16
      go_wp2_with fail
      refine (PC.out _ hB0).mono ?_
      rintro e w1 ⟨rfl, hb1⟩
      have bX1 := (bX.alloc (.cells #[.bool false] 4)).step hb1
      have bR1 := boxed_on (Boxed.new (w.alloc (.cells #[.int .i64 px, .int .i64 py] 30)) 4 (.bool false)) hb1
      simp only [size_alloc] at bR1
      have hB1 := hB0.trans (hb1.mono hB0.size)
      have c0 := bX1.c0; have c1 := bX1.c1
      clear hb1 hB0 bX
      go_wp2_with fail
      refine (impl_ok px py w1).mono ?_
      rintro e w2 ⟨rfl, hb2⟩
      rw [hq]
      have bR2 := boxed_on bR1 hb2
      have hB2 := hB1.trans (hb2.mono hB1.size)
      have cR := bR2.cell
      have fR := bR2.frozen
      clear hb2 hB1 bR1
      go_wp2_with fail
      have cR' := (bR2.set (.bool false)).cell
      refine bodyPost_ret (v := .bool false) (by simp [results, Try.results16, go_sem, cR']) rfl ⟨ret_bool HV.out.symm, hB2.setCell (p := ⟨w.heap.size + 1, 0, none⟩) (by simp) _⟩
    · have hv : insideV L (px, py) = insideB L (px, py) := by rw [insideV, hp, okQ_pair, hq]; rfl
      rw [hv]
      exact impl_inside_yes A c L (px, py) w hA hp hq
end Go.Proofs.Ytncahchhinfneaa

/-! Straight -/
namespace Go.Proofs.Ytncahchhinfneaa
open Go.RowKit Go.Shelf Go.Sort
attribute [local go_sem] Oper.semAt_some

theorem at_frozen {W : World} {g : Nat} {x y : Int} {t : TypeId} (h : At W g x y t) (o : Nat) : W.frozen? ⟨g, o, none⟩ = false := by simp [World.frozen?, show W.heap[g]? = _ from h]
theorem side_kept {W W' : World} {g B k : Nat} {L : List (Int × Int)} {i : Nat} {v : Value} {xs : List Value} (h : SideAt W g L i) (hg : W.grownBy W' v.ownBlock) (hr : W.ownsRow B 30 2 v k xs) : SideAt W' g L i := by
  refine (hg.block g h.lt ?_).trans h
  rcases hr.2 with ⟨rfl, _⟩ | ⟨g', cap, cur, rfl, _, hgb, _⟩
  · simp [Value.ownBlock]
  · intro e
    obtain rfl : g = g' := by simpa [Value.ownBlock] using e
    have := (show W.heap[g]? = _ from h).symm.trans hgb
    simp at this
theorem side_set {W : World} {b G : Nat} {L : List (Int × Int)} {i : Nat} (h : SideAt W G L i) (hne : G ≠ b) (o : Nat) (v : Value) : SideAt (W.setCell ⟨b, o, none⟩ v) G L i := (Below.heap_setCell W ⟨b, o, none⟩ v G hne).trans h
theorem hrow_other {W : World} {B b k : Nat} {e : TypeId} {size : Nat} {v : Value} {xs : List Value} (h : W.ownsRow B e size v k xs) (o : Nat) (hb : b < B) (u : Value) : (W.setCell ⟨b, o, none⟩ u).ownsRow B e size v k xs :=
  h.kept (only_set (World.grownBy.refl W (some b)) o u) (by
    cases hv : v.ownBlock with
    | none => exact .inl rfl
    | some q => exact .inr (fun e => by simp only [Option.some.injEq] at e; have := (h.lt q hv).1; omega))
theorem box_set {W : World} {B b : Nat} {t : TypeId} {v : Value} (h : Boxed W B t v) (o : Nat) (hne : B ≠ b) (u : Value) : Boxed (W.setCell ⟨b, o, none⟩ u) B t v := (Below.heap_setCell W ⟨b, o, none⟩ u B hne).trans h
theorem at_store {W : World} {g : Nat} {x y : Int} {t : TypeId} (h : At W g x y t) (a : Int) (o : Nat) (ho : o = 0 := by rfl) : At (W.setCell ⟨g, o, none⟩ (.int .i64 a)) g a y t := by
  subst ho
  obtain ⟨hlt, hk⟩ := Array.getElem?_eq_some_iff.1 h
  show (W.heap.modify g _)[g]? = _
  rw [Array.getElem?_eq_getElem (by rw [Array.size_modify]; exact hlt), Array.getElem_modify_self, hk]
  rfl
theorem at_store1 {W : World} {g : Nat} {x y : Int} {t : TypeId} (h : At W g x y t) (a : Int) : At (W.setCell ⟨g, 1, none⟩ (.int .i64 a)) g x a t := by
  obtain ⟨hlt, hk⟩ := Array.getElem?_eq_some_iff.1 h
  show (W.heap.modify g _)[g]? = _
  rw [Array.getElem?_eq_getElem (by rw [Array.size_modify]; exact hlt), Array.getElem_modify_self, hk]
  rfl
def stStep (L : List (Int × Int)) (s : Nat × List (Int × Int)) (i : Nat) : Nat × List (Int × Int) := (i, bif onQ (gt L s.1) (gt L (nx L i)) (gt L i) then s.2 else s.2 ++ [gt L i])
def stP (L : List (Int × Int)) (l : List Nat) : Nat × List (Int × Int) := l.foldl (stStep L) (L.length - 1, [])
theorem stP_snoc (L : List (Int × Int)) (l : List Nat) (x : Nat) : stP L (l ++ [x]) = stStep L (stP L l) x := by simp [stP]
theorem stP_len (L : List (Int × Int)) (l : List Nat) : (stP L l).2.length ≤ l.length := by
  have key : ∀ (l : List Nat) (s : Nat × List (Int × Int)), (l.foldl (stStep L) s).2.length ≤ s.2.length + l.length := by
    intro l
    induction l with
    | nil => intro s; simp
    | cons x l ih =>
      intro s
      have h1 := ih (stStep L s x)
      have h2 : (stStep L s x).2.length ≤ s.2.length + 1 := by
        unfold stStep
        cases onQ (gt L s.1) (gt L (nx L x)) (gt L x) <;> simp
      rw [List.foldl_cons, List.length_cons]
      omega
  have := key l (L.length - 1, [])
  simpa [stP] using this

set_option maxRecDepth 100000 in
set_option maxHeartbeats 8000000 in
theorem impl_straight_yes (A : Option Addr) (c : Nat) (L : List (Int × Int)) (w : World) (hA : PtsA w A L) (hp : polyB L = true) :
    Calls Try.prog 79 #[.slice A L.length c] w (Lists w (stP L (List.range L.length)).2) := by
  obtain ⟨i0, hi0, hz0, hz1, hz2⟩ := info_parts infoPt
  obtain ⟨h3, h10, hok⟩ := polyB_all hp
  obtain ⟨g, rfl, -⟩ := hA 0 (by omega)
  have HU : Hid (Lists w (stP L (List.range L.length)).2 = fun e w' => ∃ v, e = .returned v ∧ w'.ownsRow w.heap.size 30 2 v (stP L (List.range L.length)).2.length (flat (stP L (List.range L.length)).2) ∧ Below w.heap.size w w') := rfl
  refine (callsIn_wide (n := 6)).1 ?_
  refine callsIn_of_wp_marks Try.func79 rfl trivial ?_ rfl
  simp only [Try.ntmps79, List.size_toArray, List.length_cons, List.length_nil, Nat.reduceAdd, Nat.reduceSub, Array.replicate_succ, Array.replicate_zero, List.push_toArray, List.append_toArray, List.nil_append, List.cons_append]
  have PC := Lib.hid (impl_poly _ c L w hA (by omega))
  rw [hp] at PC
  gi_wp2
  refine ⟨trivial, (wide0.calls PC.out).mono ?_⟩
  rintro e w1 ⟨rfl, hb1⟩
  have hA1 := ptsA_on hA hb1
  obtain ⟨m, hm⟩ : ∃ m, m = L.length - 1 := ⟨_, rfl⟩
  obtain ⟨c0, c1⟩ := gt_cells hA1 (i := m) (by omega)
  have hm1 : (L.length : Int) - 1 = (m : Int) := by omega
  have HM := Lib.hid hm
  have hn1 := below1 w1 (.cells #[.slice none 0 0] 23)
  have d0 := cell_on hn1 rfl c0
  have d1 := cell_on hn1 rfl c1
  obtain ⟨bx, hbx⟩ : ∃ bx, bx = (gt L m).1 := ⟨_, rfl⟩
  obtain ⟨by', hby⟩ : ∃ by', by' = (gt L m).2 := ⟨_, rfl⟩
  have HBX := Lib.hid hbx
  have HBY := Lib.hid hby
  rw [← hbx] at d0
  rw [← hby] at d1
  have hm3 : (m : Int) < (L.length : Int) := by omega
  clear hm c0 c1 hn1 hbx hby
  gi_wp2
  refine ⟨trivial, (wide0.calls (sides_any _ L.length c _)).mono ?_⟩
  rintro e w3 ⟨rfl, rfl⟩
  gi_wp2
  have hs1 := hb1.size
  have bB := ((Boxed.new w1 23 (.slice none 0 0)).alloc (.cells #[.int .i64 bx, .int .i64 by'] 30)).alloc (.cells #[.slice (some ⟨g, 0, none⟩) L.length c] 23)
  have bF := (at_new (w1.alloc (.cells #[.slice none 0 0] 23)) bx by' 30).alloc (.cells #[.slice (some ⟨g, 0, none⟩) L.length c] 23)
  have bN := Boxed.new ((w1.alloc (.cells #[.slice none 0 0] 23)).alloc (.cells #[.int .i64 bx, .int .i64 by'] 30)) 23 (.slice (some ⟨g, 0, none⟩) L.length c)
  simp only [World.size_alloc] at bF bN
  have hB0 : Below w.heap.size w (((w1.alloc (.cells #[.slice none 0 0] 23)).alloc (.cells #[.int .i64 bx, .int .i64 by'] 30)).alloc (.cells #[.slice (some ⟨g, 0, none⟩) L.length c] 23)) := hb1.trans ((below3 w1 _ _ _).mono hs1)
  have hsz : (((w1.alloc (.cells #[.slice none 0 0] 23)).alloc (.cells #[.int .i64 bx, .int .i64 by'] 30)).alloc (.cells #[.slice (some ⟨g, 0, none⟩) L.length c] 23)).heap.size = w1.heap.size + 3 := by simp
  obtain ⟨W0, hW0⟩ : ∃ W0, ((w1.alloc (.cells #[.slice none 0 0] 23)).alloc (.cells #[.int .i64 bx, .int .i64 by'] 30)).alloc (.cells #[.slice (some ⟨g, 0, none⟩) L.length c] 23) = W0 := ⟨_, rfl⟩
  rw [hW0] at bB bF bN hB0 hsz ⊢
  have bF0 : At W0 (w1.heap.size + 1) (gt L (stP L []).1).1 (gt L (stP L []).1).2 30 := by
    have e1 : (stP L []).1 = m := HM.out.symm
    rw [e1, ← HBX.out, ← HBY.out]; exact bF
  clear hW0 bF
  refine wpIn_rangeFunc_ownH rfl (by decide) (gf := 144) (lb := #[.pointer (some ⟨w1.heap.size + 1 + 1, 0, none⟩)]) rfl trivial (enters_of Try.func144 (by kernel_rfl) rfl)
    (sides_stops 5 (w1.heap.size + 1 + 1) _ c L w W0 (by omega) (by omega) hA hB0 (by omega) bN.cell) keepP_t (keepP_b (by omega) (by omega)) (Below.refl _ _) (fun _ => rfl)
    (fun pre W => (((∃ v, Boxed W w1.heap.size 23 v ∧ W.ownsRow (w1.heap.size + 3) 30 2 v (stP L pre).2.length (flat (stP L pre).2) ∧ True) ∧ At W (w1.heap.size + 1) (gt L (stP L pre).1).1 (gt L (stP L pre).1).2 30) ∧ Boxed W (w1.heap.size + 1 + 1) 23 (.slice (some ⟨g, 0, none⟩) L.length c)) ∧ Below w.heap.size w W)
    (fun _ _ _ => False)
    (OwnFrom.and (OwnFrom.and (OwnFrom.and (Own.from (holdsRow_own (w1.heap.size + 3) w1.heap.size 23 30 2 (fun pre => (stP L pre).2.length) (fun pre => flat (stP L pre).2) (fun _ _ => True)) _) (fun s X Y row hs hg hr => at_own _ _ _ _ _ () X Y row hs hg hr)) (Own.from (boxed_own _ _ _) _)) (ownFrom_below (Nat.le_refl _) (by omega)))
    (fun _ => ownFrom_pure _ (fun _ => False))
    ⟨⟨⟨⟨_, bB, World.ownsRow_nil _ _ _ _, trivial⟩, bF0⟩, bN⟩, hB0⟩
    (fun x a' W => ∃ Bx, w1.heap.size + 1 + 1 < Bx ∧ SideAt W Bx L x ∧ a' = { tmps := #[.slice (some ⟨g, 0, none⟩) L.length c, undef, .slice none 0 0, .pointer (some ⟨w1.heap.size, 0, none⟩), .pointer (some ⟨w1.heap.size + 1, 0, none⟩), undef, .pointer (some ⟨Bx, 0, none⟩), .slice (some ⟨g, 0, none⟩) L.length c, .bool true, .bool false, .slice (some ⟨g, 0, none⟩) L.length c, .slice (some ⟨g, 0, none⟩) L.length c, .int .i64 (L.length : Int), .int .i64 (m : Int), .pointer (some ⟨g, m * 2, none⟩), .agg #[.int .i64 bx, .int .i64 by'], .slice (some ⟨g, 0, none⟩) L.length c, .func (.func 144) #[] #[.pointer (some ⟨w1.heap.size + 1 + 1, 0, none⟩)], .int .i64 (x : Int), .agg #[.int .i64 (gt L x).1, .int .i64 (gt L x).2, .int .i64 (gt L (nx L x)).1, .int .i64 (gt L (nx L x)).2], undef, undef, undef, undef, undef, undef, undef, undef, undef, undef, undef, undef, undef, undef, undef], defers := [] })
    (fun x a' _ X Y row hs hg hr => by obtain ⟨Bx, e1, e2, e3⟩ := hs; exact ⟨Bx, e1, sideAt_own Bx L x _ () X Y row e2 hg hr, e3⟩)
    ?assign ?body ?done ?stop
  case assign =>
    rintro l pre x W K ⟨⟨⟨⟨v, bB4, own4, -⟩, bF4⟩, bN4⟩, hB4⟩ hK
    simp only [sideV]
    gi_wp2
    have hs4 := hB4.size
    have hb := below1 W (.cells #[.int .i64 (gt L x).1, .int .i64 (gt L x).2, .int .i64 (gt L (nx L x)).1, .int .i64 (gt L (nx L x)).2] 81)
    exact hK _ _ (keepsFrom_below hb) (KeepP.of_below hb hs4 bN4.lt) ⟨⟨⟨⟨v, boxed_on bB4 hb, own_below own4 hb, trivial⟩, bF4.step hb⟩, boxed_on bN4 hb⟩, hB4.trans (hb.mono hs4)⟩ ⟨W.heap.size, bN4.lt, sideAt_new W L x, rfl⟩
  case body =>
    rintro l pre x a' W hl - ⟨⟨⟨⟨v, bB4, own4, -⟩, bF4⟩, bN4⟩, hB4⟩ ⟨Bx, hBx, sX, rfl⟩ hlt
    have hs4 := hB4.size
    have HO := Lib.hid (fun W => on_pt (gt L (stP L pre).1) (gt L (nx L x)) (gt L x) W)
    have HST := Lib.hid (stP_snoc L pre x)
    have hlen := stP_len L pre
    obtain ⟨x0, x1, x2, x3⟩ := sX.cells
    have c0 := bF4.c0; have c1 := bF4.c1
    obtain ⟨j, hj⟩ : ∃ j, j = (stP L pre).1 := ⟨_, rfl⟩
    obtain ⟨M, hM⟩ : ∃ M, M = (stP L pre).2 := ⟨_, rfl⟩
    have HSS : Hid (stP L (pre ++ [x]) = (x, bif onQ (gt L j) (gt L (nx L x)) (gt L x) then M else M ++ [gt L x])) := by
      show _ = _
      rw [HST.out, hj, hM]; rfl
    rw [← hj] at HO c0 c1 bF4
    rw [← hM] at own4 hlen
    clear hj hM HST
    gi_wp2
    refine ⟨trivial, ((wideR l).calls (HO.out _)).mono ?_⟩
    rintro e W5 ⟨rfl, hb5⟩
    have hB5 := hB4.trans (hb5.mono hs4)
    have bB5 := boxed_on bB4 hb5
    have bN5 := boxed_on bN4 hb5
    have bF5 := bF4.step hb5
    have sX5 := boxed_side sX hb5
    have own5 := own_below own4 hb5
    have hK5 := KeepP.of_below hb5 hs4 bN4.lt
    have hF5 := keepsFrom_below (B := W0.heap.size) hb5
    have hs5 := hB5.size
    clear hb5 hB4 bB4 bN4 bF4 sX x0 x1 x2 x3 c0 c1 HO own4 hs4
    obtain ⟨x0, x1, x2, x3⟩ := sX5.cells
    have c0 := bF5.c0; have c1 := bF5.c1
    have cB := bB5.cell
    have fB := bB5.frozen
    have f0 := at_frozen bF5 0
    have f1 := at_frozen bF5 1
    cases hon : onQ (gt L j) (gt L (nx L x)) (gt L x)
    · rw [hon] at HSS
      have hrw := fun k hk => (own5.lt k hk).1
      obtain ⟨px, hpx⟩ : ∃ px, px = (gt L x).1 := ⟨_, rfl⟩
      obtain ⟨py, hpy⟩ : ∃ py, py = (gt L x).2 := ⟨_, rfl⟩
      have HP : Hid (gt L x = (px, py)) := by
        show _ = _
        rw [hpx, hpy]
      simp only [← hpx, ← hpy] at x0 x1 ⊢
      clear hpx hpy
      have hl10 : M.length ≤ 9 := by omega
      have hs6 := hB5.size
      have hlt3 : w1.heap.size + 3 ≤ W5.heap.size := by have := sX5.lt; omega
      gi_wp2_with (gi_at_builtin; refine wpListIn_append_own _ rfl _ _ 23 rfl (w1.heap.size + 3) 30 i0 (.agg #[.int .i64 0, .int .i64 0]) 2 16 Try.underlying23 hi0 hz0 hz1 hz2 rfl (by decide) _ _ _ rfl (own5.alloc _) ⟨W5.heap.size, 0, none⟩ 1 1 [.int .i64 px, .int .i64 py] rfl rfl ?d1 ?d2 ?d3 ?d4 ?d5 ?_)
      case d1 => exact World.news_of_block (cs := #[.int .i64 px, .int .i64 py]) (t := 30) (fr := (0, 0)) (heap_alloc_new W5 _)
      case d2 => simp [Value.oneCell']
      case d3 => unfold maxLen; omega
      case d4 => omega
      case d5 => simp; omega
      intro v' w6 own6 hgrow _
      obtain ⟨g6, cp6, rfl⟩ := ownsRow_succ own6
      obtain ⟨hv1, hv2, hr2, hk2, hb2⟩ := bB5.appended (by decide) (own_base own5 (show w.heap.size ≤ w1.heap.size + 3 by omega)) hs6 hs1 (own_base own6 (show w.heap.size ≤ w1.heap.size + 3 by omega)) hgrow
      have hc6 := hv1.cell
      have hf6 := hv1.frozen
      have bF6 := (bF5.alloc (.cells #[.int .i64 px, .int .i64 py] 30)).grown hgrow (fun e => by have := hrw _ e.symm; omega)
      have bN6 := (bN5.alloc (.cells #[.int .i64 px, .int .i64 py] 30)).kept hgrow (fun e => by have := hrw _ e.symm; omega)
      have sX6 := side_kept (boxed_side sX5 (below1 W5 (.cells #[.int .i64 px, .int .i64 py] 30))) hgrow (own5.alloc _)
      have hv3 := hrow_other own6 0 (show w1.heap.size < w1.heap.size + 3 by omega) (.slice (some ⟨g6, 0, none⟩) (M.length + 1) cp6)
      have bF7 := at_set bF6 (b := w1.heap.size) (by omega) 0 (.slice (some ⟨g6, 0, none⟩) (M.length + 1) cp6)
      have bN7 := bN6.other (B' := w1.heap.size) (by omega) (.slice (some ⟨g6, 0, none⟩) (M.length + 1) cp6)
      have sX7 := side_set sX6 (b := w1.heap.size) (by omega) 0 (.slice (some ⟨g6, 0, none⟩) (M.length + 1) cp6)
      have hB7 := hB5.trans hb2
      have hlN : w1.heap.size + 1 + 1 ≠ w1.heap.size := by omega
      have hKB : w6.heap[w1.heap.size + 1 + 1]? = W5.heap[w1.heap.size + 1 + 1]? := ((hgrow.block _ (by simp; omega) (fun e => by have := hrw _ e.symm; omega))).trans (Below.heap_alloc _ _ _ (by omega))
      have hK7 : KeepP w.heap.size (w1.heap.size + 1 + 1) W (w6.setCell ⟨w1.heap.size, 0, none⟩ (.slice (some ⟨g6, 0, none⟩) (M.length + 1) cp6)) := keepP_t hK5 ⟨hb2, (Below.heap_setCell w6 ⟨w1.heap.size, 0, none⟩ _ _ hlN).trans hKB⟩
      have hF7 := hF5.trans (hk2.from W0.heap.size)
      have R := Lib.hid (And.intro hv2 (And.intro hv3 (And.intro bN7 (And.intro hB7 (And.intro hK7 hF7)))))
      clear x0 x1 x2 x3 c0 c1 f0 f1 hv2 hr2 hk2 hb2 hv3 bN7 hB7 hK7 hF7 hKB hgrow own6 own5 bF6 bN6 sX6 bF5 bN5 bB5 sX5 cB fB hK5 hF5 hB5 hv1
      obtain ⟨x0, x1, x2, x3⟩ := sX7.cells
      simp only [HP.out] at x0 x1
      have c0 := bF7.c0; have c1 := bF7.c1
      have f0 := at_frozen bF7 0
      have f1 := at_frozen bF7 1
      have c2 : ((w6.setCell ⟨w1.heap.size, 0, none⟩ (.slice (some ⟨g6, 0, none⟩) (M.length + 1) cp6)).setCell ⟨w1.heap.size + 1, 0, none⟩ (.int .i64 px)).cell? ⟨w1.heap.size + 1, 1, none⟩ = some (.int .i64 (gt L j).2) := (at_store bF7 px 0).c1
      clear sX7
      gi_wp2
      obtain ⟨r1, r2, r3, r4, r5, r6⟩ := R.out
      refine ⟨(r6.trans ((KeepsOthers.setCell _ _ _).from _)).trans ((KeepsOthers.setCell _ _ _).from _), (r5.setCell (by omega) (by omega) _ _).setCell (by omega) (by omega) _ _, ?_⟩
      simp only [HSS.out, cond_false, HP.out, List.length_append, List.length_cons, List.length_nil, flat_append]
      exact ⟨⟨⟨⟨_, box_set (box_set r1 0 (by omega) _) 1 (by omega) _, hrow_other (hrow_other r2 0 (by omega) _) 1 (by omega) _, trivial⟩, at_store1 (at_store bF7 px 0) py⟩, box_set (box_set r3 0 (by omega) _) 1 (by omega) _⟩, (r4.setCell (p := ⟨w1.heap.size + 1, 0, none⟩) (Nat.le_trans hs1 (Nat.le_succ _)) _).setCell (p := ⟨w1.heap.size + 1, 1, none⟩) (Nat.le_trans hs1 (Nat.le_succ _)) _⟩
    · rw [hon] at HSS
      obtain ⟨px, hpx⟩ : ∃ px, px = (gt L x).1 := ⟨_, rfl⟩
      obtain ⟨py, hpy⟩ : ∃ py, py = (gt L x).2 := ⟨_, rfl⟩
      have HP : Hid (gt L x = (px, py)) := by
        show _ = _
        rw [hpx, hpy]
      simp only [← hpx, ← hpy] at x0 x1 ⊢
      clear hpx hpy
      have c2 : (W5.setCell ⟨w1.heap.size + 1, 0, none⟩ (.int .i64 px)).cell? ⟨w1.heap.size + 1, 1, none⟩ = some (.int .i64 (gt L j).2) := (at_store bF5 px 0).c1
      have hs7 : w.heap.size ≤ w1.heap.size + 1 := Nat.le_trans hs1 (Nat.le_succ _)
      have R := Lib.hid (And.intro bB5 (And.intro own5 (And.intro bN5 (And.intro hB5 (And.intro hK5 hF5)))))
      clear bB5 own5 bN5 hB5 hK5 hF5
      gi_wp2
      obtain ⟨r1, r2, r3, r4, r5, r6⟩ := R.out
      refine ⟨(r6.trans ((KeepsOthers.setCell _ _ _).from _)).trans ((KeepsOthers.setCell _ _ _).from _), (r5.setCell hs7 (by omega) _ _).setCell hs7 (by omega) _ _, ?_⟩
      simp only [HSS.out, cond_true, HP.out]
      exact ⟨⟨⟨⟨_, box_set (box_set r1 0 (by omega) _) 1 (by omega) _, hrow_other (hrow_other r2 0 (by omega) _) 1 (by omega) _, trivial⟩, at_store1 (at_store bF5 px 0) py⟩, box_set (box_set r3 0 (by omega) _) 1 (by omega) _⟩, (r4.setCell (p := ⟨w1.heap.size + 1, 0, none⟩) hs7 _).setCell (p := ⟨w1.heap.size + 1, 1, none⟩) hs7 _⟩
  case done =>
    rintro D zs W hD rfl ⟨⟨⟨⟨v, bB4, own4, -⟩, bF4⟩, bN4⟩, hB4⟩ hK
    have cB := bB4.cell
    have hs9 := hB0.size
    gi_wp2
    refine ⟨by simp, .inl ⟨_, _, rfl, run_takeDeferred hK, ?_⟩⟩
    rw [HU.out]
    exact ⟨_, results_tmp rfl _ _ _, v, rfl, ownsRow_putObj (own_base own4 (show w.heap.size ≤ w1.heap.size + 3 by omega)) _ hK rfl, hB4.trans (belowK_b (w := w) (Nat.le_refl _) W D _ _ (by omega) hK rfl rfl)⟩
  case stop =>
    rintro D k pre W hD hpre h hK
    exact h.elim
end Go.Proofs.Ytncahchhinfneaa

/-! Board3 -/
namespace Go.Proofs.Ytncahchhinfneaa
open Go.RowKit

theorem mod_eqs (i a : Nat) (hi : i ≤ 36) : Int.tmod (i : Int) (a : Int) = ((i % a : Nat) : Int) ∧ wrap64 ((i : Int) / (a : Int)) = ((i / a : Nat) : Int) ∧ i / a ≤ 36 := by
  have h1 : i / a ≤ i := Nat.div_le_self _ _
  refine ⟨?_, ?_, by omega⟩
  · rw [Int.tmod_eq_emod_of_nonneg (by omega)]; exact (Int.natCast_emod _ _).symm
  · rw [← Int.natCast_ediv]
    generalize i / a = y at *
    exact IntWalk.wrap64_in _ (by omega)
set_option maxRecDepth 100000 in
theorem cellAt_any (a b : Nat) (F : Nat → Bool) (i : Nat) (W : World) (ha : 1 ≤ a) (hi : i ≤ 36) :
    Calls Try.prog 107 #[.agg (bdV a b F), .int .i64 i] W fun e w' => e = .returned (.agg #[.int .i64 ((i % a : Nat) : Int), .int .i64 ((i / a : Nat) : Int)]) ∧ Below W.heap.size W w' := by
  have t1 := (brd_new W a b F).alloc (.cells #[.int .i64 0, .int .i64 0] 30)
  have t2 := at_new (W.alloc (.cells (bdV a b F) 108)) 0 0 30
  rw [size_alloc] at t2
  have b2 := below2 W (.cells (bdV a b F) 108) (.cells #[.int .i64 0, .int .i64 0] 30)
  have c0 := t1.c0
  have k0 := cell_regrown c0
  obtain ⟨e1, e2, e3⟩ := mod_eqs i a hi
  have ha0 : ((a : Int) == 0) = false := by simp; omega
  generalize i % a = x at *
  generalize i / a = y at *
  go_enter Try.func107, Try.ntmps107
  go_wp2_with fail
  refine region_tail 9 (by kernel_rfl) (by kernel_rfl) ?_
  simp only [List.take_succ_cons, List.take_zero, List.drop_succ_cons, List.drop_zero]
  repeat (first
    | go_big_quiet_step (fail)
    | quiet_step (fail))
  refine wpQuiet_nil ?_
  rintro _ ⟨⟨dq, osq⟩, rfl⟩
  have hb2 := below_regrown ((W.alloc (.cells (bdV a b F) 108)).alloc (.cells #[.int .i64 0, .int .i64 0] 30)) dq osq
  have t3 := t2.step hb2
  have b3 := below_on b2 hb2
  clear t1 t2 b2 hb2 c0 k0 e1 e2 ha0
  simp only at *
  generalize Go.Sort.grow (redrawn ((W.alloc (.cells (bdV a b F) 108)).alloc (.cells #[.int .i64 0, .int .i64 0] 30)) dq) osq = w2 at *
  have v1 := t3.c0; have v2 := t3.c1
  have f1 := at_frozen t3 0; have f2 := at_frozen t3 1
  have v5 := (at_store t3 x 0).c1
  have z3 := at_store1 (at_store t3 x 0) y
  have d1 := z3.c0; have d2 := z3.c1
  have hsw : W.heap.size ≤ W.heap.size + 1 := Nat.le_succ _
  have b4 := (b3.setCell (p := ⟨W.heap.size + 1, 0, none⟩) hsw (.int .i64 x)).setCell (p := ⟨W.heap.size + 1, 1, none⟩) hsw (.int .i64 y)
  clear t3 b3 z3 hsw
  go_wp2_with fail
  exact bodyPost_ret (v := (.agg #[.int .i64 (x : Int), .int .i64 (y : Int)])) (by simp [results, Try.results107, go_sem, d1, d2]) rfl ⟨rfl, b4⟩
/-- The neighbors of a point, as the program lists them: up, left, right, down. -/
def nbP (x y : Int) (t : Nat) : Int × Int :=
  match t with
  | 0 => (x, y - 1)
  | 1 => (x - 1, y)
  | 2 => (x + 1, y)
  | _ => (x, y + 1)
def nbA (x y : Int) : Array Value := #[.int .i64 x, .int .i64 (y - 1), .int .i64 (x - 1), .int .i64 y, .int .i64 (x + 1), .int .i64 y, .int .i64 x, .int .i64 (y + 1)]
set_option maxRecDepth 100000 in
theorem nbs_any (x y : Int) (W : World) (hx : -100 ≤ x ∧ x ≤ 100) (hy : -100 ≤ y ∧ y ≤ 100) :
    Calls Try.prog 115 #[(.agg #[.int .i64 x, .int .i64 y])] W fun e w' => e = .returned (.agg (nbA x y)) ∧ Below W.heap.size W w' := by
  have t1 := (at_new W x y 30)
  have e1 : wrap64 (x - 1) = x - 1 := IntWalk.wrap64_in _ (by omega)
  have e2 : wrap64 (x + 1) = x + 1 := IntWalk.wrap64_in _ (by omega)
  have e3 : wrap64 (y - 1) = y - 1 := IntWalk.wrap64_in _ (by omega)
  have e4 : wrap64 (y + 1) = y + 1 := IntWalk.wrap64_in _ (by omega)
  go_enter Try.func115, Try.ntmps115
  go_wp2_with fail
  exact bodyPost_ret (v := .agg (nbA x y)) (results_cell_row rfl _ _ (W.heap.size + 1) 126 (nbA x y) (0, 0) _ rfl (heap_alloc2_new W _ _) Try.underlying126 rfl (by kernel_rfl)) rfl ⟨rfl, below2 _ _ _⟩
end Go.Proofs.Ytncahchhinfneaa

/-! PtFacts -/
namespace Go.Proofs.Ytncahchhinfneaa
open Go.RowKit

theorem cross_flip (ax ay bx by' cx cy : Int) : crossI ax ay bx by' cx cy = -crossI bx by' ax ay cx cy := by
  unfold crossI
  simp only [Int.mul_sub, Int.mul_comm]
  omega
theorem cross_turn (ax ay bx by' cx cy : Int) : crossI ax ay bx by' cx cy = crossI bx by' cx cy ax ay := by
  unfold crossI
  simp only [Int.mul_sub, Int.mul_comm]
  omega
theorem cross_swap (ax ay bx by' cx cy : Int) : crossI ax ay bx by' cx cy = -crossI ax ay cx cy bx by' := by
  unfold crossI
  simp only [Int.mul_sub, Int.mul_comm]
  omega
theorem steps_flip (ax ay bx by' : Int) : stepsN bx by' ax ay = stepsN ax ay bx by' := by
  unfold stepsN
  have h1 : (ax - bx).natAbs = (bx - ax).natAbs := by omega
  have h2 : (ay - by').natAbs = (by' - ay).natAbs := by omega
  rw [h1, h2]
theorem steps_zero (ax ay bx by' : Int) : stepsN ax ay bx by' = 0 ↔ ax = bx ∧ ay = by' := by
  unfold stepsN
  rw [Nat.gcd_eq_zero_iff]
  omega
/-- The steps divide both differences. -/
theorem steps_div (ax ay bx by' : Int) : (stepsN ax ay bx by' : Int) * Int.tdiv (bx - ax) (stepsN ax ay bx by') = bx - ax ∧ (stepsN ax ay bx by' : Int) * Int.tdiv (by' - ay) (stepsN ax ay bx by') = by' - ay := by
  have h1 : (stepsN ax ay bx by' : Int) ∣ bx - ax := Int.ofNat_dvd_left.2 (Nat.gcd_dvd_left _ _)
  have h2 : (stepsN ax ay bx by' : Int) ∣ by' - ay := Int.ofNat_dvd_left.2 (Nat.gcd_dvd_right _ _)
  exact ⟨Int.mul_tdiv_cancel' h1, Int.mul_tdiv_cancel' h2⟩
/-- One step is no multiple. -/
theorem step_one {ax ay bx by' qx qy : Int} {n : Nat} (hn : 0 < n) (e : stepsN ax ay bx by' = n) (hx : (n : Int) * qx = bx - ax) (hy : (n : Int) * qy = by' - ay) : Nat.gcd qx.natAbs qy.natAbs = 1 := by
  have h : Nat.gcd (n * qx.natAbs) (n * qy.natAbs) = n := by
    have e1 : n * qx.natAbs = (bx - ax).natAbs := by rw [← hx, Int.natAbs_mul]; rfl
    have e2 : n * qy.natAbs = (by' - ay).natAbs := by rw [← hy, Int.natAbs_mul]; rfl
    rw [e1, e2]; exact e
  rw [Nat.gcd_mul_left] at h
  exact Nat.eq_of_mul_eq_mul_left hn (by omega)
/-- A point on the way lies on the line, and in the box. -/
theorem cross_way (ax ay qx qy : Int) (n i : Int) : crossI ax ay (ax + n * qx) (ay + n * qy) (ax + qx * i) (ay + qy * i) = 0 := by
  unfold crossI
  have e1 : ax + n * qx - ax = n * qx := by omega
  have e2 : ay + qy * i - ay = qy * i := by omega
  have e3 : ay + n * qy - ay = n * qy := by omega
  have e4 : ax + qx * i - ax = qx * i := by omega
  rw [e1, e2, e3, e4]
  have : n * qx * (qy * i) = n * qy * (qx * i) := by
    rw [Int.mul_assoc, Int.mul_assoc, ← Int.mul_assoc qx, ← Int.mul_assoc qy, Int.mul_comm qx qy]
  omega
theorem box_way (a q : Int) (n i : Nat) (h : i ≤ n) : min a (a + n * q) ≤ a + q * i ∧ a + q * i ≤ max a (a + n * q) := by
  have hi : (i : Int) ≤ n := by omega
  rcases Int.le_total 0 q with hq | hq
  · have h1 : 0 ≤ q * (i : Int) := Int.mul_nonneg hq (by omega)
    have h2 : q * (i : Int) ≤ q * n := Int.mul_le_mul_of_nonneg_left hi hq
    rw [Int.mul_comm q n] at h2
    generalize q * (i : Int) = u at *
    generalize (n : Int) * q = v at *
    omega
  · have h1 : q * (i : Int) ≤ 0 := Int.mul_nonpos_of_nonpos_of_nonneg hq (by omega)
    have h2 : q * (n : Int) ≤ q * i := Int.mul_le_mul_of_nonpos_left hq hi
    rw [Int.mul_comm q n] at h2
    generalize q * (i : Int) = u at *
    generalize (n : Int) * q = v at *
    omega
theorem square_zero (x y : Int) : x * x + y * y = 0 ↔ x = 0 ∧ y = 0 := by
  have h1 : 0 ≤ x * x := by rw [← Int.natAbs_mul_self (a := x)]; omega
  have h2 : 0 ≤ y * y := by rw [← Int.natAbs_mul_self (a := y)]; omega
  constructor
  · intro h
    have e1 : x * x = 0 := by omega
    have e2 : y * y = 0 := by omega
    exact ⟨(Int.mul_eq_zero.1 e1).elim id id, (Int.mul_eq_zero.1 e2).elim id id⟩
  · rintro ⟨rfl, rfl⟩; rfl
theorem sgn_minus (n : Int) : sgn (-n) = -sgn n := by
  rcases sgn_cases n with ⟨h, e⟩ | ⟨h, e⟩ | ⟨h, e⟩
  · rw [e, sgn_neg (by omega)]
  · rw [e, sgn_pos (by omega)]; rfl
  · rw [h]; rfl
theorem sgn_mul_neg (p q : Int) : sgn p * sgn q < 0 ↔ p * q < 0 := by
  rcases sgn_cases p with ⟨h, e⟩ | ⟨h, e⟩ | ⟨h, e⟩ <;> rcases sgn_cases q with ⟨h2, e2⟩ | ⟨h2, e2⟩ | ⟨h2, e2⟩ <;> rw [e, e2]
  · have := Int.mul_pos h h2; constructor <;> omega
  · have := Int.mul_neg_of_pos_of_neg h h2; constructor <;> omega
  · rw [h2]; simp
  · have := Int.mul_neg_of_neg_of_pos h h2; constructor <;> omega
  · have := Int.mul_pos_of_neg_of_neg h h2; constructor <;> omega
  · rw [h2]; simp
  · rw [h]; simp
  · rw [h]; simp
  · rw [h]; simp
/-- What meets depends on the shared ends as a set. -/
theorem same_set {M N : List (Int × Int)} (h : ∀ p, p ∈ M ↔ p ∈ N) : M.isEmpty = N.isEmpty ∧ sameAll M = sameAll N := by
  have key : ∀ M : List (Int × Int), sameAll M = true ↔ ∀ p ∈ M, ∀ q ∈ M, p = q := by
    intro M
    cases M with
    | nil => simp [sameAll]
    | cons x t =>
      simp only [sameAll, List.all_eq_true, Bool.and_eq_true, beq_iff_eq]
      constructor
      · intro h p hp q hq
        have e : ∀ r ∈ x :: t, r = x := fun r hr => by
          rcases List.mem_cons.1 hr with rfl | hr
          · rfl
          · exact Prod.ext (h r hr).1 (h r hr).2
        rw [e p hp, e q hq]
      · intro h y hy
        have := h y (List.mem_cons_of_mem _ hy) x (List.mem_cons_self)
        rw [this]; exact ⟨rfl, rfl⟩
  constructor
  · cases M with
    | nil =>
      cases N with
      | nil => rfl
      | cons y t => exact absurd ((h y).2 (List.mem_cons_self)) (by simp)
    | cons x t =>
      cases N with
      | nil => exact absurd ((h x).1 (List.mem_cons_self)) (by simp)
      | cons y u => rfl
  · have : sameAll M = true ↔ sameAll N = true := by
      rw [key, key]
      constructor
      · intro g p hp q hq; exact g p ((h p).2 hp) q ((h q).2 hq)
      · intro g p hp q hq; exact g p ((h p).1 hp) q ((h q).1 hq)
    cases h1 : sameAll M <;> cases h2 : sameAll N <;> simp_all
theorem meetI_of {a b c d a' b' c' d' : Int × Int} (ho : (opp a b c d && opp c d a b) = (opp a' b' c' d' && opp c' d' a' b')) (h : ∀ p, p ∈ sharedS a b c d ↔ p ∈ sharedS a' b' c' d') : meetI a b c d = meetI a' b' c' d' := by
  unfold meetI
  rw [ho, (same_set h).1, (same_set h).2]
theorem meetI_swap (a b c d : Int × Int) : meetI a b c d = meetI c d a b :=
  meetI_of (Bool.and_comm _ _) fun p => by
    unfold sharedS
    rw [List.mem_append, List.mem_append]
    exact Or.comm
theorem crossP_flip (a b p : Int × Int) : crossP b a p = -crossP a b p := by
  unfold crossP
  rw [cross_flip b.1]
theorem onP_flip (a b p : Int × Int) : onP b a p = onP a b p := by
  have hz : (crossI b.1 b.2 a.1 a.2 p.1 p.2 == 0) = (crossI a.1 a.2 b.1 b.2 p.1 p.2 == 0) := by
    rw [cross_flip b.1]
    cases h : (crossI a.1 a.2 b.1 b.2 p.1 p.2 == 0) <;> simp_all <;> omega
  unfold onP onI boxB
  rw [hz, Int.min_comm b.1, Int.max_comm b.1, Int.min_comm b.2, Int.max_comm b.2]
theorem opp_flip (a b c d : Int × Int) : opp b a d c = opp a b c d := by
  unfold opp
  rw [crossP_flip a b d, crossP_flip a b c, sgn_minus, sgn_minus, Int.neg_mul_neg, Int.mul_comm]
theorem meetI_flip (a b c d : Int × Int) : meetI b a d c = meetI a b c d :=
  meetI_of (by rw [opp_flip a b, opp_flip c d]) fun p => by
    simp only [sharedS, List.mem_append, List.mem_filter, List.mem_cons, List.not_mem_nil, or_false, onP_flip]
    constructor
    · rintro (⟨h1 | h1, h2⟩ | ⟨h1 | h1, h2⟩)
      · exact .inl ⟨.inr h1, h2⟩
      · exact .inl ⟨.inl h1, h2⟩
      · exact .inr ⟨.inr h1, h2⟩
      · exact .inr ⟨.inl h1, h2⟩
    · rintro (⟨h1 | h1, h2⟩ | ⟨h1 | h1, h2⟩)
      · exact .inl ⟨.inr h1, h2⟩
      · exact .inl ⟨.inl h1, h2⟩
      · exact .inr ⟨.inr h1, h2⟩
      · exact .inr ⟨.inl h1, h2⟩
theorem eqQ_comm (a b : Int × Int) : eqQ b a = eqQ a b := by
  unfold eqQ
  rw [Bool.beq_comm (a := b.1), Bool.beq_comm (a := b.2)]
theorem meetV_swap (a b c d : Int × Int) : meetV c d a b = meetV a b c d := by
  unfold meetV
  rw [meetI_swap a b c d]
  cases okQ a <;> cases okQ b <;> cases okQ c <;> cases okQ d <;> cases eqQ a b <;> cases eqQ c d <;> rfl
theorem meetV_flip (a b c d : Int × Int) : meetV b a d c = meetV a b c d := by
  unfold meetV
  rw [meetI_flip a b c d, eqQ_comm a b, eqQ_comm c d]
  cases okQ a <;> cases okQ b <;> cases okQ c <;> cases okQ d <;> cases eqQ a b <;> cases eqQ c d <;> rfl
theorem meetV_along {a b : Int × Int} (ha : okQ a = true) (hb : okQ b = true) (h : eqQ a b = false) : meetV a b b a = 3 := by
  have hn : ¬ a = b := fun e => by rw [e] at h; simp [eqQ] at h
  have h1 : opp a b b a = false := by
    have : crossP a b b = 0 := by simp [crossP, crossI, Int.mul_comm]
    simp [opp, this, sgn]
  have hS : sharedS a b b a = [a, b, b, a] := by
    simp [sharedS, on_left, on_right]
  have hs : sameAll [a, b, b, a] = false := by
    simp only [eqQ] at h
    simp only [sameAll, List.all_cons, List.all_nil]
    rw [Bool.beq_comm (a := b.1), Bool.beq_comm (a := b.2), h]; rfl
  unfold meetV meetI
  rw [ha, hb, h, eqQ_comm a b, h, h1, hS, hs]; rfl
/-- A crossing, by the four cross products. -/
theorem meetV_cross {a b c d : Int × Int} (ha : okQ a = true) (hb : okQ b = true) (hc : okQ c = true) (hd : okQ d = true) :
    (meetV a b c d == 2) = (decide (crossP a b c * crossP a b d < 0) && decide (crossP c d a * crossP c d b < 0)) := by
  have e1 : ∀ a b c d : Int × Int, opp a b c d = decide (crossP a b c * crossP a b d < 0) := fun a b c d => by
    unfold opp; simp only [sgn_mul_neg]
  rw [← e1, ← e1]
  have hz : ∀ a b c d : Int × Int, eqQ a b = true → opp a b c d = false := fun a b c d h => by
    simp only [eqQ, Bool.and_eq_true, beq_iff_eq] at h
    have : ∀ p, crossP a b p = 0 := fun p => by simp [crossP, crossI, h.1, h.2]
    simp [opp, this, sgn]
  unfold meetV
  rw [ha, hb, hc, hd]
  cases h1 : eqQ a b
  · cases h2 : eqQ c d
    · unfold meetI
      cases opp a b c d && opp c d a b <;> cases (sharedS a b c d).isEmpty <;> cases sameAll (sharedS a b c d) <;> rfl
    · rw [hz c d a b h2]; cases opp a b c d <;> rfl
  · rw [hz a b c d h1]; rfl
end Go.Proofs.Ytncahchhinfneaa

/-! Geo -/
namespace Go.Proofs.Ytncahchhinfneaa
open Go.RowKit

theorem mul_signs (x y : Int) : (0 < x → 0 < y → 0 < x * y) ∧ (x < 0 → y < 0 → 0 < x * y) ∧ (0 < x → y < 0 → x * y < 0) ∧ (x < 0 → 0 < y → x * y < 0) ∧ (x = 0 → x * y = 0) ∧ (y = 0 → x * y = 0) := by
  refine ⟨Int.mul_pos, Int.mul_pos_of_neg_of_neg, Int.mul_neg_of_pos_of_neg, Int.mul_neg_of_neg_of_pos, fun h => by rw [h, Int.zero_mul], fun h => by rw [h, Int.mul_zero]⟩
theorem prop_le {p q r s : Nat} (h : p * s = q * r) (hp : 0 < p) (hr : p ≤ r) : q ≤ s := by
  rcases Nat.lt_or_ge s q with h1 | h1
  · exfalso
    have h2 : p * s < p * q := Nat.mul_lt_mul_of_pos_left h1 hp
    have h3 : q * p ≤ q * r := Nat.mul_le_mul_left q hr
    rw [Nat.mul_comm q p] at h3
    omega
  · exact h1
theorem prop_ge {p q r s : Nat} (h : p * s = q * r) (hp : 0 < p) (hr : r ≤ p) : s ≤ q := by
  rcases Nat.lt_or_ge q s with h1 | h1
  · exfalso
    have h2 : p * q < p * s := Nat.mul_lt_mul_of_pos_left h1 hp
    have h3 : q * r ≤ q * p := Nat.mul_le_mul_left q hr
    rw [Nat.mul_comm q p] at h3
    omega
  · exact h1
theorem opp_x {ux uy vx vy : Int} (h : ux * vy = uy * vx) (hx : (0 < ux ∧ vx < 0) ∨ (ux < 0 ∧ 0 < vx)) :
    (0 < uy → vy < 0) ∧ (uy < 0 → 0 < vy) ∧ (uy = 0 → vy = 0) ∧ (ux.natAbs ≤ vx.natAbs → uy.natAbs ≤ vy.natAbs) ∧ (vx.natAbs ≤ ux.natAbs → vy.natAbs ≤ uy.natAbs) := by
  have hn : ux.natAbs * vy.natAbs = uy.natAbs * vx.natAbs := by rw [← Int.natAbs_mul, ← Int.natAbs_mul, h]
  have hp : 0 < ux.natAbs := by omega
  have m1 := mul_signs ux vy
  have m2 := mul_signs uy vx
  rw [h] at m1
  generalize uy * vx = z at *
  refine ⟨?_, ?_, ?_, prop_le hn hp, prop_ge hn hp⟩
  · intro hu
    rcases Int.lt_trichotomy vy 0 with hz | hz | hz
    · exact hz
    · exfalso
      rcases hx with hx | hx
      · have := m2.2.2.1 hu hx.2; have := m1.2.2.2.2.2 hz; omega
      · have := m2.1 hu hx.2; have := m1.2.2.2.2.2 hz; omega
    · exfalso
      rcases hx with hx | hx
      · have := m2.2.2.1 hu hx.2; have := m1.1 hx.1 hz; omega
      · have := m2.1 hu hx.2; have := m1.2.2.2.1 hx.1 hz; omega
  · intro hu
    rcases Int.lt_trichotomy vy 0 with hz | hz | hz
    · exfalso
      rcases hx with hx | hx
      · have := m2.2.1 hu hx.2; have := m1.2.2.1 hx.1 hz; omega
      · have := m2.2.2.2.1 hu hx.2; have := m1.2.1 hx.1 hz; omega
    · exfalso
      rcases hx with hx | hx
      · have := m2.2.1 hu hx.2; have := m1.2.2.2.2.2 hz; omega
      · have := m2.2.2.2.1 hu hx.2; have := m1.2.2.2.2.2 hz; omega
    · exact hz
  · intro hu
    have := m2.2.2.2.2.1 hu
    rcases Int.lt_trichotomy vy 0 with hz | hz | hz
    · exfalso
      rcases hx with hx | hx
      · have := m1.2.2.1 hx.1 hz; omega
      · have := m1.2.1 hx.1 hz; omega
    · exact hz
    · exfalso
      rcases hx with hx | hx
      · have := m1.1 hx.1 hz; omega
      · have := m1.2.2.2.1 hx.1 hz; omega
/-- x is between a and b. -/
def bt (a b x : Int) : Prop := (a ≤ x ∧ x ≤ b) ∨ (b ≤ x ∧ x ≤ a)
/-- Three points 0, u, u + v on a line: one is between the others. -/
theorem between3 {ux uy vx vy : Int} (h : ux * vy = uy * vx) :
    (bt 0 (ux + vx) ux ∧ bt 0 (uy + vy) uy) ∨ (bt ux (ux + vx) 0 ∧ bt uy (uy + vy) 0) ∨ (bt 0 ux (ux + vx) ∧ bt 0 uy (uy + vy)) := by
  unfold bt
  by_cases hx : (0 < ux ∧ vx < 0) ∨ (ux < 0 ∧ 0 < vx)
  · obtain ⟨k1, k2, k3, k4, k5⟩ := opp_x h hx
    right
    rcases Nat.le_total ux.natAbs vx.natAbs with hm | hm
    · have := k4 hm
      left
      constructor
      · omega
      · rcases Int.lt_trichotomy uy 0 with hu | hu | hu
        · have := k2 hu; omega
        · have := k3 hu; omega
        · have := k1 hu; omega
    · have := k5 hm
      right
      constructor
      · omega
      · rcases Int.lt_trichotomy uy 0 with hu | hu | hu
        · have := k2 hu; omega
        · have := k3 hu; omega
        · have := k1 hu; omega
  · by_cases hy : (0 < uy ∧ vy < 0) ∨ (uy < 0 ∧ 0 < vy)
    · obtain ⟨k1, k2, k3, k4, k5⟩ := opp_x h.symm hy
      right
      rcases Nat.le_total uy.natAbs vy.natAbs with hm | hm
      · have := k4 hm
        left
        constructor
        · rcases Int.lt_trichotomy ux 0 with hu | hu | hu
          · have := k2 hu; omega
          · have := k3 hu; omega
          · have := k1 hu; omega
        · omega
      · have := k5 hm
        right
        constructor
        · rcases Int.lt_trichotomy ux 0 with hu | hu | hu
          · have := k2 hu; omega
          · have := k3 hu; omega
          · have := k1 hu; omega
        · omega
    · left
      constructor <;> omega
theorem boxB_iff (ax ay bx by' px py : Int) : boxB ax ay bx by' px py = true ↔ bt ax bx px ∧ bt ay by' py := by
  unfold bt boxB
  simp only [Bool.and_eq_true, inB_spec]
  omega
theorem onP_iff (a b p : Int × Int) : onP a b p = true ↔ crossP a b p = 0 ∧ bt a.1 b.1 p.1 ∧ bt a.2 b.2 p.2 := by
  unfold onP onI crossP
  rw [Bool.and_eq_true, beq_iff_eq, boxB_iff]
/-- One of three points on a line is between the others. -/
theorem on_line {a b c : Int × Int} (h : crossP a b c = 0) : onP a c b = true ∨ onP b c a = true ∨ onP a b c = true := by
  have h' : (b.1 - a.1) * (c.2 - b.2) = (b.2 - a.2) * (c.1 - b.1) := by
    unfold crossP crossI at h
    have e1 : c.2 - a.2 = (b.2 - a.2) + (c.2 - b.2) := by omega
    have e2 : c.1 - a.1 = (b.1 - a.1) + (c.1 - b.1) := by omega
    rw [e1, e2, Int.mul_add, Int.mul_add, Int.mul_comm (b.2 - a.2) (b.1 - a.1)] at h
    omega
  have f1 : crossP a c b = 0 := by
    have := h
    unfold crossP at this ⊢
    rw [cross_swap] at this; omega
  have f2 : crossP b c a = 0 := by
    have := h
    unfold crossP at this ⊢
    rw [cross_turn] at this; exact this
  simp only [onP_iff]
  have := between3 h'
  unfold bt at *
  rcases this with h1 | h1 | h1
  · exact .inl ⟨f1, by omega, by omega⟩
  · exact .inr (.inl ⟨f2, by omega, by omega⟩)
  · exact .inr (.inr ⟨h, by omega, by omega⟩)
theorem eqQ_iff (p q : Int × Int) : eqQ p q = true ↔ p = q := by
  unfold eqQ
  rw [Bool.and_eq_true, beq_iff_eq, beq_iff_eq, Prod.ext_iff]
theorem sameAll_iff (x : Int × Int) (t : List (Int × Int)) : sameAll (x :: t) = true ↔ ∀ y ∈ x :: t, y = x := by
  simp only [sameAll, List.all_eq_true, Bool.and_eq_true, beq_iff_eq]
  constructor
  · intro h y hy
    rcases List.mem_cons.1 hy with rfl | hy
    · rfl
    · exact Prod.ext (h y hy).1 (h y hy).2
  · intro h y hy
    rw [h y (List.mem_cons_of_mem _ hy)]
    exact ⟨rfl, rfl⟩
theorem meet_one {a b c d : Int × Int} (h : meetI a b c d = 1) : ∀ p q, p ∈ sharedS a b c d → q ∈ sharedS a b c d → p = q := by
  unfold meetI at h
  cases h1 : (opp a b c d && opp c d a b)
  · rw [h1] at h
    cases hS : sharedS a b c d with
    | nil => intro p q hp; simp at hp
    | cons x t =>
      rw [hS] at h
      cases h2 : sameAll (x :: t)
      · rw [h2] at h; simp at h
      · have := (sameAll_iff x t).1 h2
        intro p q hp hq
        rw [this p hp, this q hq]
  · rw [h1] at h; simp at h
theorem mem_shared {a b c d p : Int × Int} : p ∈ sharedS a b c d ↔ ((p = a ∨ p = b) ∧ onP c d p = true) ∨ ((p = c ∨ p = d) ∧ onP a b p = true) := by
  simp [sharedS, List.mem_filter]
/-- Two sides that touch at their common corner: on a line only if the corner is between the others. -/
theorem touch_between {a b c : Int × Int} (hab : a ≠ b) (hbc : b ≠ c) (h : meetI a b b c = 1) (hc : crossP a b c = 0) : onP a c b = true := by
  have hb : b ∈ sharedS a b b c := mem_shared.2 (.inl ⟨.inr rfl, on_left b c⟩)
  rcases on_line hc with h1 | h1 | h1
  · exact h1
  · exact absurd (meet_one h a b (mem_shared.2 (.inl ⟨.inl rfl, h1⟩)) hb) hab
  · exact absurd (meet_one h b c hb (mem_shared.2 (.inr ⟨.inr rfl, h1⟩))) hbc

/-! ### A polygon's sides -/
theorem polyB_spec {L : List (Int × Int)} (h : polyB L = true) : (3 ≤ L.length ∧ L.length ≤ 10) ∧ allOk L = true ∧ (∀ i, i < L.length → gt L i ≠ gt L (nx L i)) ∧
    (∀ i k, i < k → k < L.length → pairM L i k = bif adjB L.length i k then 1 else 0) := by
  simp only [polyB, Bool.and_eq_true] at h
  obtain ⟨⟨⟨h1, h2⟩, h3⟩, h4⟩ := h
  have hn := inB_spec.1 h1
  refine ⟨by omega, h2, fun i hi he => ?_, fun i k hi hk => ?_⟩
  · have := List.all_eq_true.1 h3 i (List.mem_range.2 hi)
    rw [show eqQ (gt L i) (gt L ((i + 1) % L.length)) = true from (eqQ_iff _ _).2 he] at this
    simp at this
  · have h5 := List.all_eq_true.1 (List.all_eq_true.1 h4 i (List.mem_range.2 (by omega))) k (List.mem_range.2 hk)
    simp only [Bool.or_eq_true, decide_eq_true_eq] at h5
    rcases h5 with h5 | h5
    · omega
    · unfold pairOk at h5
      cases ha : adjB L.length i k
      · rw [ha] at h5; simpa using h5
      · rw [ha] at h5; simpa using h5
theorem nx_lt {L : List (Int × Int)} (h : 0 < L.length) (i : Nat) : nx L i < L.length := Nat.mod_lt _ h
theorem pv_lt {L : List (Int × Int)} (h : 0 < L.length) (i : Nat) : pv L i < L.length := Nat.mod_lt _ h
theorem nx_eq {L : List (Int × Int)} {i : Nat} (hi : i < L.length) : nx L i = if i + 1 = L.length then 0 else i + 1 := by
  unfold nx
  by_cases h : i + 1 = L.length
  · rw [if_pos h, h, Nat.mod_self]
  · rw [if_neg h, Nat.mod_eq_of_lt (by omega)]
theorem pv_eq {L : List (Int × Int)} {i : Nat} (hi : i < L.length) : pv L i = if i = 0 then L.length - 1 else i - 1 := by
  unfold pv
  by_cases h : i = 0
  · rw [if_pos h, h, Nat.zero_add, Nat.mod_eq_of_lt (by omega)]
  · rw [if_neg h, show i + L.length - 1 = (i - 1) + L.length by omega, Nat.add_mod_right, Nat.mod_eq_of_lt (by omega)]
theorem nx_pv {L : List (Int × Int)} {i : Nat} (hi : i < L.length) : nx L (pv L i) = i := by
  rw [nx_eq (pv_lt (by omega) i), pv_eq hi]
  by_cases h : i = 0
  · rw [if_pos h]; rw [if_pos (by omega)]; omega
  · rw [if_neg h]; rw [if_neg (by omega)]; omega
/-- The side to a corner and the side from it touch. -/
theorem meet_next {L : List (Int × Int)} (h : polyB L = true) {i : Nat} (hi : i < L.length) : meetI (gt L (pv L i)) (gt L i) (gt L i) (gt L (nx L i)) = 1 := by
  obtain ⟨hn, _, _, hp⟩ := polyB_spec h
  by_cases h0 : i = 0
  · subst h0
    have h1 := hp 0 (L.length - 1) (by omega) (by omega)
    have e : adjB L.length 0 (L.length - 1) = true := by simp [adjB]
    rw [e] at h1
    have h2 : nx L (L.length - 1) = 0 := by rw [nx_eq (by omega), if_pos (by omega)]
    have h3 : pv L 0 = L.length - 1 := by rw [pv_eq hi, if_pos rfl]
    rw [h3, meetI_swap]
    unfold pairM at h1
    rw [show (L.length - 1 + 1) % L.length = nx L (L.length - 1) from rfl, h2] at h1
    exact h1
  · have h1 := hp (i - 1) i (by omega) hi
    have e : adjB L.length (i - 1) i = true := by simp [adjB]; omega
    rw [e] at h1
    have h3 : pv L i = i - 1 := by rw [pv_eq hi, if_neg h0]
    rw [h3]
    unfold pairM at h1
    rw [show (i - 1 + 1) % L.length = nx L (i - 1) from rfl, nx_eq (by omega), if_neg (by omega), show i - 1 + 1 = i by omega] at h1
    exact h1
theorem on_bent {L : List (Int × Int)} (h : polyB L = true) {i : Nat} (hi : i < L.length) : onQ (gt L (pv L i)) (gt L (nx L i)) (gt L i) = !(bentB L i) := by
  obtain ⟨hn, hok, hne, _⟩ := polyB_spec h
  rw [onQ_ok (gt_ok hok _) (gt_ok hok _) (gt_ok hok _), bentB, Bool.not_not]
  have h1 := hne (pv L i) (pv_lt (by omega) i)
  rw [nx_pv hi] at h1
  rw [Bool.eq_iff_iff, beq_iff_eq]
  constructor
  · intro h2
    have := ((onP_iff _ _ _).1 h2).1
    unfold crossP at this ⊢
    rw [cross_swap, this]; rfl
  · exact touch_between h1 (hne i hi) (meet_next h hi)
theorem stP_range {L : List (Int × Int)} (h : polyB L = true) : ∀ k, k ≤ L.length → stP L (List.range k) = (if k = 0 then L.length - 1 else k - 1, straightTill L k) := by
  intro k
  induction k with
  | zero => intro _; rfl
  | succ k ih =>
    intro hk
    rw [List.range_succ, stP_snoc, ih (by omega)]
    unfold stStep
    have e : (if k = 0 then L.length - 1 else k - 1) = pv L k := (pv_eq (by omega)).symm
    simp only [e, on_bent h (show k < L.length by omega)]
    rw [if_neg (by omega), show k + 1 - 1 = k by omega, straightTill]
    cases bentB L k <;> rfl
theorem stP_straight {L : List (Int × Int)} (h : polyB L = true) : (stP L (List.range L.length)).2 = straightL L := by
  rw [stP_range h _ (Nat.le_refl _)]; rfl

theorem impl_straight (A : Option Addr) (c : Nat) (L : List (Int × Int)) (w : World) (hA : PtsA w A L) (hL : L.length ≤ 1048576) :
    Calls Try.prog 79 #[.slice A L.length c] w (Lists w (straightV L)) := by
  cases hp : polyB L
  · have HU : Hid (Lists w (straightV L) = fun e w' => ∃ v, e = .returned v ∧ w'.ownsRow w.heap.size 30 2 v 0 [] ∧ Below w.heap.size w w') := by
      show _ = _
      unfold straightV
      rw [hp]; rfl
    have PC := Lib.hid (impl_poly A c L w hA hL)
    rw [hp] at PC
    go_enter Try.func79, Try.ntmps79
    go_wp2_with fail
    refine PC.out.mono ?_
    rintro e w1 ⟨rfl, hb1⟩
    go_wp2_with fail
    go_ret
    rw [HU.out]
    exact ⟨_, rfl, World.ownsRow_nil _ _ _ _, hb1⟩
  · have := impl_straight_yes A c L w hA hp
    rw [stP_straight hp] at this
    unfold straightV
    rw [hp]
    exact this
end Go.Proofs.Ytncahchhinfneaa

/-! Clone -/
namespace Go.Proofs.Ytncahchhinfneaa
open Go.RowKit

theorem ptsA_news {w : World} {g : Nat} {L : List (Int × Int)} (h : PtsA w (some ⟨g, 0, none⟩) L) (k : Nat) : ∀ j u, (flat (L.drop k))[j]? = some u → w.cell? (Addr.add ⟨g, k * 2, none⟩ j) = some u := by
  intro j u hu
  have hj : j < (flat (L.drop k)).length := by
    rcases Nat.lt_or_ge j (flat (L.drop k)).length with h1 | h1
    · exact h1
    · rw [List.getElem?_eq_none h1] at hu; cases hu
  rw [flat_len, List.length_drop] at hj
  have hq : k + j / 2 < L.length := by omega
  obtain ⟨g', hg', h1, h2⟩ := h (k + j / 2) hq
  cases hg'
  have hf := flat_at (L.drop k) (j / 2) (by rw [List.length_drop]; omega)
  have hadd : Addr.add ⟨g, k * 2, none⟩ j = ⟨g, k * 2 + j, none⟩ := by
    unfold Addr.add
    split
    · rename_i h0; subst h0; rfl
    · rfl
  rw [hadd]
  have hd : (L.drop k)[j / 2]'(by rw [List.length_drop]; omega) = L[k + j / 2] := List.getElem_drop ..
  rw [hd] at hf
  rcases Nat.mod_two_eq_zero_or_one j with hm | hm
  · have e : j = j / 2 * 2 := by omega
    have e2 : k * 2 + j = (k + j / 2) * 2 := by omega
    rw [e2, h1, ← hu]
    rw [show (flat (L.drop k))[j]? = (flat (L.drop k))[j / 2 * 2]? from by rw [← e]]
    exact hf.1.symm
  · have e : j = j / 2 * 2 + 1 := by omega
    have e2 : k * 2 + j = (k + j / 2) * 2 + 1 := by omega
    rw [e2, h2, ← hu]
    rw [show (flat (L.drop k))[j]? = (flat (L.drop k))[j / 2 * 2 + 1]? from by rw [← e]]
    exact hf.2.symm
theorem flat_one (L : List (Int × Int)) : ∀ u ∈ flat L, u.oneCell' = true := by
  intro u hu
  simp only [flat, List.mem_flatMap, List.mem_cons, List.not_mem_nil, or_false] at hu
  obtain ⟨p, -, h | h⟩ := hu <;> subst h <;> rfl

set_option maxRecDepth 100000 in
set_option maxHeartbeats 1000000 in
theorem clone_any (A : Option Addr) (c : Nat) (L : List (Int × Int)) (w : World) (hA : PtsA w A L) (h1 : 1 ≤ L.length) (h2 : L.length ≤ 1048576) :
    Calls Try.prog 203 #[.slice A L.length c] w (Lists w L) := by
  obtain ⟨i0, hi0, hz0, hz1, hz2⟩ := info_parts infoPt
  obtain ⟨g, rfl, -⟩ := hA 0 h1
  have HU : Hid (Lists w L = fun e w' => ∃ v, e = .returned v ∧ w'.ownsRow w.heap.size 30 2 v L.length (flat L) ∧ Below w.heap.size w w') := rfl
  have hn := Lib.run_eql_slice_nil (P := Try.prog)
  have own0 := World.ownsRow_lit (base := w.heap.size) (e := 30) (size := 2) w #[] 0 (Nat.le_refl _) (by unfold maxLen; omega) (by rfl)
  have hb0 := below1 w (.cells #[] 30)
  have hA1 := ptsA_on hA hb0
  go_enter Try.func203, Try.ntmps203
  have HN := Lib.hid (ptsA_news hA1 0)
  rw [List.drop_zero, Nat.zero_mul] at HN
  clear hA hA1
  go_wp2_with (at_builtin; refine wpList_append_own _ rfl _ _ 23 rfl w.heap.size 30 i0 (.agg #[.int .i64 0, .int .i64 0]) 2 16 Try.underlying23 hi0 hz0 hz1 hz2 rfl (by decide) _ _ _ rfl own0 ⟨g, 0, none⟩ L.length c (flat L) rfl (flat_len L) HN.out (flat_one L) ?d3 ?d4 (by simp) ?_)
  case d3 => unfold maxLen; omega
  case d4 => omega
  intro v' w6 own6 hgrow _
  have R : Hid (w6.ownsRow w.heap.size 30 2 v' L.length (flat L) ∧ Below w.heap.size w w6) :=
    ⟨by simpa using own6, hb0.grown hgrow (by simp) (fun k hk => (own0.lt k hk).1)⟩
  clear own0 own6 hgrow hb0
  go_wp2_with fail
  go_ret
  rw [HU.out]
  exact ⟨_, rfl, R.out.1, R.out.2⟩

/-! ### slices.Reverse behind the first element -/
/-- After k rounds. -/
def revAt (M : List (Int × Int)) (k t : Nat) : Int × Int := if 1 ≤ t ∧ (t ≤ k ∨ M.length - k ≤ t) then gt M (M.length - t) else gt M t
def revK (M : List (Int × Int)) (k : Nat) : List (Int × Int) := (List.range M.length).map (revAt M k)
theorem revK_len (M : List (Int × Int)) (k : Nat) : (revK M k).length = M.length := by simp [revK]
theorem revK_zero (M : List (Int × Int)) : revK M 0 = M := by
  apply List.ext_getElem (by simp [revK])
  intro t h1 h2
  simp only [revK, List.getElem_map, List.getElem_range, revAt]
  rw [if_neg (by omega), gt_at h2]
theorem revK_all (M : List (Int × Int)) {k : Nat} (h : M.length ≤ 2 * k + 2) (h0 : 1 ≤ M.length) : revK M k = turnL M := by
  apply List.ext_getElem (by simp [revK, turnL, turnTill]; omega)
  intro t h1 h2
  have ht : t < M.length := by simpa [revK] using h1
  simp only [revK, List.getElem_map, List.getElem_range, revAt]
  cases t with
  | zero => rw [if_neg (by omega)]; rfl
  | succ t =>
    have e : (turnL M)[t + 1]'h2 = gt M (M.length - 1 - t) := by simp [turnL, turnTill]
    rw [e]
    by_cases hc : t + 1 ≤ k ∨ M.length - k ≤ t + 1
    · rw [if_pos ⟨by omega, hc⟩]; congr 1; omega
    · rw [if_neg (by omega)]; congr 1; omega
theorem gt_revK (M : List (Int × Int)) (k t : Nat) (ht : t < M.length) : gt (revK M k) t = revAt M k t := by
  rw [gt_at (by rw [revK_len]; exact ht)]
  simp [revK]
theorem revK_step (M : List (Int × Int)) (k : Nat) (h : 2 * k + 2 < M.length) :
    revK M (k + 1) = ((revK M k).set (1 + k) (gt (revK M k) (M.length - 1 - k))).set (M.length - 1 - k) (gt (revK M k) (1 + k)) := by
  rw [gt_revK _ _ _ (by omega), gt_revK _ _ _ (by omega)]
  apply List.ext_getElem (by simp [revK])
  intro t h1 h2
  have ht : t < M.length := by simpa [revK] using h1
  rw [List.getElem_set, List.getElem_set]
  simp only [revK, List.getElem_map, List.getElem_range, revAt]
  by_cases e1 : M.length - 1 - k = t
  · rw [if_pos e1, if_pos (by omega), if_neg (by omega)]; congr 1; omega
  · rw [if_neg e1]
    by_cases e2 : 1 + k = t
    · rw [if_pos e2, if_pos (by omega), if_neg (by omega)]; congr 1; omega
    · rw [if_neg e2]
      by_cases hc : 1 ≤ t ∧ (t ≤ k ∨ M.length - k ≤ t)
      · rw [if_pos (by omega), if_pos hc]
      · rw [if_neg (by omega), if_neg hc]
theorem flat_set1 (M : List (Int × Int)) : ∀ i (p : Int × Int), i < M.length → flat (M.set i p) = ((flat M).set (i * 2) (.int .i64 p.1)).set (i * 2 + 1) (.int .i64 p.2) := by
  induction M with
  | nil => intro i p h; simp at h
  | cons q M ih =>
    intro i p h
    have e : ∀ (r : Int × Int) (N : List (Int × Int)), flat (r :: N) = .int .i64 r.1 :: .int .i64 r.2 :: flat N := fun _ _ => rfl
    cases i with
    | zero => rw [List.set_cons_zero, e, e]; rfl
    | succ i =>
      rw [List.set_cons_succ, e, e, ih i p (by simpa using h)]
      have h1 : (i + 1) * 2 = i * 2 + 1 + 1 := by omega
      have h2 : (i + 1) * 2 + 1 = i * 2 + 1 + 1 + 1 := by omega
      rw [h2, h1]
      simp

theorem pts_own {w : World} {B g n cap : Nat} {L : List (Int × Int)} (h : w.ownsRow B 30 2 (.slice (some ⟨g, 0, none⟩) n cap) n (flat L)) (hn : L.length = n) : ∀ k, k < n → w.cell? ⟨g, k * 2, none⟩ = some (.int .i64 (gt L k).1) ∧ w.cell? ⟨g, k * 2 + 1, none⟩ = some (.int .i64 (gt L k).2) := by
  intro k hk
  have hk' : k < L.length := by omega
  rw [h.cellAt (k * 2) (by omega), h.cellAt (k * 2 + 1) (by omega), gt_at hk']
  exact flat_at L k hk'

theorem grown_drew {w w' : World} {r : Option Nat} (h : w.grownBy w' r) : w.grownBy w'.drew r := ⟨h.os, h.tape, h.output, h.size, h.block⟩
set_option maxRecDepth 100000 in
set_option maxHeartbeats 4000000 in
theorem rev_any (B g cap : Nat) (M : List (Int × Int)) (w : World) (hown : w.ownsRow B 30 2 (.slice (some ⟨g, 0, none⟩) M.length cap) M.length (flat M)) (h1 : 2 ≤ M.length) (h2 : M.length ≤ 1048576) :
    Calls Try.prog 72 #[.slice (some ⟨g, 2, none⟩) (M.length - 1) (cap - 1)] w fun e w' => (∃ v, e = .returned v) ∧ w'.ownsRow B 30 2 (.slice (some ⟨g, 0, none⟩) M.length cap) M.length (flat (turnL M)) ∧ w.grownBy w' (some g) := by
  obtain ⟨n, hn⟩ : ∃ n, n = M.length := ⟨_, rfl⟩
  have HN := Lib.hid hn
  rw [← hn] at hown h1 h2 ⊢
  clear hn
  have f1 : ((n - 1 : Nat) : Int) - 1 = ((n - 2 : Nat) : Int) := by omega
  go_enter Try.func72, Try.ntmps72
  go_wp2_with fail
  go_loopw [2, 3] (fun i j wr => ∃ k q : Nat, i = .int .i64 k ∧ j = .int .i64 q ∧ Hid (k + q + 2 = n ∧ k ≤ q + 1) ∧ wr.ownsRow B 30 2 (.slice (some ⟨g, 0, none⟩) n cap) n (flat (revK M k)) ∧ w.grownBy wr (some g)) (fun i j _ => n - (intOf i).toNat)
  case atStart => exact ⟨0, n - 2, rfl, rfl, ⟨by omega, by omega⟩, by rw [revK_zero]; exact hown, World.grownBy.refl _ _⟩
  case round =>
    obtain ⟨k, q, rfl, rfl, HK, own, hgr⟩ := hrel
    have hk1 := HK.out.1
    by_cases hlt : k < q
    · obtain ⟨x, hx⟩ : ∃ x, x = (gt (revK M k) (1 + k)).1 := ⟨_, rfl⟩
      obtain ⟨y, hy⟩ : ∃ y, y = (gt (revK M k) (1 + k)).2 := ⟨_, rfl⟩
      obtain ⟨x', hx'⟩ : ∃ x', x' = (gt (revK M k) (1 + q)).1 := ⟨_, rfl⟩
      obtain ⟨y', hy'⟩ : ∃ y', y' = (gt (revK M k) (1 + q)).2 := ⟨_, rfl⟩
      have hP := pts_own own (by rw [revK_len]; exact HN.out.symm)
      have p1 := hP (1 + k) (by omega)
      have p2 := hP (1 + q) (by omega)
      rw [← hx, ← hy] at p1
      rw [← hx', ← hy'] at p2
      have e1 : (1 + k) * 2 = 2 + k * 2 := by omega
      have e2 : (1 + q) * 2 = 2 + q * 2 := by omega
      rw [e1] at p1
      rw [e2] at p2
      obtain ⟨c1, c2⟩ := p1
      obtain ⟨c3, c4⟩ := p2
      have f2 := own.frozenAt (2 + k * 2)
      have f3 := own.frozenAt (2 + k * 2 + 1)
      have f4 := own.frozenAt (2 + q * 2)
      have f5 := own.frozenAt (2 + q * 2 + 1)
      have hk2 : (k : Int) < ((n - 1 : Nat) : Int) := by omega
      have hq2 : (q : Int) < ((n - 1 : Nat) : Int) := by omega
      have hml : (revK M k).length = n := by rw [revK_len]; exact HN.out.symm
      have own4 := ((((own.stored (2 + k * 2) (.int .i64 x')).1.stored (2 + k * 2 + 1) (.int .i64 y')).1.stored (2 + q * 2) (.int .i64 x)).1.stored (2 + q * 2 + 1) (.int .i64 y)).1
      have hq1 : M.length - 1 - k = 1 + q := by have := HN.out; omega
      have hstep : revK M (k + 1) = ((revK M k).set (1 + k) (x', y')).set (1 + q) (x, y) := by
        rw [revK_step M k (by have := HN.out; omega), hq1, hx, hy, hx', hy']
      have hflat : ((((flat (revK M k)).set (2 + k * 2) (.int .i64 x')).set (2 + k * 2 + 1) (.int .i64 y')).set (2 + q * 2) (.int .i64 x)).set (2 + q * 2 + 1) (.int .i64 y) = flat (revK M (k + 1)) := by
        rw [hstep, flat_set1 _ _ _ (by rw [List.length_set]; omega), flat_set1 _ _ _ (by omega), e1, e2]
      rw [hflat] at own4
      have hgr4 := only_set (only_set (only_set (only_set hgr (2 + k * 2) (.int .i64 x')) (2 + k * 2 + 1) (.int .i64 y')) (2 + q * 2) (.int .i64 x)) (2 + q * 2 + 1) (.int .i64 y)
      have R := Lib.hid (And.intro own4 hgr4)
      clear own own4 hgr hgr4 hP e1 e2 hx hy hx' hy' hk1 hown hflat hstep hq1 hml
      have hq0 : (0 : Int) ≤ (q : Int) - 1 := by omega
      have g1 : (q : Int) - 1 = ((q - 1 : Nat) : Int) := by omega
      go_wp2_with fail
      go_region
      go_wp2_with fail
      go_roundw
      case rel => exact ⟨k + 1, q - 1, by go_num, by first | rfl | go_num | exact congrArg _ g1, ⟨by have := HK.out.1; omega, by omega⟩, own_drew R.out.1, grown_drew R.out.2⟩
      case measure => simp [intOf]; omega
    · have e : revK M k = turnL M := revK_all M (by have := HN.out; have := HK.out; omega) (by have := HN.out; omega)
      rw [e] at own
      have R := Lib.hid (And.intro own hgr)
      clear own hgr hown hk1 e
      go_wp2_with fail
      go_end0
      exact ⟨⟨_, rfl⟩, R.out.1, R.out.2⟩

theorem own_cap {w : World} {B g n cap : Nat} {e : TypeId} {size : Nat} {xs : List Value} (h : w.ownsRow B e size (.slice (some ⟨g, 0, none⟩) n cap) n xs) : n ≤ cap := by
  rcases h.2 with ⟨h1, _⟩ | ⟨g', cap', cur, hv, hB, hg, h3⟩
  · cases h1
  · simp only [Value.slice.injEq] at hv
    obtain ⟨-, -, rfl⟩ := hv
    exact h3.1

set_option maxRecDepth 100000 in
set_option maxHeartbeats 2000000 in
theorem impl_turn (A : Option Addr) (c : Nat) (L : List (Int × Int)) (w : World) (hA : PtsA w A L) (hL : L.length ≤ 1048576) :
    Calls Try.prog 164 #[.slice A L.length c] w (Lists w (turnV L)) := by
  cases hp : polyB L
  · have HU : Hid (Lists w (turnV L) = fun e w' => ∃ v, e = .returned v ∧ w'.ownsRow w.heap.size 30 2 v 0 [] ∧ Below w.heap.size w w') := by
      show _ = _
      unfold turnV
      rw [hp]; rfl
    have PC := Lib.hid (impl_poly A c L w hA hL)
    rw [hp] at PC
    go_enter Try.func164, Try.ntmps164
    go_wp2_with fail
    refine PC.out.mono ?_
    rintro e w1 ⟨rfl, hb1⟩
    go_wp2_with fail
    go_ret
    rw [HU.out]
    exact ⟨_, rfl, World.ownsRow_nil _ _ _ _, hb1⟩
  · obtain ⟨h3, h10, hok⟩ := polyB_all hp
    have hlen : (turnL L).length = L.length := by simp [turnL, turnTill]; omega
    have HU : Hid (Lists w (turnV L) = fun e w' => ∃ v, e = .returned v ∧ w'.ownsRow w.heap.size 30 2 v L.length (flat (turnL L)) ∧ Below w.heap.size w w') := by
      show _ = _
      unfold turnV
      rw [hp, ← hlen]; rfl
    have PC := Lib.hid (impl_poly A c L w hA hL)
    rw [hp] at PC
    have HC := Lib.hid (fun (W : World) (hb : Below w.heap.size w W) => clone_any A c L W (ptsA_on hA hb) (by omega) hL)
    unfold Lists at HC
    clear hA hlen
    go_enter Try.func164, Try.ntmps164
    go_wp2_with fail
    refine PC.out.mono ?_
    rintro e w1 ⟨rfl, hb1⟩
    go_wp2_with fail
    refine (HC.out _ hb1).mono ?_
    rintro e w2 ⟨v, rfl, own, hb2⟩
    have hb12 := hb1.trans (hb2.mono hb1.size)
    replace own := own_base own hb1.size
    have hv : ∃ g cap, v = .slice (some ⟨g, 0, none⟩) L.length cap := by
      rcases own.2 with ⟨_, h0⟩ | ⟨g, cap, _, rfl, _⟩
      · omega
      · exact ⟨g, cap, rfl⟩
    obtain ⟨g, cap, rfl⟩ := hv
    have hcap := own_cap own
    have hgl := (own.lt g rfl).1
    have HR := Lib.hid (rev_any w.heap.size g cap L w2 own (by omega) hL)
    have hc1 : ¬ cap = 1 := by omega
    have hc2 : ¬ 1 = cap := by omega
    have hl1 : (1 : Int) ≤ (L.length : Int) := by omega
    have hl2 : 1 ≤ L.length := by omega
    clear hb1 hb2 own
    go_wp2_with fail
    refine HR.out.mono ?_
    rintro e w3 ⟨⟨u, rfl⟩, own3, hg3⟩
    have hb3 := hb12.grown hg3 hb12.size (fun k e => by cases e; exact hgl)
    have R := Lib.hid own3
    clear own3 hg3 hb12
    go_wp2_with fail
    go_ret
    rw [HU.out]
    exact ⟨_, rfl, R.out, hb3⟩
end Go.Proofs.Ytncahchhinfneaa

/-! Box -/
namespace Go.Proofs.Ytncahchhinfneaa
open Go.RowKit

def minI (x y : Int) : Int := if y < x then y else x
def maxI (x y : Int) : Int := if x < y then y else x
theorem run_minI (w : World) (x y : Int) (ts : Array TypeId) (t : TypeId) : (Builtin.min_ ts t #[.int .i64 x, .int .i64 y]).run Try.prog w = .ok (.int .i64 (minI x y)) w := by
  simp [go_sem, minI]
theorem run_maxI (w : World) (x y : Int) (ts : Array TypeId) (t : TypeId) : (Builtin.max_ ts t #[.int .i64 x, .int .i64 y]).run Try.prog w = .ok (.int .i64 (maxI x y)) w := by
  simp [go_sem, maxI]
def boxStep (s : (Int × Int) × (Int × Int)) (p : Int × Int) : (Int × Int) × (Int × Int) := ((minI s.1.1 p.1, minI s.1.2 p.2), (maxI s.2.1 p.1, maxI s.2.2 p.2))
def boxTill (L : List (Int × Int)) : Nat → (Int × Int) × (Int × Int)
  | 0 => (gt L 0, gt L 0)
  | k + 1 => boxStep (boxTill L k) (gt L k)
def ptV (p : Int × Int) : Value := .agg #[.int .i64 p.1, .int .i64 p.2]
def boxR (L : List (Int × Int)) : Value := bif polyB L then .tuple #[ptV (boxTill L L.length).1, ptV (boxTill L L.length).2, .bool true] else .tuple #[ptV (0, 0), ptV (0, 0), .bool false]


set_option maxRecDepth 100000 in
set_option maxHeartbeats 4000000 in
theorem impl_box (A : Option Addr) (c : Nat) (L : List (Int × Int)) (w : World) (hA : PtsA w A L) (hL : L.length ≤ 1048576) :
    Calls Try.prog 95 #[.slice A L.length c] w fun e w' => e = .returned (boxR L) ∧ Below w.heap.size w w' := by
  have hb0 := below2 w (.cells #[.int .i64 0, .int .i64 0] 30) (.cells #[.int .i64 0, .int .i64 0] 30)
  have PC := Lib.hid (fun (W : World) (hb : Below w.heap.size w W) => impl_poly A c L W (ptsA_on hA hb) hL)
  have a1 := (at_new w 0 0 30).alloc (.cells #[.int .i64 0, .int .i64 0] 30)
  have a2 := at_new (w.alloc (.cells #[.int .i64 0, .int .i64 0] 30)) 0 0 30
  rw [size_alloc] at a2
  cases hp : polyB L
  · have HR : Hid (boxR L = .tuple #[.agg #[.int .i64 0, .int .i64 0], .agg #[.int .i64 0, .int .i64 0], .bool false]) := by
      show _ = _
      rw [boxR, hp]; rfl
    rw [hp] at PC
    clear hA
    go_enter Try.func95, Try.ntmps95
    go_wp2_with fail
    refine (PC.out _ hb0).mono ?_
    rintro e w1 ⟨rfl, hb1⟩
    have b1 := hb0.trans (hb1.mono hb0.size)
    have r1 := a1.step hb1
    have r2 := a2.step hb1
    have c1 := r1.c0; have c2 := r1.c1; have c3 := r2.c0; have c4 := r2.c1
    have f1 := at_frozen r1 0; have f2 := at_frozen r1 1; have f3 := at_frozen r2 0; have f4 := at_frozen r2 1
    have e1 := at_store1 (at_store r1 0 0) 0
    have e2 := at_set (at_set r2 (b := w.heap.size) (by omega) 0 (.int .i64 0)) (b := w.heap.size) (by omega) 1 (.int .i64 0)
    have e3 := at_store1 (at_store e2 0 0) 0
    have e4 := at_set (at_set e1 (b := w.heap.size + 1) (by omega) 0 (.int .i64 0)) (b := w.heap.size + 1) (by omega) 1 (.int .i64 0)
    have q1 := e2.c0; have q2 := e2.c1; have q3 := at_frozen e2 0; have q4 := at_frozen e2 1
    have d1 := e4.c0; have d2 := e4.c1; have d3 := e3.c0; have d4 := e3.c1
    have hsw : w.heap.size ≤ w.heap.size + 1 := Nat.le_succ _
    have bE := (((b1.setCell (p := ⟨w.heap.size, 0, none⟩) (Nat.le_refl _) (.int .i64 0)).setCell (p := ⟨w.heap.size, 1, none⟩) (Nat.le_refl _) (.int .i64 0)).setCell (p := ⟨w.heap.size + 1, 0, none⟩) hsw (.int .i64 0)).setCell (p := ⟨w.heap.size + 1, 1, none⟩) hsw (.int .i64 0)
    clear hb1 b1 r1 r2 e1 e2 e3 e4
    go_wp2_with fail
    exact bodyPost_ret (v := .tuple #[.agg #[.int .i64 0, .int .i64 0], .agg #[.int .i64 0, .int .i64 0], .bool false]) (by simp [results, Try.results95, go_sem, d1, d2, d3, d4]) rfl ⟨by rw [HR.out], bE⟩
  · obtain ⟨h3, h10, hok⟩ := polyB_all hp
    obtain ⟨g, rfl, -⟩ := hA 0 (by omega)
    have hmin : ∀ (w : World) (x y : Int) (ts : Array TypeId) (t : TypeId), (Builtin.min_ ts t #[.int .i64 x, .int .i64 y]).run Try.prog w = .ok (.int .i64 (minI x y)) w := run_minI
    have hmax : ∀ (w : World) (x y : Int) (ts : Array TypeId) (t : TypeId), (Builtin.max_ ts t #[.int .i64 x, .int .i64 y]).run Try.prog w = .ok (.int .i64 (maxI x y)) w := run_maxI
    have HR : Hid (boxR L = .tuple #[ptV (boxTill L L.length).1, ptV (boxTill L L.length).2, .bool true]) := by
      show _ = _
      rw [boxR, hp]; rfl
    rw [hp] at PC
    go_enter Try.func95, Try.ntmps95
    go_wp2_with fail
    refine (PC.out _ hb0).mono ?_
    rintro e w1 ⟨rfl, hb1⟩
    have b1 := hb0.trans (hb1.mono hb0.size)
    have hs1 : w.heap.size + 2 ≤ w1.heap.size := by have := hb1.size; simp at this; omega
    have r1 := a1.step hb1
    have r2 := a2.step hb1
    have HA := Lib.hid (ptsA_on hA b1)
    obtain ⟨c1, c2⟩ := gt_cells HA.out (i := 0) (by omega)
    simp only [Nat.zero_mul, Nat.zero_add] at c1 c2
    obtain ⟨X, hX⟩ : ∃ X, X = (gt L 0).1 := ⟨_, rfl⟩
    obtain ⟨Y, hY⟩ : ∃ Y, Y = (gt L 0).2 := ⟨_, rfl⟩
    have H0 : Hid (boxTill L 0 = ((X, Y), (X, Y))) := by
      show _ = _
      rw [hX, hY]; rfl
    rw [← hX] at c1; rw [← hY] at c2
    have d1 := cell_on (below1 w1 (.cells #[.int .i64 X, .int .i64 Y] 30)) rfl c1
    have d2 := cell_on (below1 w1 (.cells #[.int .i64 X, .int .i64 Y] 30)) rfl c2
    have hn1 : (0 : Int) < (L.length : Int) := by omega
    have m1 := fun o => cell_on (below1 w1 o) rfl c1
    have m2 := fun o => cell_on (below1 w1 o) rfl c2
    have m3 := fun o p => cell_on (below2 w1 o p) rfl c1
    have m4 := fun o p => cell_on (below2 w1 o p) rfl c2
    clear hX hY hA hb1 hb0 a1 a2 PC d1 d2
    go_wp2_with fail
    go_region
    · go_wp2_with fail
      obtain ⟨W, hW⟩ : ∃ W, W = ((w1.alloc (.cells #[.int .i64 X, .int .i64 Y] 30)).alloc (.cells #[.int .i64 X, .int .i64 Y] 30)).drew := ⟨_, rfl⟩
      have aL : At W (w1.heap.size) X Y 30 := by rw [hW]; exact (at_new w1 X Y 30).alloc _
      have aH : At W (w1.heap.size + 1) X Y 30 := by rw [hW]; have := at_new (w1.alloc (.cells #[.int .i64 X, .int .i64 Y] 30)) X Y 30; rwa [size_alloc] at this
      have z3 : At W w.heap.size 0 0 30 := by rw [hW]; exact (r1.alloc _).alloc _
      have z4 : At W (w.heap.size + 1) 0 0 30 := by rw [hW]; exact (r2.alloc _).alloc _
      have b3 : Below w.heap.size w W := by rw [hW]; exact (b1.trans ((below2 w1 _ _).mono (by omega))).drew
      have b13 : Below w1.heap.size w1 W := by rw [hW]; exact (below2 w1 _ _).drew
      rw [← hW]
      clear hW c1 c2 r1 r2 b1 m1 m2 m3 m4
      go_loopw [22] (fun i wr => ∃ k : Nat, k ≤ L.length ∧ i = .int .i64 k ∧ At wr (w1.heap.size) (boxTill L k).1.1 (boxTill L k).1.2 30 ∧ At wr (w1.heap.size + 1) (boxTill L k).2.1 (boxTill L k).2.2 30 ∧ At wr w.heap.size 0 0 30 ∧ At wr (w.heap.size + 1) 0 0 30 ∧ Below w.heap.size w wr ∧ Below w1.heap.size w1 wr) (fun i _ => L.length - (intOf i).toNat)
      case atStart => exact ⟨0, Nat.zero_le _, rfl, by rw [H0.out]; exact aL, by rw [H0.out]; exact aH, z3, z4, b3, b13⟩
      case round =>
        clear aL aH z3 z4 b3 b13
        obtain ⟨k, hk, rfl, aL, aH, z3, z4, b3, b13⟩ := hrel
        by_cases hlt : k < L.length
        · obtain ⟨c1, c2⟩ := gt_cells (ptsA_on HA.out b13) hlt
          have HS : Hid (boxTill L (k + 1) = boxStep (boxTill L k) (gt L k)) := rfl
          have hsk := b13.size
          obtain ⟨x, hx⟩ : ∃ x, x = (gt L k).1 := ⟨_, rfl⟩
          obtain ⟨y, hy⟩ : ∃ y, y = (gt L k).2 := ⟨_, rfl⟩
          obtain ⟨lx, hlx⟩ : ∃ lx, lx = (boxTill L k).1.1 := ⟨_, rfl⟩
          obtain ⟨ly, hly⟩ : ∃ ly, ly = (boxTill L k).1.2 := ⟨_, rfl⟩
          obtain ⟨hx', hhx⟩ : ∃ hx', hx' = (boxTill L k).2.1 := ⟨_, rfl⟩
          obtain ⟨hy', hhy⟩ : ∃ hy', hy' = (boxTill L k).2.2 := ⟨_, rfl⟩
          have HT : Hid (boxTill L (k + 1) = ((minI lx x, minI ly y), (maxI hx' x, maxI hy' y))) := by
            show _ = _
            rw [HS.out, hx, hy, hlx, hly, hhx, hhy]; rfl
          rw [← hx] at c1; rw [← hy] at c2; rw [← hlx, ← hly] at aL; rw [← hhx, ← hhy] at aH
          clear hx hy hlx hly hhx hhy HS
          have hl1 := aL.lt
          have hl2 := aH.lt
          have a0 := at_new wr x y 30
          have aL1 := aL.alloc (.cells #[.int .i64 x, .int .i64 y] 30)
          have aH1 := aH.alloc (.cells #[.int .i64 x, .int .i64 y] 30)
          have y3 := z3.alloc (.cells #[.int .i64 x, .int .i64 y] 30)
          have y4 := z4.alloc (.cells #[.int .i64 x, .int .i64 y] 30)
          have bb := b3.alloc b3.size (.cells #[.int .i64 x, .int .i64 y] 30)
          have bb13 := b13.alloc hsk (.cells #[.int .i64 x, .int .i64 y] 30)
          have l1 := aL1.c0; have l2 := aL1.c1; have p1 := a0.c0; have p2 := a0.c1
          have g1 := at_frozen aL1 0; have g2 := at_frozen aL1 1
          have aL2 := at_store1 (at_store aL1 (minI lx x) 0) (minI ly y)
          have aH2 := at_set (at_set aH1 (b := w1.heap.size) (by omega) 0 (.int .i64 (minI lx x))) (b := w1.heap.size) (by omega) 1 (.int .i64 (minI ly y))
          have a02 := at_set (at_set a0 (b := w1.heap.size) (by omega) 0 (.int .i64 (minI lx x))) (b := w1.heap.size) (by omega) 1 (.int .i64 (minI ly y))
          have l3 := (at_store aL1 (minI lx x) 0).c1
          have h1 := aH2.c0; have h2 := aH2.c1; have p3 := a02.c0; have p4 := a02.c1
          have g3 := at_frozen aH2 0; have g4 := at_frozen aH2 1
          have h4 := (at_store aH2 (maxI hx' x) 0).c1
          have aH3 := at_store1 (at_store aH2 (maxI hx' x) 0) (maxI hy' y)
          have aL3 := at_set (at_set aL2 (b := w1.heap.size + 1) (by omega) 0 (.int .i64 (maxI hx' x))) (b := w1.heap.size + 1) (by omega) 1 (.int .i64 (maxI hy' y))
          have y3' := at_set (at_set (at_set (at_set y3 (b := w1.heap.size) (by omega) 0 (.int .i64 (minI lx x))) (b := w1.heap.size) (by omega) 1 (.int .i64 (minI ly y))) (b := w1.heap.size + 1) (by omega) 0 (.int .i64 (maxI hx' x))) (b := w1.heap.size + 1) (by omega) 1 (.int .i64 (maxI hy' y))
          have y4' := at_set (at_set (at_set (at_set y4 (b := w1.heap.size) (by omega) 0 (.int .i64 (minI lx x))) (b := w1.heap.size) (by omega) 1 (.int .i64 (minI ly y))) (b := w1.heap.size + 1) (by omega) 0 (.int .i64 (maxI hx' x))) (b := w1.heap.size + 1) (by omega) 1 (.int .i64 (maxI hy' y))
          have hle1 : w.heap.size ≤ w1.heap.size := by omega
          have hle2 : w.heap.size ≤ w1.heap.size + 1 := by omega
          have hle3 : w1.heap.size ≤ w1.heap.size := by omega
          have hle4 : w1.heap.size ≤ w1.heap.size + 1 := by omega
          have bb' := (((bb.setCell (p := ⟨w1.heap.size, 0, none⟩) hle1 (.int .i64 (minI lx x))).setCell (p := ⟨w1.heap.size, 1, none⟩) hle1 (.int .i64 (minI ly y))).setCell (p := ⟨w1.heap.size + 1, 0, none⟩) hle2 (.int .i64 (maxI hx' x))).setCell (p := ⟨w1.heap.size + 1, 1, none⟩) hle2 (.int .i64 (maxI hy' y))
          have bb13' := (((bb13.setCell (p := ⟨w1.heap.size, 0, none⟩) hle3 (.int .i64 (minI lx x))).setCell (p := ⟨w1.heap.size, 1, none⟩) hle3 (.int .i64 (minI ly y))).setCell (p := ⟨w1.heap.size + 1, 0, none⟩) hle4 (.int .i64 (maxI hx' x))).setCell (p := ⟨w1.heap.size + 1, 1, none⟩) hle4 (.int .i64 (maxI hy' y))
          have R := Lib.hid (And.intro aL3 (And.intro aH3 (And.intro y3' (And.intro y4' (And.intro bb' bb13')))))
          have d1 := cell_on (below1 wr (.cells #[.int .i64 x, .int .i64 y] 30)) rfl c1
          have d2 := cell_on (below1 wr (.cells #[.int .i64 x, .int .i64 y] 30)) rfl c2
          clear aL aH z3 z4 b3 b13 aL1 aH1 y3 y4 bb bb13 aL2 aH2 a02 aH3 aL3 y3' y4' bb' bb13' a0 hl1 hl2 hle1 hle2 hle3 hle4
          go_wp2_with fail
          go_roundw
          case rel => exact ⟨k + 1, by omega, by go_num, by rw [HT.out]; exact R.out.1, by rw [HT.out]; exact R.out.2.1, R.out.2.2.1, R.out.2.2.2.1, R.out.2.2.2.2.1, R.out.2.2.2.2.2⟩
          case measure => simp [intOf]; omega
        · obtain rfl : k = L.length := by omega
          obtain ⟨lx, hlx⟩ : ∃ lx, lx = (boxTill L L.length).1.1 := ⟨_, rfl⟩
          obtain ⟨ly, hly⟩ : ∃ ly, ly = (boxTill L L.length).1.2 := ⟨_, rfl⟩
          obtain ⟨hx', hhx⟩ : ∃ hx', hx' = (boxTill L L.length).2.1 := ⟨_, rfl⟩
          obtain ⟨hy', hhy⟩ : ∃ hy', hy' = (boxTill L L.length).2.2 := ⟨_, rfl⟩
          have HT : Hid (boxR L = .tuple #[.agg #[.int .i64 lx, .int .i64 ly], .agg #[.int .i64 hx', .int .i64 hy'], .bool true]) := by
            show _ = _
            rw [HR.out, hlx, hly, hhx, hhy]; rfl
          rw [← hlx, ← hly] at aL; rw [← hhx, ← hhy] at aH
          clear hlx hly hhx hhy
          have l1 := aL.c0; have l2 := aL.c1; have h1 := aH.c0; have h2 := aH.c1
          have f1 := at_frozen z3 0; have f2 := at_frozen z3 1; have f3 := at_frozen z4 0; have f4 := at_frozen z4 1
          have v1 := z3.c0; have v2 := z3.c1; have v3 := z4.c0; have v4 := z4.c1
          have v5 := (at_store z3 lx 0).c1
          have e1 := at_store1 (at_store z3 lx 0) ly
          have e2 := at_set (at_set z4 (b := w.heap.size) (by omega) 0 (.int .i64 lx)) (b := w.heap.size) (by omega) 1 (.int .i64 ly)
          have q1 := e2.c0; have q2 := e2.c1; have q3 := at_frozen e2 0; have q4 := at_frozen e2 1
          have q5 := (at_store e2 hx' 0).c1
          have e3 := at_store1 (at_store e2 hx' 0) hy'
          have e4 := at_set (at_set e1 (b := w.heap.size + 1) (by omega) 0 (.int .i64 hx')) (b := w.heap.size + 1) (by omega) 1 (.int .i64 hy')
          have d1 := e4.c0; have d2 := e4.c1; have d3 := e3.c0; have d4 := e3.c1
          have hsw : w.heap.size ≤ w.heap.size + 1 := Nat.le_succ _
          have bE := (((b3.setCell (p := ⟨w.heap.size, 0, none⟩) (Nat.le_refl _) (.int .i64 lx)).setCell (p := ⟨w.heap.size, 1, none⟩) (Nat.le_refl _) (.int .i64 ly)).setCell (p := ⟨w.heap.size + 1, 0, none⟩) hsw (.int .i64 hx')).setCell (p := ⟨w.heap.size + 1, 1, none⟩) hsw (.int .i64 hy')
          have R := Lib.hid (And.intro bE.drew (And.intro e3 e4))
          clear aL aH z3 z4 b3 b13 e1 e2 e3 e4 bE HR
          go_wp2_with fail
          go_region
          go_wp2_with fail
          exact bodyPost_ret (v := .tuple #[.agg #[.int .i64 lx, .int .i64 ly], .agg #[.int .i64 hx', .int .i64 hy'], .bool true]) (by simp [results, Try.results95, go_sem, d1, d2, d3, d4]) rfl ⟨by rw [HT.out], R.out.1⟩
    · go_wp2_with fail
      obtain ⟨W, hW⟩ : ∃ W, W = ((w1.alloc (.cells #[.int .i64 X, .int .i64 Y] 30)).alloc (.cells #[.int .i64 X, .int .i64 Y] 30)).drew := ⟨_, rfl⟩
      have aL : At W (w1.heap.size + 1) X Y 30 := by rw [hW]; have := at_new (w1.alloc (.cells #[.int .i64 X, .int .i64 Y] 30)) X Y 30; rwa [size_alloc] at this
      have aH : At W (w1.heap.size) X Y 30 := by rw [hW]; exact (at_new w1 X Y 30).alloc _
      have z3 : At W w.heap.size 0 0 30 := by rw [hW]; exact (r1.alloc _).alloc _
      have z4 : At W (w.heap.size + 1) 0 0 30 := by rw [hW]; exact (r2.alloc _).alloc _
      have b3 : Below w.heap.size w W := by rw [hW]; exact (b1.trans ((below2 w1 _ _).mono (by omega))).drew
      have b13 : Below w1.heap.size w1 W := by rw [hW]; exact (below2 w1 _ _).drew
      rw [← hW]
      clear hW c1 c2 r1 r2 b1 m1 m2 m3 m4
      go_loopw [22] (fun i wr => ∃ k : Nat, k ≤ L.length ∧ i = .int .i64 k ∧ At wr (w1.heap.size + 1) (boxTill L k).1.1 (boxTill L k).1.2 30 ∧ At wr (w1.heap.size) (boxTill L k).2.1 (boxTill L k).2.2 30 ∧ At wr w.heap.size 0 0 30 ∧ At wr (w.heap.size + 1) 0 0 30 ∧ Below w.heap.size w wr ∧ Below w1.heap.size w1 wr) (fun i _ => L.length - (intOf i).toNat)
      case atStart => exact ⟨0, Nat.zero_le _, rfl, by rw [H0.out]; exact aL, by rw [H0.out]; exact aH, z3, z4, b3, b13⟩
      case round =>
        clear aL aH z3 z4 b3 b13
        obtain ⟨k, hk, rfl, aL, aH, z3, z4, b3, b13⟩ := hrel
        by_cases hlt : k < L.length
        · obtain ⟨c1, c2⟩ := gt_cells (ptsA_on HA.out b13) hlt
          have HS : Hid (boxTill L (k + 1) = boxStep (boxTill L k) (gt L k)) := rfl
          have hsk := b13.size
          obtain ⟨x, hx⟩ : ∃ x, x = (gt L k).1 := ⟨_, rfl⟩
          obtain ⟨y, hy⟩ : ∃ y, y = (gt L k).2 := ⟨_, rfl⟩
          obtain ⟨lx, hlx⟩ : ∃ lx, lx = (boxTill L k).1.1 := ⟨_, rfl⟩
          obtain ⟨ly, hly⟩ : ∃ ly, ly = (boxTill L k).1.2 := ⟨_, rfl⟩
          obtain ⟨hx', hhx⟩ : ∃ hx', hx' = (boxTill L k).2.1 := ⟨_, rfl⟩
          obtain ⟨hy', hhy⟩ : ∃ hy', hy' = (boxTill L k).2.2 := ⟨_, rfl⟩
          have HT : Hid (boxTill L (k + 1) = ((minI lx x, minI ly y), (maxI hx' x, maxI hy' y))) := by
            show _ = _
            rw [HS.out, hx, hy, hlx, hly, hhx, hhy]; rfl
          rw [← hx] at c1; rw [← hy] at c2; rw [← hlx, ← hly] at aL; rw [← hhx, ← hhy] at aH
          clear hx hy hlx hly hhx hhy HS
          have hl1 := aL.lt
          have hl2 := aH.lt
          have a0 := at_new wr x y 30
          have aL1 := aL.alloc (.cells #[.int .i64 x, .int .i64 y] 30)
          have aH1 := aH.alloc (.cells #[.int .i64 x, .int .i64 y] 30)
          have y3 := z3.alloc (.cells #[.int .i64 x, .int .i64 y] 30)
          have y4 := z4.alloc (.cells #[.int .i64 x, .int .i64 y] 30)
          have bb := b3.alloc b3.size (.cells #[.int .i64 x, .int .i64 y] 30)
          have bb13 := b13.alloc hsk (.cells #[.int .i64 x, .int .i64 y] 30)
          have l1 := aL1.c0; have l2 := aL1.c1; have p1 := a0.c0; have p2 := a0.c1
          have g1 := at_frozen aL1 0; have g2 := at_frozen aL1 1
          have aL2 := at_store1 (at_store aL1 (minI lx x) 0) (minI ly y)
          have aH2 := at_set (at_set aH1 (b := w1.heap.size + 1) (by omega) 0 (.int .i64 (minI lx x))) (b := w1.heap.size + 1) (by omega) 1 (.int .i64 (minI ly y))
          have a02 := at_set (at_set a0 (b := w1.heap.size + 1) (by omega) 0 (.int .i64 (minI lx x))) (b := w1.heap.size + 1) (by omega) 1 (.int .i64 (minI ly y))
          have l3 := (at_store aL1 (minI lx x) 0).c1
          have h1 := aH2.c0; have h2 := aH2.c1; have p3 := a02.c0; have p4 := a02.c1
          have g3 := at_frozen aH2 0; have g4 := at_frozen aH2 1
          have h4 := (at_store aH2 (maxI hx' x) 0).c1
          have aH3 := at_store1 (at_store aH2 (maxI hx' x) 0) (maxI hy' y)
          have aL3 := at_set (at_set aL2 (b := w1.heap.size) (by omega) 0 (.int .i64 (maxI hx' x))) (b := w1.heap.size) (by omega) 1 (.int .i64 (maxI hy' y))
          have y3' := at_set (at_set (at_set (at_set y3 (b := w1.heap.size + 1) (by omega) 0 (.int .i64 (minI lx x))) (b := w1.heap.size + 1) (by omega) 1 (.int .i64 (minI ly y))) (b := w1.heap.size) (by omega) 0 (.int .i64 (maxI hx' x))) (b := w1.heap.size) (by omega) 1 (.int .i64 (maxI hy' y))
          have y4' := at_set (at_set (at_set (at_set y4 (b := w1.heap.size + 1) (by omega) 0 (.int .i64 (minI lx x))) (b := w1.heap.size + 1) (by omega) 1 (.int .i64 (minI ly y))) (b := w1.heap.size) (by omega) 0 (.int .i64 (maxI hx' x))) (b := w1.heap.size) (by omega) 1 (.int .i64 (maxI hy' y))
          have hle1 : w.heap.size ≤ w1.heap.size + 1 := by omega
          have hle2 : w.heap.size ≤ w1.heap.size := by omega
          have hle3 : w1.heap.size ≤ w1.heap.size + 1 := by omega
          have hle4 : w1.heap.size ≤ w1.heap.size := by omega
          have bb' := (((bb.setCell (p := ⟨w1.heap.size + 1, 0, none⟩) hle1 (.int .i64 (minI lx x))).setCell (p := ⟨w1.heap.size + 1, 1, none⟩) hle1 (.int .i64 (minI ly y))).setCell (p := ⟨w1.heap.size, 0, none⟩) hle2 (.int .i64 (maxI hx' x))).setCell (p := ⟨w1.heap.size, 1, none⟩) hle2 (.int .i64 (maxI hy' y))
          have bb13' := (((bb13.setCell (p := ⟨w1.heap.size + 1, 0, none⟩) hle3 (.int .i64 (minI lx x))).setCell (p := ⟨w1.heap.size + 1, 1, none⟩) hle3 (.int .i64 (minI ly y))).setCell (p := ⟨w1.heap.size, 0, none⟩) hle4 (.int .i64 (maxI hx' x))).setCell (p := ⟨w1.heap.size, 1, none⟩) hle4 (.int .i64 (maxI hy' y))
          have R := Lib.hid (And.intro aL3 (And.intro aH3 (And.intro y3' (And.intro y4' (And.intro bb' bb13')))))
          have d1 := cell_on (below1 wr (.cells #[.int .i64 x, .int .i64 y] 30)) rfl c1
          have d2 := cell_on (below1 wr (.cells #[.int .i64 x, .int .i64 y] 30)) rfl c2
          clear aL aH z3 z4 b3 b13 aL1 aH1 y3 y4 bb bb13 aL2 aH2 a02 aH3 aL3 y3' y4' bb' bb13' a0 hl1 hl2 hle1 hle2 hle3 hle4
          go_wp2_with fail
          go_roundw
          case rel => exact ⟨k + 1, by omega, by go_num, by rw [HT.out]; exact R.out.1, by rw [HT.out]; exact R.out.2.1, R.out.2.2.1, R.out.2.2.2.1, R.out.2.2.2.2.1, R.out.2.2.2.2.2⟩
          case measure => simp [intOf]; omega
        · obtain rfl : k = L.length := by omega
          obtain ⟨lx, hlx⟩ : ∃ lx, lx = (boxTill L L.length).1.1 := ⟨_, rfl⟩
          obtain ⟨ly, hly⟩ : ∃ ly, ly = (boxTill L L.length).1.2 := ⟨_, rfl⟩
          obtain ⟨hx', hhx⟩ : ∃ hx', hx' = (boxTill L L.length).2.1 := ⟨_, rfl⟩
          obtain ⟨hy', hhy⟩ : ∃ hy', hy' = (boxTill L L.length).2.2 := ⟨_, rfl⟩
          have HT : Hid (boxR L = .tuple #[.agg #[.int .i64 lx, .int .i64 ly], .agg #[.int .i64 hx', .int .i64 hy'], .bool true]) := by
            show _ = _
            rw [HR.out, hlx, hly, hhx, hhy]; rfl
          rw [← hlx, ← hly] at aL; rw [← hhx, ← hhy] at aH
          clear hlx hly hhx hhy
          have l1 := aL.c0; have l2 := aL.c1; have h1 := aH.c0; have h2 := aH.c1
          have f1 := at_frozen z3 0; have f2 := at_frozen z3 1; have f3 := at_frozen z4 0; have f4 := at_frozen z4 1
          have v1 := z3.c0; have v2 := z3.c1; have v3 := z4.c0; have v4 := z4.c1
          have v5 := (at_store z3 lx 0).c1
          have e1 := at_store1 (at_store z3 lx 0) ly
          have e2 := at_set (at_set z4 (b := w.heap.size) (by omega) 0 (.int .i64 lx)) (b := w.heap.size) (by omega) 1 (.int .i64 ly)
          have q1 := e2.c0; have q2 := e2.c1; have q3 := at_frozen e2 0; have q4 := at_frozen e2 1
          have q5 := (at_store e2 hx' 0).c1
          have e3 := at_store1 (at_store e2 hx' 0) hy'
          have e4 := at_set (at_set e1 (b := w.heap.size + 1) (by omega) 0 (.int .i64 hx')) (b := w.heap.size + 1) (by omega) 1 (.int .i64 hy')
          have d1 := e4.c0; have d2 := e4.c1; have d3 := e3.c0; have d4 := e3.c1
          have hsw : w.heap.size ≤ w.heap.size + 1 := Nat.le_succ _
          have bE := (((b3.setCell (p := ⟨w.heap.size, 0, none⟩) (Nat.le_refl _) (.int .i64 lx)).setCell (p := ⟨w.heap.size, 1, none⟩) (Nat.le_refl _) (.int .i64 ly)).setCell (p := ⟨w.heap.size + 1, 0, none⟩) hsw (.int .i64 hx')).setCell (p := ⟨w.heap.size + 1, 1, none⟩) hsw (.int .i64 hy')
          have R := Lib.hid (And.intro bE.drew (And.intro e3 e4))
          clear aL aH z3 z4 b3 b13 e1 e2 e3 e4 bE HR
          go_wp2_with fail
          go_region
          go_wp2_with fail
          exact bodyPost_ret (v := .tuple #[.agg #[.int .i64 lx, .int .i64 ly], .agg #[.int .i64 hx', .int .i64 hy'], .bool true]) (by simp [results, Try.results95, go_sem, d1, d2, d3, d4]) rfl ⟨by rw [HT.out], R.out.1⟩
end Go.Proofs.Ytncahchhinfneaa

/-! Mot -/
namespace Go.Proofs.Ytncahchhinfneaa
open Go.RowKit

def mot (m : Nat) (p : Int × Int) : Int × Int :=
  match m with
  | 0 => p
  | 1 => (-p.2, p.1)
  | 2 => (-p.1, -p.2)
  | 3 => (p.2, -p.1)
  | 4 => (-p.1, p.2)
  | 5 => (-p.2, -p.1)
  | 6 => (p.1, -p.2)
  | _ => (p.2, p.1)
def turnT : Nat → Int × Int → Int × Int
  | 0, p => p
  | k + 1, p => (-(turnT k p).2, (turnT k p).1)
def mirr (m : Nat) (p : Int × Int) : Int × Int := if 4 ≤ m then (-p.1, p.2) else p
theorem mot_turn {m : Nat} (hm : m < 8) (p : Int × Int) : turnT (m % 4) (mirr m p) = mot m p := by
  match m, hm with
  | 0, _ => simp [turnT, mirr, mot]
  | 1, _ => simp [turnT, mirr, mot]
  | 2, _ => simp [turnT, mirr, mot]
  | 3, _ => simp [turnT, mirr, mot]
  | 4, _ => simp [turnT, mirr, mot]
  | 5, _ => simp [turnT, mirr, mot]
  | 6, _ => simp [turnT, mirr, mot]
  | 7, _ => simp [turnT, mirr, mot]
  | k + 8, h => omega
theorem turnT_bd {B : Int} {p : Int × Int} (h : -B ≤ p.1 ∧ p.1 ≤ B ∧ -B ≤ p.2 ∧ p.2 ≤ B) : ∀ k, -B ≤ (turnT k p).1 ∧ (turnT k p).1 ≤ B ∧ -B ≤ (turnT k p).2 ∧ (turnT k p).2 ≤ B
  | 0 => h
  | k + 1 => by have := turnT_bd h k; simp only [turnT]; omega
theorem mirr_bd {B : Int} {p : Int × Int} (m : Nat) (h : -B ≤ p.1 ∧ p.1 ≤ B ∧ -B ≤ p.2 ∧ p.2 ≤ B) : -B ≤ (mirr m p).1 ∧ (mirr m p).1 ≤ B ∧ -B ≤ (mirr m p).2 ∧ (mirr m p).2 ≤ B := by
  unfold mirr; split
  · simp only; omega
  · exact h
theorem mot_bd {B : Int} {p : Int × Int} {m : Nat} (hm : m < 8) (h : -B ≤ p.1 ∧ p.1 ≤ B ∧ -B ≤ p.2 ∧ p.2 ≤ B) : -B ≤ (mot m p).1 ∧ (mot m p).1 ≤ B ∧ -B ≤ (mot m p).2 ∧ (mot m p).2 ≤ B := by
  rw [← mot_turn hm]; exact turnT_bd (mirr_bd m h) _

set_option maxRecDepth 100000 in
set_option maxHeartbeats 1000000 in
theorem apply_any (x y : Int) (m : Nat) (w : World) (hm : m < 8) (h : -1000 ≤ x ∧ x ≤ 1000 ∧ -1000 ≤ y ∧ y ≤ 1000) :
    Calls Try.prog 178 #[(.agg #[.int .i64 x, .int .i64 y]), .int .i64 m] w fun e w' => e = .returned (.agg #[.int .i64 (mot m (x, y)).1, .int .i64 (mot m (x, y)).2]) ∧ Below w.heap.size w w' := by
  have HM := Lib.hid (mot_turn hm (x, y))
  obtain ⟨P, hP⟩ : ∃ P, P = mirr m (x, y) := ⟨_, rfl⟩
  have HB : Hid (∀ k, -1000 ≤ (turnT k P).1 ∧ (turnT k P).1 ≤ 1000 ∧ -1000 ≤ (turnT k P).2 ∧ (turnT k P).2 ≤ 1000) := by
    show ∀ k, _
    rw [hP]; exact turnT_bd (mirr_bd m (p := (x, y)) h)
  have HP : Hid (P = if 4 ≤ m then (-x, y) else (x, y)) := hP
  rw [← hP] at HM
  obtain ⟨r, hr⟩ : ∃ r, r = m % 4 := ⟨_, rfl⟩
  have hr4 : r < 4 := by omega
  have e1 : Int.tmod (m : Int) 4 = (r : Int) := by rw [hr]; exact tmod_nat m 4
  rw [← hr] at HM
  clear hr hP
  have hn1 : wrap64 (-x) = -x := IntWalk.wrap64_in _ (by omega)
  by_cases h4 : 4 ≤ m
  · have h4' : (4 : Int) ≤ (m : Int) := by omega
    have HQ : Hid (P = ((-x), y)) := by
      show _ = _
      rw [HP.out, if_pos h4]
    have a2 := (at_new w (-x) y 30).alloc (.cells #[.int .i64 0, .int .i64 0] 30)
    have z2 := at_new (w.alloc (.cells #[.int .i64 (-x), .int .i64 y] 30)) 0 0 30
    rw [size_alloc] at z2
    have b2 := below2 w (.cells #[.int .i64 (-x), .int .i64 y] 30) (.cells #[.int .i64 0, .int .i64 0] 30)
    go_enter Try.func178, Try.ntmps178
    go_wp2_with fail
    generalize (w.alloc (.cells #[.int .i64 (-x), .int .i64 y] 30)).alloc (.cells #[.int .i64 0, .int .i64 0] 30) = W at *
    clear h4 h4' HP hn1 h
    go_loopw [5] (fun i wr => ∃ k : Nat, k ≤ r ∧ i = .int .i64 k ∧ At wr w.heap.size (turnT k P).1 (turnT k P).2 30 ∧ At wr (w.heap.size + 1) 0 0 30 ∧ Below w.heap.size w wr) (fun i _ => r - (intOf i).toNat)
    case atStart => exact ⟨0, Nat.zero_le _, rfl, by rw [HQ.out]; exact a2, z2, b2⟩
    case round =>
      clear a2 z2 b2
      obtain ⟨k, hk, rfl, a2, z2, b2⟩ := hrel
      by_cases hlt : k < r
      · have hb := HB.out k
        have HS : Hid (turnT (k + 1) P = (-(turnT k P).2, (turnT k P).1)) := rfl
        generalize (turnT k P).1 = u at *
        generalize (turnT k P).2 = v at *
        have hn : wrap64 (-v) = -v := IntWalk.wrap64_in _ (by omega)
        have c1 := a2.c0; have c2 := a2.c1
        have f1 := at_frozen a2 0; have f2 := at_frozen a2 1
        have a3 := at_store1 (at_store a2 (-v) 0) u
        have z3 := at_set (at_set z2 (b := w.heap.size) (by omega) 0 (.int .i64 (-v))) (b := w.heap.size) (by omega) 1 (.int .i64 u)
        have b3 := (b2.setCell (p := ⟨w.heap.size, 0, none⟩) (Nat.le_refl _) (.int .i64 (-v))).setCell (p := ⟨w.heap.size, 1, none⟩) (Nat.le_refl _) (.int .i64 u)
        have v5 := (at_store a2 (-v) 0).c1
        have R := Lib.hid (And.intro a3 (And.intro z3 b3))
        clear a2 z2 b2 a3 z3 b3 hb
        go_wp2_with fail
        go_roundw
        case rel => exact ⟨k + 1, by omega, by go_num, by rw [HS.out]; exact R.out.1, R.out.2.1, R.out.2.2⟩
        case measure => simp [intOf]; omega
      · obtain rfl : k = r := by omega
        rw [HM.out] at a2
        obtain ⟨u, hu⟩ : ∃ u, u = (mot m (x, y)).1 := ⟨_, rfl⟩
        obtain ⟨v, hv⟩ : ∃ v, v = (mot m (x, y)).2 := ⟨_, rfl⟩
        rw [← hu, ← hv] at a2
        have HE : Hid (Value.agg #[.int .i64 (mot m (x, y)).1, .int .i64 (mot m (x, y)).2] = .agg #[.int .i64 u, .int .i64 v]) := by
          show _ = _
          rw [hu, hv]
        clear hu hv HM HB
        have c1 := a2.c0; have c2 := a2.c1
        have f1 := at_frozen z2 0; have f2 := at_frozen z2 1
        have v5 := (at_store z2 u 0).c1
        have v6 := z2.c0; have v7 := z2.c1
        have z3 := at_store1 (at_store z2 u 0) v
        have d1 := z3.c0; have d2 := z3.c1
        have hsw : w.heap.size ≤ w.heap.size + 1 := Nat.le_succ _
        have b3 := (b2.setCell (p := ⟨w.heap.size + 1, 0, none⟩) hsw (.int .i64 u)).setCell (p := ⟨w.heap.size + 1, 1, none⟩) hsw (.int .i64 v)
        clear a2 z2 b2 z3
        go_wp2_with fail
        exact bodyPost_ret (v := .agg #[.int .i64 u, .int .i64 v]) (by simp [results, Try.results178, go_sem, d1, d2]) rfl ⟨by rw [HE.out], b3⟩
  · have h4' : ¬ (4 : Int) ≤ (m : Int) := by omega
    have HQ : Hid (P = (x, y)) := by
      show _ = _
      rw [HP.out, if_neg h4]
    have a2 := (at_new w x y 30).alloc (.cells #[.int .i64 0, .int .i64 0] 30)
    have z2 := at_new (w.alloc (.cells #[.int .i64 x, .int .i64 y] 30)) 0 0 30
    rw [size_alloc] at z2
    have b2 := below2 w (.cells #[.int .i64 x, .int .i64 y] 30) (.cells #[.int .i64 0, .int .i64 0] 30)
    go_enter Try.func178, Try.ntmps178
    go_wp2_with fail
    generalize (w.alloc (.cells #[.int .i64 x, .int .i64 y] 30)).alloc (.cells #[.int .i64 0, .int .i64 0] 30) = W at *
    clear h4 h4' HP hn1 h
    go_loopw [5] (fun i wr => ∃ k : Nat, k ≤ r ∧ i = .int .i64 k ∧ At wr w.heap.size (turnT k P).1 (turnT k P).2 30 ∧ At wr (w.heap.size + 1) 0 0 30 ∧ Below w.heap.size w wr) (fun i _ => r - (intOf i).toNat)
    case atStart => exact ⟨0, Nat.zero_le _, rfl, by rw [HQ.out]; exact a2, z2, b2⟩
    case round =>
      clear a2 z2 b2
      obtain ⟨k, hk, rfl, a2, z2, b2⟩ := hrel
      by_cases hlt : k < r
      · have hb := HB.out k
        have HS : Hid (turnT (k + 1) P = (-(turnT k P).2, (turnT k P).1)) := rfl
        generalize (turnT k P).1 = u at *
        generalize (turnT k P).2 = v at *
        have hn : wrap64 (-v) = -v := IntWalk.wrap64_in _ (by omega)
        have c1 := a2.c0; have c2 := a2.c1
        have f1 := at_frozen a2 0; have f2 := at_frozen a2 1
        have a3 := at_store1 (at_store a2 (-v) 0) u
        have z3 := at_set (at_set z2 (b := w.heap.size) (by omega) 0 (.int .i64 (-v))) (b := w.heap.size) (by omega) 1 (.int .i64 u)
        have b3 := (b2.setCell (p := ⟨w.heap.size, 0, none⟩) (Nat.le_refl _) (.int .i64 (-v))).setCell (p := ⟨w.heap.size, 1, none⟩) (Nat.le_refl _) (.int .i64 u)
        have v5 := (at_store a2 (-v) 0).c1
        have R := Lib.hid (And.intro a3 (And.intro z3 b3))
        clear a2 z2 b2 a3 z3 b3 hb
        go_wp2_with fail
        go_roundw
        case rel => exact ⟨k + 1, by omega, by go_num, by rw [HS.out]; exact R.out.1, R.out.2.1, R.out.2.2⟩
        case measure => simp [intOf]; omega
      · obtain rfl : k = r := by omega
        rw [HM.out] at a2
        obtain ⟨u, hu⟩ : ∃ u, u = (mot m (x, y)).1 := ⟨_, rfl⟩
        obtain ⟨v, hv⟩ : ∃ v, v = (mot m (x, y)).2 := ⟨_, rfl⟩
        rw [← hu, ← hv] at a2
        have HE : Hid (Value.agg #[.int .i64 (mot m (x, y)).1, .int .i64 (mot m (x, y)).2] = .agg #[.int .i64 u, .int .i64 v]) := by
          show _ = _
          rw [hu, hv]
        clear hu hv HM HB
        have c1 := a2.c0; have c2 := a2.c1
        have f1 := at_frozen z2 0; have f2 := at_frozen z2 1
        have v5 := (at_store z2 u 0).c1
        have v6 := z2.c0; have v7 := z2.c1
        have z3 := at_store1 (at_store z2 u 0) v
        have d1 := z3.c0; have d2 := z3.c1
        have hsw : w.heap.size ≤ w.heap.size + 1 := Nat.le_succ _
        have b3 := (b2.setCell (p := ⟨w.heap.size + 1, 0, none⟩) hsw (.int .i64 u)).setCell (p := ⟨w.heap.size + 1, 1, none⟩) hsw (.int .i64 v)
        clear a2 z2 b2 z3
        go_wp2_with fail
        exact bodyPost_ret (v := .agg #[.int .i64 u, .int .i64 v]) (by simp [results, Try.results178, go_sem, d1, d2]) rfl ⟨by rw [HE.out], b3⟩
end Go.Proofs.Ytncahchhinfneaa

/-! Cyc -/
namespace Go.Proofs.Ytncahchhinfneaa

/-- A point at a fraction of the way. -/
theorem frac_bt {m q b e f : Int} (hm : 0 < m) (h0 : 0 ≤ q) (h1 : q ≤ m) (h : m * (b - e) = q * (f - e)) : bt e f b := by
  rcases Int.le_total e f with hf | hf
  · left
    have a1 : 0 ≤ q * (f - e) := Int.mul_nonneg h0 (by omega)
    have a2 : q * (f - e) ≤ m * (f - e) := Int.mul_le_mul_of_nonneg_right h1 (by omega)
    rw [← h] at a1 a2
    constructor
    · have := Int.le_of_mul_le_mul_left (a := m) (b := 0) (c := b - e) (by omega) hm; omega
    · have := Int.le_of_mul_le_mul_left a2 hm; omega
  · right
    have a1 : 0 ≤ q * (e - f) := Int.mul_nonneg h0 (by omega)
    have a2 : q * (e - f) ≤ m * (e - f) := Int.mul_le_mul_of_nonneg_right h1 (by omega)
    have e1 : q * (e - f) = m * (e - b) := by grind
    rw [e1] at a1 a2
    constructor
    · have := Int.le_of_mul_le_mul_left a2 hm; omega
    · have := Int.le_of_mul_le_mul_left (a := m) (b := 0) (c := e - b) (by omega) hm; omega
/-- b is at q / (p + q) of the way from a to c. -/
structure Wt (a c b : Int × Int) (p q : Int) : Prop where
  p0 : 0 ≤ p
  q0 : 0 ≤ q
  pq : 0 < p + q
  e1 : (p + q) * b.1 = p * a.1 + q * c.1
  e2 : (p + q) * b.2 = p * a.2 + q * c.2
theorem on_wt {a c b : Int × Int} (h : onP a c b = true) (hac : a ≠ c) : ∃ p q, Wt a c b p q := by
  obtain ⟨h1, h2, h3⟩ := (onP_iff _ _ _).1 h
  obtain ⟨ax, ay⟩ := a
  obtain ⟨bx, by'⟩ := b
  obtain ⟨cx, cy⟩ := c
  simp only [crossP, crossI] at h1 h2 h3
  have hne : ¬ (ax = cx ∧ ay = cy) := fun e => hac (by rw [e.1, e.2])
  unfold bt at h2 h3
  rcases Int.le_total ax cx with hx | hx <;> rcases Int.le_total ay cy with hy | hy
  · exact ⟨(cx - bx) + (cy - by'), (bx - ax) + (by' - ay), by omega, by omega, by omega, by grind, by grind⟩
  · exact ⟨(cx - bx) + (by' - cy), (bx - ax) + (ay - by'), by omega, by omega, by omega, by grind, by grind⟩
  · exact ⟨(bx - cx) + (cy - by'), (ax - bx) + (by' - ay), by omega, by omega, by omega, by grind, by grind⟩
  · exact ⟨(bx - cx) + (by' - cy), (ax - bx) + (ay - by'), by omega, by omega, by omega, by grind, by grind⟩
theorem Wt.ne_a {a c b : Int × Int} {p q : Int} (h : Wt a c b p q) (hb : b ≠ a) : 0 < q := by
  rcases Int.lt_or_eq_of_le h.q0 with h1 | h1
  · exact h1
  · exfalso
    subst h1
    have := h.pq
    have e1 := h.e1
    have e2 := h.e2
    simp only [Int.add_zero, Int.zero_mul] at e1 e2 this
    exact hb (Prod.ext (Int.eq_of_mul_eq_mul_left (by omega) e1) (Int.eq_of_mul_eq_mul_left (by omega) e2))
theorem Wt.ne_c {a c b : Int × Int} {p q : Int} (h : Wt a c b p q) (hb : b ≠ c) : 0 < p := by
  rcases Int.lt_or_eq_of_le h.p0 with h1 | h1
  · exact h1
  · exfalso
    subst h1
    have := h.pq
    have e1 := h.e1
    have e2 := h.e2
    simp only [Int.zero_add, Int.zero_mul] at e1 e2 this
    exact hb (Prod.ext (Int.eq_of_mul_eq_mul_left (by omega) e1) (Int.eq_of_mul_eq_mul_left (by omega) e2))
theorem Wt.cross3 {a c b : Int × Int} {p q : Int} (h : Wt a c b p q) (e f : Int × Int) : (p + q) * crossP e f b = p * crossP e f a + q * crossP e f c := by
  have e1 := h.e1
  have e2 := h.e2
  simp only [crossP, crossI]
  grind
theorem Wt.cross_ab {a c b : Int × Int} {p q : Int} (h : Wt a c b p q) (e : Int × Int) : (p + q) * crossP a b e = q * crossP a c e := by
  have e1 := h.e1
  have e2 := h.e2
  simp only [crossP, crossI]
  grind
theorem Wt.cross_bc {a c b : Int × Int} {p q : Int} (h : Wt a c b p q) (e : Int × Int) : (p + q) * crossP b c e = p * crossP a c e := by
  have e1 := h.e1
  have e2 := h.e2
  simp only [crossP, crossI]
  grind
theorem mul_zero_of {m x : Int} (hm : 0 < m) (h : m * x = 0) : x = 0 := by
  rcases Int.mul_eq_zero.1 h with h1 | h1
  · omega
  · exact h1
/-- What is on the whole is on one of the parts. -/
theorem on_part {a c b e : Int × Int} (hb : onP a c b = true) (he : onP a c e = true) : onP a b e = true ∨ onP b c e = true := by
  by_cases hac : a = c
  · subst hac
    left
    obtain ⟨_, h2, h3⟩ := (onP_iff _ _ _).1 he
    have : e = a := by unfold bt at h2 h3; exact Prod.ext (by omega) (by omega)
    rw [this]; exact on_left _ _
  obtain ⟨p, q, hw⟩ := on_wt hb hac
  obtain ⟨b1, b2, b3⟩ := (onP_iff _ _ _).1 hb
  obtain ⟨e1, e2, e3⟩ := (onP_iff _ _ _).1 he
  have c1 : crossP a b e = 0 := mul_zero_of hw.pq (by rw [hw.cross_ab, e1, Int.mul_zero])
  have c2 : crossP b c e = 0 := mul_zero_of hw.pq (by rw [hw.cross_bc, e1, Int.mul_zero])
  rcases on_line c1 with h | h | h
  · right
    obtain ⟨_, h2, h3⟩ := (onP_iff _ _ _).1 h
    exact (onP_iff _ _ _).2 ⟨c2, by unfold bt at *; omega, by unfold bt at *; omega⟩
  · obtain ⟨_, h2, h3⟩ := (onP_iff _ _ _).1 h
    have k1 : a.1 = b.1 ∨ a.1 = e.1 := by unfold bt at *; omega
    have k2 : a.2 = b.2 ∨ a.2 = e.2 := by unfold bt at *; omega
    have hba : b = a → onP b c e = true := fun h => by rw [h]; exact he
    have hea : e = a → onP a b e = true := fun h => by rw [h]; exact on_left _ _
    unfold crossP crossI at b1 e1
    rcases k1 with k1 | k1 <;> rcases k2 with k2 | k2
    · exact .inr (hba (Prod.ext k1.symm k2.symm))
    · have : (c.1 - a.1) * (b.2 - a.2) = 0 := by grind
      rcases Int.mul_eq_zero.1 this with h4 | h4
      · exact .inl (hea (Prod.ext (by unfold bt at *; omega) k2.symm))
      · exact .inr (hba (Prod.ext k1.symm (by omega)))
    · have : (c.2 - a.2) * (b.1 - a.1) = 0 := by grind
      rcases Int.mul_eq_zero.1 this with h4 | h4
      · exact .inl (hea (Prod.ext k1.symm (by unfold bt at *; omega)))
      · exact .inr (hba (Prod.ext (by omega) k2.symm))
    · exact .inl (hea (Prod.ext k1.symm k2.symm))
  · exact .inl h
/-- What is on a part is on the whole. -/
theorem on_whole {a c b e : Int × Int} (hac : a ≠ c) (hb : onP a c b = true) (he : onP a b e = true) : onP a c e = true := by
  by_cases hba : b = a
  · subst hba
    obtain ⟨_, h2, h3⟩ := (onP_iff _ _ _).1 he
    have : e = b := by unfold bt at h2 h3; exact Prod.ext (by omega) (by omega)
    rw [this]; exact on_left _ _
  obtain ⟨p, q, hw⟩ := on_wt hb hac
  have hq := hw.ne_a hba
  obtain ⟨b1, b2, b3⟩ := (onP_iff _ _ _).1 hb
  obtain ⟨e1, e2, e3⟩ := (onP_iff _ _ _).1 he
  have c1 : crossP a c e = 0 := mul_zero_of hq (by rw [← hw.cross_ab, e1, Int.mul_zero])
  exact (onP_iff _ _ _).2 ⟨c1, by unfold bt at *; omega, by unfold bt at *; omega⟩
theorem on_flip (a b p : Int × Int) : onP b a p = onP a b p := by
  rw [Bool.eq_iff_iff, onP_iff, onP_iff, crossP_flip]
  unfold bt
  constructor <;> (rintro ⟨h1, h2, h3⟩; exact ⟨by omega, by omega, by omega⟩)
theorem meet_zero {a b c d : Int × Int} : meetI a b c d = 0 ↔ (opp a b c d && opp c d a b) = false ∧ onP c d a = false ∧ onP c d b = false ∧ onP a b c = false ∧ onP a b d = false := by
  unfold meetI
  have hs : (sharedS a b c d).isEmpty = (!(onP c d a) && !(onP c d b) && !(onP a b c) && !(onP a b d)) := by
    simp only [sharedS, List.filter_cons, List.filter_nil]
    cases onP c d a <;> cases onP c d b <;> cases onP a b c <;> cases onP a b d <;> rfl
  cases opp a b c d && opp c d a b
  · rw [hs]
    cases onP c d a <;> cases onP c d b <;> cases onP a b c <;> cases onP a b d <;> simp
    all_goals (cases sameAll (sharedS a b c d) <;> simp)
  · simp
theorem sgn_tri (n : Int) : (0 < n ∧ sgn n = 1) ∨ (n = 0 ∧ sgn n = 0) ∨ (n < 0 ∧ sgn n = -1) := by
  unfold sgn
  rcases Int.lt_trichotomy n 0 with h | h | h
  · right; right; exact ⟨h, by rw [if_neg (by omega), if_pos h]⟩
  · right; left; exact ⟨h, by rw [if_neg (by omega), if_neg (by omega)]⟩
  · left; exact ⟨h, by rw [if_pos h]⟩
theorem opp_iff (a b c d : Int × Int) : opp a b c d = true ↔ (0 < crossP a b c ∧ crossP a b d < 0) ∨ (crossP a b c < 0 ∧ 0 < crossP a b d) := by
  unfold opp
  rw [decide_eq_true_eq]
  rcases sgn_tri (crossP a b c) with ⟨h1, h2⟩ | ⟨h1, h2⟩ | ⟨h1, h2⟩ <;> rcases sgn_tri (crossP a b d) with ⟨h3, h4⟩ | ⟨h3, h4⟩ | ⟨h3, h4⟩ <;> rw [h2, h4] <;> omega
/-- Lines that cross: their common point is on a segment whose ends are on both sides. -/
theorem on_crossing {a c e f b : Int × Int} (h1 : crossP a c b = 0) (h2 : crossP e f b = 0) (ho : opp a c e f = true) : onP e f b = true := by
  rw [onP_iff]
  refine ⟨h2, ?_, ?_⟩
  · rcases (opp_iff _ _ _ _).1 ho with ⟨k1, k2⟩ | ⟨k1, k2⟩
    · exact frac_bt (m := crossP a c e - crossP a c f) (q := crossP a c e) (by omega) (by omega) (by omega) (by unfold crossP crossI at *; grind)
    · exact frac_bt (m := crossP a c f - crossP a c e) (q := -crossP a c e) (by omega) (by omega) (by omega) (by unfold crossP crossI at *; grind)
  · rcases (opp_iff _ _ _ _).1 ho with ⟨k1, k2⟩ | ⟨k1, k2⟩
    · exact frac_bt (m := crossP a c e - crossP a c f) (q := crossP a c e) (by omega) (by omega) (by omega) (by unfold crossP crossI at *; grind)
    · exact frac_bt (m := crossP a c f - crossP a c e) (q := -crossP a c e) (by omega) (by omega) (by omega) (by unfold crossP crossI at *; grind)
theorem pos_of_mul {m x y q : Int} (hm : 0 < m) (hq : 0 < q) (h : m * x = q * y) : (0 < y → 0 < x) ∧ (y < 0 → x < 0) := by
  constructor
  · intro hy
    have : 0 < m * x := by rw [h]; exact Int.mul_pos hq hy
    rcases Int.lt_trichotomy x 0 with h1 | h1 | h1
    · have := Int.mul_neg_of_pos_of_neg hm h1; omega
    · rw [h1, Int.mul_zero] at this; omega
    · exact h1
  · intro hy
    have : m * x < 0 := by rw [h]; exact Int.mul_neg_of_pos_of_neg hq hy
    rcases Int.lt_trichotomy x 0 with h1 | h1 | h1
    · exact h1
    · rw [h1, Int.mul_zero] at this; omega
    · have := Int.mul_pos hm h1; omega
/-- **Two parts that a segment does not meet: the whole does not, either.** -/
theorem meet_merge {a c b e f : Int × Int} (hb : onP a c b = true) (hba : b ≠ a) (hbc : b ≠ c) (h1 : meetI a b e f = 0) (h2 : meetI b c e f = 0) : meetI a c e f = 0 := by
  have hac : a ≠ c := by
    intro h
    subst h
    obtain ⟨_, k2, k3⟩ := (onP_iff _ _ _).1 hb
    exact hba (by unfold bt at k2 k3; exact Prod.ext (by omega) (by omega))
  obtain ⟨p, q, hw⟩ := on_wt hb hac
  have hp := hw.ne_c hbc
  have hq := hw.ne_a hba
  obtain ⟨o1, x1, x2, x3, x4⟩ := meet_zero.1 h1
  obtain ⟨o2, y1, y2, y3, y4⟩ := meet_zero.1 h2
  rw [meet_zero]
  refine ⟨?_, x1, y2, ?_, ?_⟩
  · cases ho : (opp a c e f && opp e f a c)
    · rfl
    · exfalso
      rw [Bool.and_eq_true] at ho
      obtain ⟨k1, k2⟩ := ho
      have hB := hw.cross3 e f
      rw [Bool.and_eq_false_iff] at o1 o2
      have n1 : opp a b e f = true := by
        have g1 := pos_of_mul hw.pq hq (hw.cross_ab e)
        have g2 := pos_of_mul hw.pq hq (hw.cross_ab f)
        rw [opp_iff] at k1 ⊢
        rcases k1 with k1 | k1
        · exact .inl ⟨g1.1 k1.1, g2.2 k1.2⟩
        · exact .inr ⟨g1.2 k1.1, g2.1 k1.2⟩
      have n2 : opp b c e f = true := by
        have g1 := pos_of_mul hw.pq hp (hw.cross_bc e)
        have g2 := pos_of_mul hw.pq hp (hw.cross_bc f)
        rw [opp_iff] at k1 ⊢
        rcases k1 with k1 | k1
        · exact .inl ⟨g1.1 k1.1, g2.2 k1.2⟩
        · exact .inr ⟨g1.2 k1.1, g2.1 k1.2⟩
      have m1 : ¬ opp e f a b = true := fun h => by rcases o1 with o | o <;> simp_all
      have m2 : ¬ opp e f b c = true := fun h => by rcases o2 with o | o <;> simp_all
      rw [opp_iff] at m1 m2 k2
      have hz : crossP e f b = 0 := by omega
      have hcb : crossP a c b = 0 := ((onP_iff _ _ _).1 hb).1
      have := on_crossing hcb hz k1
      rw [this] at x2
      cases x2
  · cases h : onP a c e
    · rfl
    · rcases on_part hb h with h3 | h3
      · rw [x3] at h3; cases h3
      · rw [y3] at h3; cases h3
  · cases h : onP a c f
    · rfl
    · rcases on_part hb h with h3 | h3
      · rw [x4] at h3; cases h3
      · rw [y4] at h3; cases h3
end Go.Proofs.Ytncahchhinfneaa

/-! Ring -/
namespace Go.Proofs.Ytncahchhinfneaa
open Go.RowKit

abbrev Pt := Int × Int
def consec (l : List Pt) : List (Pt × Pt) := l.zip l.tail
def sidesL : List Pt → List (Pt × Pt)
  | [] => []
  | x :: xs => consec (x :: xs ++ [x])
def Good (L : List Pt) : Prop := (3 ≤ L.length ∧ L.length ≤ 10) ∧ allOk L = true ∧ L.Nodup ∧ ∀ s ∈ sidesL L, ∀ t ∈ sidesL L, s ≠ t →
  (s.2 = t.1 → onP t.1 t.2 s.1 = false ∧ onP s.1 s.2 t.2 = false) ∧ (s.2 ≠ t.1 → t.2 ≠ s.1 → meetI s.1 s.2 t.1 t.2 = 0)
theorem sides_eq (L : List Pt) : sidesL L = (List.range L.length).map fun i => (gt L i, gt L (nx L i)) := by
  cases L with
  | nil => rfl
  | cons x xs =>
    apply List.ext_getElem
    · simp [sidesL, consec]
    · intro i h1 h2
      have hi : i < xs.length + 1 := by simpa using h2
      have hn : nx (x :: xs) i = if i + 1 = xs.length + 1 then 0 else i + 1 := nx_eq (L := x :: xs) (by simpa using hi)
      simp only [sidesL, consec, List.getElem_zip, List.getElem_map, List.getElem_range, hn, List.cons_append, List.tail_cons]
      have e1 : (x :: (xs ++ [x]))[i]'(by simp; omega) = gt (x :: xs) i := by
        rw [gt_at (by simpa using hi)]
        cases i with
        | zero => rfl
        | succ i =>
          simp only [List.getElem_cons_succ]
          rw [List.getElem_append_left (by omega)]
      rw [e1]
      congr 1
      by_cases h : i + 1 = xs.length + 1
      · rw [if_pos h, List.getElem_append_right (by omega)]
        simp [gt]
      · rw [if_neg h, List.getElem_append_left (by omega), gt_at (by simp; omega)]
        rfl
theorem mem_sides {L : List Pt} {s : Pt × Pt} : s ∈ sidesL L ↔ ∃ i, i < L.length ∧ s = (gt L i, gt L (nx L i)) := by
  rw [sides_eq]
  simp only [List.mem_map, List.mem_range]
  constructor
  · rintro ⟨i, hi, rfl⟩; exact ⟨i, hi, rfl⟩
  · rintro ⟨i, hi, rfl⟩; exact ⟨i, hi, rfl⟩
theorem nodup_iff {L : List Pt} : L.Nodup ↔ ∀ i k, i < k → k < L.length → gt L i ≠ gt L k := by
  rw [List.nodup_iff_pairwise_ne, List.pairwise_iff_getElem]
  constructor
  · intro h i k hi hk
    rw [gt_at (by omega), gt_at hk]
    exact h i k (by omega) hk hi
  · intro h i k hi hk hik
    have := h i k hik hk
    rw [gt_at hi, gt_at hk] at this
    exact this
theorem gt_inj {L : List Pt} (h : L.Nodup) {i k : Nat} (hi : i < L.length) (hk : k < L.length) (e : gt L i = gt L k) : i = k := by
  rcases Nat.lt_trichotomy i k with h1 | h1 | h1
  · exact absurd e (nodup_iff.1 h i k h1 hk)
  · exact h1
  · exact absurd e.symm (nodup_iff.1 h k i h1 hi)
theorem touch_one {a b c : Pt} (h1 : onP b c a = false) (h2 : onP a b c = false) : meetI a b b c = 1 := by
  have ho : opp a b b c = false := by
    have : crossP a b b = 0 := by unfold crossP crossI; grind
    cases h : opp a b b c
    · rfl
    · rw [opp_iff] at h; omega
  have hs : sharedS a b b c = [b, b] := by
    simp only [sharedS, List.filter_cons, List.filter_nil, h1, h2, on_left, on_right]
    rfl
  unfold meetI
  rw [ho, hs, Bool.false_and]
  simp [sameAll]
theorem one_touch {a b c : Pt} (hab : a ≠ b) (hbc : b ≠ c) (h : meetI a b b c = 1) : onP b c a = false ∧ onP a b c = false := by
  have hb : b ∈ sharedS a b b c := mem_shared.2 (.inl ⟨.inr rfl, on_left b c⟩)
  constructor
  · cases h1 : onP b c a
    · rfl
    · exact absurd (meet_one h a b (mem_shared.2 (.inl ⟨.inl rfl, h1⟩)) hb) hab
  · cases h1 : onP a b c
    · rfl
    · exact absurd (meet_one h b c hb (mem_shared.2 (.inr ⟨.inr rfl, h1⟩))) hbc
theorem poly_good {L : List Pt} (h : polyB L = true) : Good L := by
  obtain ⟨hn, hok, hne, hp⟩ := polyB_spec h
  have hnd : L.Nodup := by
    rw [nodup_iff]
    intro i k hik hk e
    have h1 := hp i k hik hk
    have hs : meetI (gt L i) (gt L (nx L i)) (gt L k) (gt L (nx L k)) ≠ 0 := by
      intro h0
      obtain ⟨_, h2, _⟩ := meet_zero.1 h0
      rw [e, on_left] at h2
      cases h2
    have ha : adjB L.length i k = true := by
      cases ha : adjB L.length i k
      · rw [ha] at h1; exact absurd h1 hs
      · rfl
    simp only [adjB, Bool.or_eq_true, Bool.and_eq_true, beq_iff_eq] at ha
    rcases ha with ha | ha
    · have := hne i (by omega)
      rw [nx_eq (by omega), if_neg (by omega), ← ha] at this
      exact this e
    · have := hne k hk
      rw [nx_eq hk, if_pos (by omega), ← ha.1] at this
      exact this e.symm
  have key : ∀ i k, i < k → k < L.length → (meetI (gt L i) (gt L (nx L i)) (gt L k) (gt L (nx L k)) = if nx L i = k ∨ nx L k = i then 1 else 0) := by
    intro i k hik hk
    have h1 := hp i k hik hk
    unfold pairM at h1
    have e : adjB L.length i k = true ↔ (nx L i = k ∨ nx L k = i) := by
      rw [nx_eq (by omega), nx_eq hk]
      simp only [adjB, Bool.or_eq_true, Bool.and_eq_true, beq_iff_eq]
      rw [if_neg (by omega)]
      by_cases hl : k + 1 = L.length
      · rw [if_pos hl]; omega
      · rw [if_neg hl]; omega
    cases ha : adjB L.length i k
    · rw [ha] at h1
      rw [if_neg (fun h => by rw [e.2 h] at ha; cases ha)]
      exact h1
    · rw [ha] at h1
      rw [if_pos (e.1 ha)]
      exact h1
  have key2 : ∀ i k, i ≠ k → i < L.length → k < L.length → (meetI (gt L i) (gt L (nx L i)) (gt L k) (gt L (nx L k)) = if nx L i = k ∨ nx L k = i then 1 else 0) := by
    intro i k hik hi hk
    rcases Nat.lt_or_gt_of_ne hik with h1 | h1
    · exact key i k h1 hk
    · have := key k i h1 hi
      rw [meetI_swap, this]
      by_cases hc : nx L i = k ∨ nx L k = i
      · rw [if_pos hc, if_pos hc.symm]
      · rw [if_neg hc, if_neg (fun h => hc h.symm)]
  refine ⟨hn, hok, hnd, ?_⟩
  intro s hs t ht hst
  obtain ⟨i, hi, rfl⟩ := mem_sides.1 hs
  obtain ⟨k, hk, rfl⟩ := mem_sides.1 ht
  have hik : i ≠ k := fun e => hst (by rw [e])
  have hm := key2 i k hik hi hk
  constructor
  · intro e
    have e' : nx L i = k := gt_inj hnd (nx_lt (by omega) i) hk e
    rw [if_pos (.inl e'), e'] at hm
    show onP (gt L k) (gt L (nx L k)) (gt L i) = false ∧ onP (gt L i) (gt L (nx L i)) (gt L (nx L k)) = false
    rw [e']
    have h1 := hne i hi
    rw [e'] at h1
    exact one_touch h1 (hne k hk) hm
  · intro e1 e2
    rw [if_neg (fun h => by
      rcases h with h | h
      · exact e1 (congrArg (gt L) h)
      · exact e2 (congrArg (gt L) h))] at hm
    exact hm
theorem good_poly {L : List Pt} (h : Good L) : polyB L = true := by
  obtain ⟨hn, hok, hnd, hg⟩ := h
  have hin : inB (L.length : Int) 3 10 = true := inB_spec.2 (by omega)
  have hne : ∀ i, i < L.length → gt L i ≠ gt L (nx L i) := fun i hi e => by
    have := gt_inj hnd hi (nx_lt (by omega) i) e
    rw [nx_eq hi] at this
    by_cases hl : i + 1 = L.length
    · rw [if_pos hl] at this; omega
    · rw [if_neg hl] at this; omega
  have h1 : nbB L = true := nb_true (fun i hi => by
    cases he : eqQ (gt L i) (gt L ((i + 1) % L.length))
    · rfl
    · exact absurd ((eqQ_iff _ _).1 he) (hne i hi))
  have h2 : pairsB L = true := pairs_true (fun i hi k hik hk => by
    have hs : (gt L i, gt L (nx L i)) ∈ sidesL L := mem_sides.2 ⟨i, hi, rfl⟩
    have ht : (gt L k, gt L (nx L k)) ∈ sidesL L := mem_sides.2 ⟨k, hk, rfl⟩
    have hst : (gt L i, gt L (nx L i)) ≠ (gt L k, gt L (nx L k)) := fun e => by
      have := gt_inj hnd hi hk (Prod.ext_iff.1 e).1; omega
    have hg1 := hg _ hs _ ht hst
    have hg2 := hg _ ht _ hs (Ne.symm hst)
    have hm : meetI (gt L i) (gt L (nx L i)) (gt L k) (gt L (nx L k)) = if nx L i = k ∨ nx L k = i then 1 else 0 := by
      by_cases h1 : nx L i = k
      · rw [if_pos (.inl h1)]
        have := hg1.1 (congrArg (gt L) h1)
        simp only [h1] at this ⊢
        exact touch_one this.1 this.2
      · by_cases h2 : nx L k = i
        · rw [if_pos (.inr h2)]
          have := hg2.1 (congrArg (gt L) h2)
          rw [meetI_swap]
          simp only [h2] at this ⊢
          exact touch_one this.1 this.2
        · rw [if_neg (by rintro (h | h) <;> contradiction)]
          exact hg1.2 (fun e => h1 (gt_inj hnd (nx_lt (by omega) i) hk e)) (fun e => h2 (gt_inj hnd (nx_lt (by omega) k) hi e))
    have e : adjB L.length i k = true ↔ (nx L i = k ∨ nx L k = i) := by
      rw [nx_eq (by omega), nx_eq hk]
      simp only [adjB, Bool.or_eq_true, Bool.and_eq_true, beq_iff_eq]
      rw [if_neg (by omega)]
      by_cases hl : k + 1 = L.length
      · rw [if_pos hl]; omega
      · rw [if_neg hl]; omega
    unfold pairOk pairM
    rw [show (i + 1) % L.length = nx L i from rfl, show (k + 1) % L.length = nx L k from rfl, hm]
    cases ha : adjB L.length i k
    · rw [if_neg (fun h => by rw [e.2 h] at ha; cases ha)]; rfl
    · rw [if_pos (e.1 ha)]; rfl)
  rw [polyB, hin, hok, h1, h2]; rfl
theorem poly_iff (L : List Pt) : polyB L = true ↔ Good L := ⟨poly_good, good_poly⟩
end Go.Proofs.Ytncahchhinfneaa

/-! Start -/
namespace Go.Proofs.Ytncahchhinfneaa
open Go.RowKit

def rotL (L : List (Int × Int)) (k : Nat) : List (Int × Int) := L.drop k ++ L.take k
theorem rotL_len (L : List (Int × Int)) (k : Nat) : (rotL L k).length = L.length := by simp [rotL]; omega

theorem step_append_any {P : Program} {ops : Array Oper} {o : Oper} {a : Act} {w : World} {K : Act → World → Prop} {Q : Exit → Act → World → Prop} {E : Prop} (hgd : o.guard = none) (s x : Operand) (t : TypeId)
    (ho : o.op = .call { callee := .builtin .append, args := #[s, x], argTypes := #[t, t] })
    (base : Nat) (e : TypeId) (i : TypeInfo) (z : Value) (size bytes : Nat) (ht : P.underlying t = some (.slice e)) (hi : P.info? e = some i) (hz : i.zero = some z)
    (hsize : i.size = size) (hby : i.bytes = bytes) (hzs : z.cells.size = size) (hsz : 0 < size)
    (v : Value) (n : Nat) (xs : List Value) (hs : a.eval s = v) (hown : w.ownsRow base e size v n xs)
    (ad : Addr) (m c : Nat) (news : List Value) (hx : a.eval x = .slice (some ad) m c) (hl : news.length = m * size) (hnews : ∀ j u, news[j]? = some u → w.cell? (ad.add j) = some u) (h1 : ∀ u ∈ news, u.oneCell' = true)
    (h63 : n + m ≤ maxLen) (hbytes : (n + m) * bytes ≤ 140737488355328) (hbase : base ≤ w.heap.size)
    (h : ∀ v' w', w'.ownsRow base e size v' (n + m) (xs ++ news) → w.grownBy w' v.ownBlock → K (a.put o.dst v') w') :
    if Region.wanted o (yielded ops a.tmps) = true then Oper.wp P o a w K Q else E := by
  have hw : Region.wanted o (yielded ops a.tmps) = true := by simp [Region.wanted, hgd]
  rw [if_pos hw]
  obtain ⟨v', w', hrun, r1, r2, _⟩ := run_append_own (P := P) w base t o.type e i z size bytes ht hi hz hsize hby hzs hsz v n xs hown ad m c news hl hnews h1 h63 hbytes hbase
  unfold Oper.wp
  simp [execOp, ho, resolve, invoke, builtin, hs, hx, hrun, Result.andThen]
  exact h v' w' r1 r2

theorem ptsA_take {w : World} {g : Nat} {L : List (Int × Int)} (h : PtsA w (some ⟨g, 0, none⟩) L) (k : Nat) : ∀ j u, (flat (L.take k))[j]? = some u → w.cell? (Addr.add ⟨g, 0, none⟩ j) = some u := by
  intro j u hu
  have h0 := ptsA_news h 0 j u
  rw [List.drop_zero, Nat.zero_mul] at h0
  refine h0 ?_
  have e : flat L = flat (L.take k) ++ flat (L.drop k) := by rw [← flat_append, List.take_append_drop]
  have hj : j < (flat (L.take k)).length := by
    rcases Nat.lt_or_ge j (flat (L.take k)).length with h1 | h1
    · exact h1
    · rw [List.getElem?_eq_none h1] at hu; cases hu
  rw [e, List.getElem?_append_left hj]
  exact hu


set_option maxRecDepth 100000 in
set_option maxHeartbeats 2000000 in
theorem grow_any (n : Nat) (w : World) (h1 : 1 ≤ n) (h2 : n ≤ 1048576) :
    Calls Try.prog 230 #[.slice none 0 0, .int .i64 n] w fun e w' => ∃ g cap, e = .returned (.slice (some ⟨g, 0, none⟩) 0 cap) ∧ w'.ownsRow w.heap.size 30 2 (.slice (some ⟨g, 0, none⟩) 0 cap) 0 [] ∧ Below w.heap.size w w' := by
  obtain ⟨i0, hi0, hz0, hz1, hz2⟩ := info_parts infoPt
  have hn0 : ¬ ((n : Int) < 0) := by omega
  have hn1 : (n : Int) > 0 := by omega
  have hold : (Builtin.firstCells i0.size 0 (.slice none 0 0)).run Try.prog w.drew = .ok ([] : List Value).toArray w.drew := run_firstCells_none _ i0.size 0 0 0
  have hrz : ∀ ty, (Builtin.append_ #[23, 3] ty #[.slice none 0 0, .int .i64 n]).run Try.prog w =
      .ok (.slice (some ⟨w.heap.size, 0, none⟩) n (grownCap w n 0 30)) (w.drew.alloc (.cells (([] : List Value).toArray ++ Builtin.zeroCells (Value.agg #[.int .i64 0, .int .i64 0]).cells n ++ Builtin.zeroCells (Value.agg #[.int .i64 0, .int .i64 0]).cells (grownCap w n 0 30 - n)) 30)) := fun ty => by
    have h := Lib.run_append_grow_zeros w 23 3 ty 30 i0 (.agg #[.int .i64 0, .int .i64 0]) .i64 .i64 Try.underlying23 Try.underlying3 hi0 hz0 none 0 0 [] hold n (by omega) (by omega) (by omega) (by omega)
      (by rw [hz2]; omega) (by rw [Nat.zero_add]; exact growslice_fits (by omega) (by rw [hz2]; omega))
    rw [Nat.zero_add] at h
    exact h
  have hGn : n ≤ grownCap w n 0 30 := grownCap_ge w _ _ _
  obtain ⟨G, hG⟩ : ∃ G, G = grownCap w n 0 30 := ⟨_, rfl⟩
  rw [← hG] at hrz hGn
  have hGm : G ≤ maxLen := by rw [hG]; exact grownCap_le_maxLen w n 0 30 (by unfold maxLen; omega)
  have hG63 : G ≤ 9223372036854775807 := by unfold maxLen at hGm; omega
  obtain ⟨C, hC⟩ : ∃ C, C = ([] : List Value).toArray ++ Builtin.zeroCells (Value.agg #[.int .i64 0, .int .i64 0]).cells n ++ Builtin.zeroCells (Value.agg #[.int .i64 0, .int .i64 0]).cells (G - n) := ⟨_, rfl⟩
  have hCs : C.size = G * 2 := by
    have e : (Value.agg #[.int .i64 0, .int .i64 0]).cells.size = 2 := rfl
    rw [hC, Array.size_append, Array.size_append, size_zeroCells, size_zeroCells, e]
    simp; omega
  rw [← hC] at hrz
  have R : Hid ((w.drew.alloc (.cells C 30)).ownsRow w.heap.size 30 2 (.slice (some ⟨w.heap.size, 0, none⟩) 0 G) 0 [] ∧ Below w.heap.size w (w.drew.alloc (.cells C 30))) :=
    ⟨⟨rfl, .inr ⟨w.heap.size, G, C, rfl, Nat.le_refl _, heap_alloc_new w.drew _, Nat.zero_le _, hGm, hCs, rfl⟩⟩, ((Below.refl _ w).drew).alloc (Nat.le_refl _) _⟩
  clear hold hG hC hCs hGm
  go_enter Try.func230, Try.ntmps230
  go_wp2_with (at_builtin; refine Lib.wpList_append_run _ rfl _ _ _ _ rfl _ _ rfl rfl _ _ (hrz _) ?_)
  go_ret
  exact ⟨_, _, rfl, R.out.1, R.out.2⟩

def catN (L : List (Int × Int)) (k : Nat) : Nat → Nat
  | 0 => 0
  | 1 => L.length - k
  | _ => L.length
def catL (L : List (Int × Int)) (k : Nat) : Nat → List (Int × Int)
  | 0 => []
  | 1 => L.drop k
  | _ => rotL L k
set_option maxRecDepth 100000 in
set_option maxHeartbeats 4000000 in
theorem concat_any (g gs c1 c2 k : Nat) (L : List (Int × Int)) (w : World) (hA : PtsA w (some ⟨g, 0, none⟩) L) (hk : k < L.length) (h2 : L.length ≤ 1048576)
    (s0 : w.cell? ⟨gs, 0, none⟩ = some (.slice (some ⟨g, k * 2, none⟩) (L.length - k) c1)) (s1 : w.cell? ⟨gs, 1, none⟩ = some (.slice (some ⟨g, 0, none⟩) k c2)) :
    Calls Try.prog 202 #[.slice (some ⟨gs, 0, none⟩) 2 2] w (Lists w (rotL L k)) := by
  obtain ⟨i0, hi0, hz0, hz1, hz2⟩ := info_parts infoPt
  have HU : Hid (Lists w (rotL L k) = fun e w' => ∃ v, e = .returned v ∧ w'.ownsRow w.heap.size 30 2 v (catN L k 2) (flat (catL L k 2)) ∧ Below w.heap.size w w') := by
    show _ = _
    unfold Lists
    rw [rotL_len]; rfl
  have HA := Lib.hid hA
  have HK := Lib.hid hk
  have HS0 := Lib.hid s0
  have HS1 := Lib.hid s1
  have f1 : ((L.length - k : Nat) : Int) + (k : Int) = (L.length : Int) := by omega
  clear hA
  go_enter Try.func202, Try.ntmps202
  go_wp2_with fail
  go_loop [3, 11] (fun s i => ∃ j : Nat, j ≤ 2 ∧ i = .int .i64 j ∧ s = .int .i64 (catN L k j)) (fun _ i => 2 - (intOf i).toNat)
  case atStart => exact ⟨0, by omega, rfl, rfl⟩
  case round =>
    obtain ⟨j, hj, rfl, rfl⟩ := hrel
    match j, hj with
    | 0, _ =>
      have e0 : catN L k 0 = 0 := rfl
      rw [e0]
      clear e0 s1
      go_wp2_with fail
      go_round
      case rel => exact ⟨1, by omega, by first | rfl | go_num, by first | rfl | go_num⟩
      case measure => simp [intOf]
    | 1, _ =>
      have e0 : catN L k 1 = L.length - k := rfl
      rw [e0]
      clear e0 s0
      go_wp2_with fail
      go_round
      case rel => exact ⟨2, by omega, by first | rfl | go_num, by first | rfl | go_num | exact congrArg _ f1⟩
      case measure => simp [intOf]
    | 2, _ =>
      have e0 : catN L k 2 = L.length := rfl
      rw [e0]
      clear e0 s0 s1 f1
      go_wp2_with fail
      refine (grow_any L.length w (by omega) h2).mono ?_
      rintro e w1 ⟨g1, cp1, rfl, own1, b1⟩
      have R1 := Lib.hid (And.intro own1 b1)
      clear own1 b1
      go_wp2_with fail
      go_loopw [6, 27] (fun v i wr => ∃ j : Nat, j ≤ 2 ∧ i = .int .i64 j ∧ wr.ownsRow w.heap.size 30 2 v (catN L k j) (flat (catL L k j)) ∧ Below w.heap.size w wr) (fun _ i _ => 2 - (intOf i).toNat)
      case atStart => exact ⟨0, by omega, by first | rfl | go_num, R1.out.1, R1.out.2⟩
      case round =>
        obtain ⟨j, hj, rfl, own, b⟩ := hrel
        match j, hj with
        | 0, _ =>
          have s0 := cell_on b rfl HS0.out
          have HN := Lib.hid (ptsA_news (ptsA_on HA.out b) k)
          have hsz := b.size
          have own0 : wr.ownsRow w.heap.size 30 2 u6 0 [] := own
          have HB := Lib.hid b
          clear own b
          go_wp2_with (at_builtin; refine wpList_append_own _ rfl _ _ 23 rfl w.heap.size 30 i0 (.agg #[.int .i64 0, .int .i64 0]) 2 16 Try.underlying23 hi0 hz0 hz1 hz2 rfl (by decide) _ _ _ rfl own0 ⟨g, k * 2, none⟩ (L.length - k) c1 (flat (L.drop k)) rfl (by rw [flat_len, List.length_drop]) HN.out (flat_one _) ?d3 ?d4 hsz ?_)
          case d3 => unfold maxLen; omega
          case d4 => omega
          intro v' w6 own6 hgrow _
          have R : Hid (w6.ownsRow w.heap.size 30 2 v' (catN L k 1) (flat (catL L k 1)) ∧ Below w.heap.size w w6) :=
            ⟨show w6.ownsRow w.heap.size 30 2 v' (L.length - k) (flat (L.drop k)) from by simpa using own6, HB.out.grown hgrow hsz (fun q hq => (own0.lt q hq).1)⟩
          clear own0 own6 hgrow s0
          go_wp2_with fail
          go_roundw
          case rel => exact ⟨1, by omega, by first | rfl | go_num, R.out.1, R.out.2⟩
          case measure => simp [intOf]
        | 1, _ =>
          have s0 := cell_on b rfl HS1.out
          have HN := Lib.hid (ptsA_take (ptsA_on HA.out b) k)
          have hsz := b.size
          have own0 : wr.ownsRow w.heap.size 30 2 u6 (L.length - k) (flat (L.drop k)) := own
          have HB := Lib.hid b
          clear own b
          go_wp2_with (at_builtin; refine wpList_append_own _ rfl _ _ 23 rfl w.heap.size 30 i0 (.agg #[.int .i64 0, .int .i64 0]) 2 16 Try.underlying23 hi0 hz0 hz1 hz2 rfl (by decide) _ _ _ rfl own0 ⟨g, 0, none⟩ k c2 (flat (L.take k)) rfl (by rw [flat_len, List.length_take]; have := HK.out; omega) HN.out (flat_one _) ?d3 ?d4 hsz ?_)
          case d3 => unfold maxLen; omega
          case d4 => omega
          intro v' w6 own6 hgrow _
          have R : Hid (w6.ownsRow w.heap.size 30 2 v' (catN L k 2) (flat (catL L k 2)) ∧ Below w.heap.size w w6) := by
            refine ⟨?_, HB.out.grown hgrow hsz (fun q hq => (own0.lt q hq).1)⟩
            have e1 : catN L k 2 = L.length - k + k := by show L.length = _; have := HK.out; omega
            have e2 : flat (catL L k 2) = flat (L.drop k) ++ flat (L.take k) := by show flat (rotL L k) = _; rw [rotL, flat_append]
            rw [e1, e2]; exact own6
          clear own0 own6 hgrow s0
          go_wp2_with fail
          go_roundw
          case rel => exact ⟨2, by omega, by first | rfl | go_num, R.out.1, R.out.2⟩
          case measure => simp [intOf]
        | 2, _ =>
          have R := Lib.hid (And.intro own b)
          clear own b
          go_wp2_with fail
          go_ret
          rw [HU.out]
          exact ⟨_, rfl, R.out.1, R.out.2⟩

/-! ### StartAt -/
def startV (L : List (Int × Int)) (k : Int) : List (Int × Int) := bif polyB L && inB k 0 ((L.length : Int) - 1) then rotL L k.toNat else []
theorem startV_len (L : List (Int × Int)) (k : Int) : (startV L k).length ≤ 1048576 := by
  unfold startV
  cases h : polyB L
  · simp
  · have := polyB_all h
    cases inB k 0 ((L.length : Int) - 1)
    · simp
    · simp only [Bool.and_self, cond_true, rotL_len]; omega

set_option maxRecDepth 100000 in
set_option maxHeartbeats 2000000 in
theorem impl_start (A : Option Addr) (c : Nat) (L : List (Int × Int)) (k : Int) (w : World) (hA : PtsA w A L) (hc : L.length ≤ c) (hL : L.length ≤ 1048576) :
    Calls Try.prog 163 #[.slice A L.length c, .int .i64 k] w (Lists w (startV L k)) := by
  have PC := Lib.hid (impl_poly A c L w hA hL)
  have no : startV L k = [] → Hid (Lists w (startV L k) = fun e w' => ∃ v, e = .returned v ∧ w'.ownsRow w.heap.size 30 2 v 0 [] ∧ Below w.heap.size w w') := fun h => by
    show _ = _
    rw [h]; rfl
  cases hp : polyB L
  · have HU := no (by rw [startV, hp]; rfl)
    rw [hp] at PC
    clear no hA
    go_enter Try.func163, Try.ntmps163
    go_wp2_with fail
    refine PC.out.mono ?_
    rintro e w1 ⟨rfl, hb1⟩
    go_wp2_with fail
    go_ret
    rw [HU.out]
    exact ⟨_, rfl, World.ownsRow_nil _ _ _ _, hb1⟩
  · obtain ⟨h3, h10, hok⟩ := polyB_all hp
    rw [hp] at PC
    have HI := Lib.hid (fun w => from_any k 0 ((L.length : Int) - 1) w)
    cases hk : inB k 0 ((L.length : Int) - 1)
    · have HU := no (by rw [startV, hp, hk]; rfl)
      rw [hk] at HI
      clear no hA
      go_enter Try.func163, Try.ntmps163
      go_wp2_with fail
      refine PC.out.mono ?_
      rintro e w1 ⟨rfl, hb1⟩
      go_wp2_with fail
      refine (HI.out _).mono ?_
      rintro e w2 ⟨rfl, rfl⟩
      go_wp2_with fail
      go_ret
      rw [HU.out]
      exact ⟨_, rfl, World.ownsRow_nil _ _ _ _, hb1⟩
    · have hkb := inB_spec.1 hk
      obtain ⟨q, rfl⟩ : ∃ q : Nat, k = (q : Int) := ⟨k.toNat, by omega⟩
      have hq : q < L.length := by omega
      have HU : Hid (Lists w (startV L q) = fun e w' => ∃ v, e = .returned v ∧ w'.ownsRow w.heap.size 30 2 v (rotL L q).length (flat (rotL L q)) ∧ Below w.heap.size w w') := by
        show _ = _
        rw [startV, hp, hk]; rfl
      rw [hk] at HI
      obtain ⟨g, rfl, -⟩ := hA 0 (by omega)
      have HA := Lib.hid hA
      have HT := Lib.hid (fun (gs c1 c2 : Nat) (W : World) (hb : Below w.heap.size w W) s0 s1 => concat_any g gs c1 c2 q L W (ptsA_on hA hb) hq hL s0 s1)
      unfold Lists at HT
      have hkc : ¬ q = c := by omega
      have hkc' : ¬ c = q := by omega
      have hkn : (q : Int) ≤ (L.length : Int) := by omega
      have hkc2 : (q : Int) ≤ (c : Int) := by omega
      have hnc : (L.length : Int) ≤ (c : Int) := by omega
      clear no hA hkb
      go_enter Try.func163, Try.ntmps163
      go_wp2_with fail
      refine PC.out.mono ?_
      rintro e w1 ⟨rfl, hb1⟩
      go_wp2_with fail
      refine (HI.out _).mono ?_
      rintro e w2 ⟨rfl, rfl⟩
      go_wp2_with fail
      have hz := hb1.size
      have hal := (hb1.drew).alloc hz (.cells #[.slice (some ⟨g, q * 2, none⟩) (L.length - q) (c - q), .slice (some ⟨g, 0, none⟩) q c] 23)
      have hh := heap_alloc_new w2.drew (.cells #[.slice (some ⟨g, q * 2, none⟩) (L.length - q) (c - q), .slice (some ⟨g, 0, none⟩) q c] 23)
      go_region_with (go_at_call 202; refine (HT.out w2.heap.size (c - q) c _ hal (cell_of_row _ _ 0 _ _ _ hh) (cell_of_row _ _ 1 _ _ _ hh)).mono ?_; rintro e w3 ⟨v, rfl, own, hb3⟩)
      all_goals
        have R := Lib.hid (And.intro (own_base own hal.size) (hal.trans (hb3.mono hal.size)))
        clear own hb1 hb3 hal hh
        go_wp2_with fail
        go_ret
        rw [HU.out]
        exact ⟨_, rfl, R.out.1, R.out.2⟩
end Go.Proofs.Ytncahchhinfneaa

/-! Same -/
namespace Go.Proofs.Ytncahchhinfneaa
open Go.RowKit

theorem consec_snoc (l : List Pt) (a b : Pt) : consec (l ++ [a] ++ [b]) = consec (l ++ [a]) ++ [(a, b)] := by
  induction l with
  | nil => rfl
  | cons x l ih =>
    cases l with
    | nil => rfl
    | cons y l =>
      have e1 : consec (x :: y :: l ++ [a] ++ [b]) = (x, y) :: consec (y :: l ++ [a] ++ [b]) := rfl
      have e2 : consec (x :: y :: l ++ [a]) = (x, y) :: consec (y :: l ++ [a]) := rfl
      rw [e1, e2, ih]; rfl
theorem good_of {L M : List Pt} (hl : M.length = L.length) (hm : ∀ p, p ∈ M ↔ p ∈ L) (hd : M.Nodup) (hs : ∀ s, s ∈ sidesL M → s ∈ sidesL L) (h : Good L) : Good M := by
  obtain ⟨h1, h2, h3, h4⟩ := h
  refine ⟨by rw [hl]; exact h1, ?_, hd, fun s hs1 t ht1 hst => h4 s (hs s hs1) t (hs t ht1) hst⟩
  simp only [allOk, List.all_eq_true] at h2 ⊢
  exact fun p hp => h2 p ((hm p).1 hp)
theorem sides_step (x y : Pt) (ys : List Pt) (s : Pt × Pt) : s ∈ sidesL (y :: ys ++ [x]) ↔ s ∈ sidesL (x :: y :: ys) := by
  have e1 : sidesL (x :: y :: ys) = (x, y) :: consec (y :: ys ++ [x]) := rfl
  have e2 : sidesL (y :: ys ++ [x]) = consec (y :: ys ++ [x] ++ [y]) := rfl
  rw [e1, e2, consec_snoc]
  rw [List.mem_append, List.mem_singleton, List.mem_cons]
  exact Or.comm
theorem good_step (x : Pt) (xs : List Pt) : Good (xs ++ [x]) ↔ Good (x :: xs) := by
  cases xs with
  | nil => exact Iff.rfl
  | cons y ys =>
    constructor
    · intro h
      refine good_of (L := y :: ys ++ [x]) (by simp) (fun p => by simp only [List.mem_cons, List.mem_append, List.not_mem_nil, or_false]; constructor <;> (intro h; rcases h with h | h | h <;> simp [h]) ) ?_ (fun s hs => (sides_step x y ys s).2 hs) h
      exact (List.perm_append_comm (l₁ := y :: ys) (l₂ := [x])).nodup_iff.1 h.2.2.1
    · intro h
      refine good_of (L := x :: y :: ys) (by simp) (fun p => by simp only [List.mem_cons, List.mem_append, List.not_mem_nil, or_false]; constructor <;> (intro h; rcases h with h | h | h <;> simp [h]) ) ?_ (fun s hs => (sides_step x y ys s).1 hs) h
      exact (List.perm_append_comm (l₁ := y :: ys) (l₂ := [x])).nodup_iff.2 h.2.2.1
theorem rotL_zero (L : List Pt) : rotL L 0 = L := by simp [rotL]
theorem rotL_succ {L : List Pt} {k : Nat} (hk : k < L.length) : ∃ x xs, rotL L k = x :: xs ∧ rotL L (k + 1) = xs ++ [x] := by
  refine ⟨L[k], L.drop (k + 1) ++ L.take k, ?_, ?_⟩
  · rw [rotL, List.drop_eq_getElem_cons hk]; rfl
  · rw [rotL, List.take_succ_eq_append_getElem hk, List.append_assoc]
theorem good_rot {L : List Pt} (h : Good L) : ∀ k, k ≤ L.length → Good (rotL L k) := by
  intro k
  induction k with
  | zero => intro _; rw [rotL_zero]; exact h
  | succ k ih =>
    intro hk
    obtain ⟨x, xs, e1, e2⟩ := rotL_succ (L := L) (k := k) (by omega)
    have := ih (by omega)
    rw [e1] at this
    rw [e2]
    exact (good_step x xs).2 this

/-! ### Without a straight corner -/
theorem cross_z (a b : Pt) : crossP a b b = 0 := by unfold crossP crossI; grind
theorem good_drop {b : Pt} {Y : List Pt} (h : Good (b :: Y)) (h4 : 3 ≤ Y.length) (hs : onP (gt Y (Y.length - 1)) (gt Y 0) b = true) : Good Y := by
  obtain ⟨h1, h2, h3, hg⟩ := h
  have hb : b ∉ Y := (List.nodup_cons.1 h3).1
  have hY : Y.Nodup := (List.nodup_cons.1 h3).2
  obtain ⟨c, Y', rfl⟩ : ∃ c Y', Y = c :: Y' := by
    cases Y with
    | nil => simp at h4
    | cons c Y' => exact ⟨c, Y', rfl⟩
  obtain ⟨a, ha⟩ : ∃ a, a = gt (c :: Y') ((c :: Y').length - 1) := ⟨_, rfl⟩
  have hc : gt (c :: Y') 0 = c := rfl
  rw [← ha, hc] at hs
  have hlast : c :: Y' = (c :: Y').dropLast ++ [a] := by
    have hl : (c :: Y').getLast (by simp) = a := by
      rw [ha, gt_at (by simp), List.getLast_eq_getElem]
    rw [← hl]
    exact (List.dropLast_concat_getLast _).symm
  have eL : sidesL (b :: c :: Y') = (b, c) :: consec (c :: Y') ++ [(a, b)] := by
    have e1 : sidesL (b :: c :: Y') = (b, c) :: consec (c :: Y' ++ [b]) := rfl
    rw [e1, hlast, consec_snoc]
    rfl
  have eY : sidesL (c :: Y') = consec (c :: Y') ++ [(a, c)] := by
    have e1 : sidesL (c :: Y') = consec (c :: Y' ++ [c]) := rfl
    rw [e1]
    conv => lhs; rw [hlast]
    rw [consec_snoc, ← hlast]
  have hbc : (b, c) ∈ sidesL (b :: c :: Y') := by rw [eL]; simp
  have hab : (a, b) ∈ sidesL (b :: c :: Y') := by rw [eL]; simp
  have hin : ∀ t, t ∈ consec (c :: Y') → t ∈ sidesL (b :: c :: Y') := fun t ht => by rw [eL]; simp [ht]
  have hmem : ∀ t, t ∈ consec (c :: Y') → t.1 ∈ c :: Y' ∧ t.2 ∈ c :: Y' := fun t ht => by
    have := List.of_mem_zip (a := t.1) (b := t.2) (l₁ := c :: Y') (l₂ := (c :: Y').tail) ht
    exact ⟨this.1, List.mem_of_mem_tail this.2⟩
  have haY : a ∈ c :: Y' := by rw [hlast]; simp
  have hba : b ≠ a := fun e => hb (e ▸ haY)
  have hbcn : b ≠ c := fun e => hb (e ▸ List.mem_cons_self)
  have hne1 : ∀ t, t ∈ consec (c :: Y') → t.1 ≠ b ∧ t.2 ≠ b := fun t ht => ⟨fun e => hb (e ▸ (hmem t ht).1), fun e => hb (e ▸ (hmem t ht).2)⟩
  -- a side from c does not lead to a
  have hca : ∀ t, t ∈ consec (c :: Y') → t.1 = c → t.2 ≠ a := fun t ht e1 e2 => by
    obtain ⟨i, hi, hti⟩ := mem_sides.1 (hin t ht)
    rw [hti] at e1 e2
    have k1 : gt (b :: c :: Y') i = gt (b :: c :: Y') 1 := e1
    have k2 := gt_inj h3 hi (by simp) k1
    have k3 : gt (b :: c :: Y') (nx (b :: c :: Y') i) = gt (b :: c :: Y') ((b :: c :: Y').length - 1) := by
      rw [show gt (b :: c :: Y') (nx (b :: c :: Y') i) = a from e2, ha]
      simp only [gt, List.length_cons, Nat.add_sub_cancel]
      cases hY' : Y'.length with
      | zero => simp at h4; omega
      | succ n => simp
    have k4 := gt_inj h3 (nx_lt (by simp) i) (by simp) k3
    rw [nx_eq hi] at k4
    simp only [List.length_cons] at k4 h4
    by_cases hl : i + 1 = Y'.length + 1 + 1
    · rw [if_pos hl] at k4; omega
    · rw [if_neg hl] at k4; omega
  have hac : a ≠ c := fun e => by
    have : gt (c :: Y') ((c :: Y').length - 1) = gt (c :: Y') 0 := by rw [← ha, e]; rfl
    have := gt_inj hY (by simp) (by simp) this
    simp only [List.length_cons] at this h4; omega
  -- the new side meets no other one
  have new0 : ∀ t, t ∈ consec (c :: Y') → t.1 ≠ c → t.2 ≠ a → meetI a c t.1 t.2 = 0 := fun t ht k1 k2 => by
    obtain ⟨n1, n2⟩ := hne1 t ht
    have m1 := (hg _ hab _ (hin t ht) (fun e => n2 (Prod.ext_iff.1 e).2.symm)).2 (Ne.symm n1) k2
    have m2 := (hg _ hbc _ (hin t ht) (fun e => n1 (Prod.ext_iff.1 e).1.symm)).2 (Ne.symm k1) n2
    exact meet_merge hs hba hbcn m1 m2
  have new1 : ∀ t, t ∈ consec (c :: Y') → t.1 = c → onP t.1 t.2 a = false ∧ onP a c t.2 = false := fun t ht k1 => by
    obtain ⟨n1, n2⟩ := hne1 t ht
    have k2 := hca t ht k1
    have m1 := (hg _ hab _ (hin t ht) (fun e => n2 (Prod.ext_iff.1 e).2.symm)).2 (Ne.symm n1) k2
    have m2 := (hg _ hbc _ (hin t ht) (fun e => n1 (Prod.ext_iff.1 e).1.symm)).1 k1.symm
    obtain ⟨-, z1, -, -, z4⟩ := meet_zero.1 m1
    refine ⟨z1, ?_⟩
    cases hq : onP a c t.2
    · rfl
    · rcases on_part hs hq with h5 | h5
      · rw [show onP a b t.2 = false from z4] at h5; cases h5
      · rw [show onP b c t.2 = false from m2.2] at h5; cases h5
  have new2 : ∀ t, t ∈ consec (c :: Y') → t.2 = a → onP a c t.1 = false ∧ onP t.1 t.2 c = false := fun t ht k1 => by
    obtain ⟨n1, n2⟩ := hne1 t ht
    have k2 : t.1 ≠ c := fun e => hca t ht e k1
    have m1 := (hg _ (hin t ht) _ hab (fun e => n2 (Prod.ext_iff.1 e).2)).1 k1
    have m2 := (hg _ hbc _ (hin t ht) (fun e => n1 (Prod.ext_iff.1 e).1.symm)).2 (Ne.symm k2) n2
    obtain ⟨-, -, z2, z3, -⟩ := meet_zero.1 m2
    refine ⟨?_, z2⟩
    cases hq : onP a c t.1
    · rfl
    · rcases on_part hs hq with h5 | h5
      · rw [show onP a b t.1 = false from m1.1] at h5; cases h5
      · rw [show onP b c t.1 = false from z3] at h5; cases h5
  refine ⟨⟨h4, by have := h1.2; simp at this ⊢; omega⟩, ?_, hY, ?_⟩
  · simp only [allOk, List.all_eq_true] at h2 ⊢
    exact fun p hp => h2 p (List.mem_cons_of_mem _ hp)
  · intro s hs1 t ht1 hst
    rw [eY] at hs1 ht1
    simp only [List.mem_append, List.mem_cons, List.not_mem_nil, or_false] at hs1 ht1
    rcases hs1 with hs1 | rfl <;> rcases ht1 with ht1 | rfl
    · exact hg s (hin s hs1) t (hin t ht1) hst
    · refine ⟨fun e => ?_, fun e1 e2 => ?_⟩
      · have := new2 s hs1 e
        exact ⟨this.1, this.2⟩
      · rw [meetI_swap]
        exact new0 s hs1 (Ne.symm e2) e1
    · exact ⟨fun e => new1 t ht1 e.symm, fun e1 e2 => new0 t ht1 (Ne.symm e1) e2⟩
    · exact absurd rfl hst
end Go.Proofs.Ytncahchhinfneaa

/-! Shape -/
namespace Go.Proofs.Ytncahchhinfneaa
open Go.RowKit

theorem straight_filter (L : List Pt) : ∀ k, straightTill L k = ((List.range k).filter (bentB L)).map (gt L) := by
  intro k
  induction k with
  | zero => rfl
  | succ k ih =>
    rw [straightTill, ih, List.range_succ, List.filter_append, List.map_append, List.filter_cons, List.filter_nil]
    cases bentB L k <;> simp
theorem straightL_eq (L : List Pt) : straightL L = ((List.range L.length).filter (bentB L)).map (gt L) := straight_filter L _
theorem gt_step (x : Pt) (xs : List Pt) {i : Nat} (hi : i < (x :: xs).length) : gt (xs ++ [x]) i = gt (x :: xs) (nx (x :: xs) i) := by
  rw [nx_eq hi]
  simp only [List.length_cons] at hi ⊢
  by_cases h : i + 1 = xs.length + 1
  · rw [if_pos h, gt_at (by simp; omega), List.getElem_append_right (by omega)]
    simp [gt]
  · rw [if_neg h, gt_at (by simp; omega), List.getElem_append_left (by omega), gt_at (by simp; omega)]
    rfl
theorem bent_step (x : Pt) (xs : List Pt) {i : Nat} (hi : i < (x :: xs).length) : bentB (xs ++ [x]) i = bentB (x :: xs) (nx (x :: xs) i) := by
  have hl : (xs ++ [x]).length = (x :: xs).length := by simp
  have h0 : 0 < (x :: xs).length := by simp
  have e1 : pv (xs ++ [x]) i = pv (x :: xs) i := by unfold pv; rw [hl]
  have e2 : nx (xs ++ [x]) i = nx (x :: xs) i := by unfold nx; rw [hl]
  have e3 : pv (x :: xs) (nx (x :: xs) i) = i := by
    rw [pv_eq (nx_lt h0 i), nx_eq hi]
    by_cases h : i + 1 = (x :: xs).length
    · rw [if_pos h, if_pos rfl]; omega
    · rw [if_neg h, if_neg (by omega)]; omega
  unfold bentB
  rw [e1, e2, gt_step x xs hi, gt_step x xs (pv_lt h0 i), gt_step x xs (nx_lt h0 i), nx_pv hi, e3]
theorem range_nx (x : Pt) (xs : List Pt) : (List.range (x :: xs).length).map (nx (x :: xs)) = (List.range xs.length).map Nat.succ ++ [0] := by
  rw [List.length_cons, List.range_succ, List.map_append]
  congr 1
  · apply List.map_congr_left
    intro i hi
    have : i < xs.length := List.mem_range.1 hi
    rw [nx_eq (by simp; omega), if_neg (by simp; omega)]
  · simp only [List.map_cons, List.map_nil]
    rw [nx_eq (by simp), if_pos (by simp)]
def restS (x : Pt) (xs : List Pt) : List Pt := (((List.range xs.length).map Nat.succ).filter (bentB (x :: xs))).map (gt (x :: xs))
theorem straight_cons (x : Pt) (xs : List Pt) : straightL (x :: xs) = (bif bentB (x :: xs) 0 then [x] else []) ++ restS x xs := by
  rw [straightL_eq, List.length_cons, List.range_succ_eq_map, List.filter_cons]
  cases h : bentB (x :: xs) 0
  · rfl
  · rfl
theorem straight_step (x : Pt) (xs : List Pt) : straightL (xs ++ [x]) = restS x xs ++ (bif bentB (x :: xs) 0 then [x] else []) := by
  have hl : (xs ++ [x]).length = (x :: xs).length := by simp
  have h1 : straightL (xs ++ [x]) = (((List.range (x :: xs).length).map (nx (x :: xs))).filter (bentB (x :: xs))).map (gt (x :: xs)) := by
    rw [straightL_eq, hl, List.filter_map, List.map_map]
    rw [List.filter_congr (q := bentB (x :: xs) ∘ nx (x :: xs)) (fun i hi => bent_step x xs (List.mem_range.1 hi))]
    apply List.map_congr_left
    intro i hi
    exact gt_step x xs (List.mem_range.1 (List.mem_filter.1 hi).1)
  rw [h1, range_nx, List.filter_append, List.map_append]
  congr 1
  cases h : bentB (x :: xs) 0 <;> simp [h, gt]
theorem good_straight_step {x : Pt} {xs : List Pt} (h : Good (straightL (xs ++ [x]))) : Good (straightL (x :: xs)) := by
  rw [straight_step] at h
  rw [straight_cons]
  cases hb : bentB (x :: xs) 0
  · rw [hb] at h; simpa using h
  · rw [hb] at h
    exact (good_step x _).1 h
theorem good_straight_rot {L : List Pt} : ∀ k, k ≤ L.length → Good (straightL (rotL L k)) → Good (straightL L) := by
  intro k
  induction k with
  | zero => intro _ h; rw [rotL_zero] at h; exact h
  | succ k ih =>
    intro hk h
    obtain ⟨x, xs, e1, e2⟩ := rotL_succ (L := L) (k := k) (by omega)
    rw [e2] at h
    refine ih (by omega) ?_
    rw [e1]
    exact good_straight_step h
theorem bent_rot {L : List Pt} : ∀ k, k ≤ L.length → ∀ j, j < L.length → bentB (rotL L k) j = bentB L ((j + k) % L.length) := by
  intro k
  induction k with
  | zero => intro _ j hj; rw [rotL_zero, Nat.add_zero, Nat.mod_eq_of_lt hj]
  | succ k ih =>
    intro hk j hj
    obtain ⟨x, xs, e1, e2⟩ := rotL_succ (L := L) (k := k) (by omega)
    have hl : (x :: xs).length = L.length := by rw [← e1, rotL_len]
    have h1 := ih (by omega) (nx (x :: xs) j) (by rw [← hl]; exact nx_lt (by simp) j)
    rw [e1] at h1
    rw [e2, bent_step x xs (by omega), h1]
    unfold nx
    rw [hl, Nat.mod_add_mod, show j + 1 + k = j + (k + 1) by omega]
theorem mul_zero_iff {m x q y : Int} (hm : 0 < m) (hq : 0 < q) (h : m * x = q * y) : x = 0 ↔ y = 0 := by
  constructor
  · intro hx; rw [hx, Int.mul_zero] at h; exact mul_zero_of hq h.symm
  · intro hy; rw [hy, Int.mul_zero] at h; exact mul_zero_of hm h
theorem bent_drop {b : Pt} {Y : List Pt} (hY : 3 ≤ Y.length) (hs : onP (gt Y (Y.length - 1)) (gt Y 0) b = true) (hb : b ∉ Y) {i : Nat} (hi : i < Y.length) : bentB (b :: Y) (i + 1) = bentB Y i := by
  have ha : gt Y (Y.length - 1) ∈ Y := by rw [gt_at (by omega)]; exact List.getElem_mem _
  have hc : gt Y 0 ∈ Y := by rw [gt_at (by omega)]; exact List.getElem_mem _
  obtain ⟨a, ea⟩ : ∃ a, a = gt Y (Y.length - 1) := ⟨_, rfl⟩
  obtain ⟨c, ec⟩ : ∃ c, c = gt Y 0 := ⟨_, rfl⟩
  rw [← ea, ← ec] at hs
  rw [← ea] at ha
  rw [← ec] at hc
  have hba : b ≠ a := fun e => hb (e ▸ ha)
  have hbc : b ≠ c := fun e => hb (e ▸ hc)
  have hac : a ≠ c := by
    intro h
    subst h
    obtain ⟨_, k2, k3⟩ := (onP_iff _ _ _).1 hs
    exact hba (by unfold bt at k2 k3; exact Prod.ext (by omega) (by omega))
  obtain ⟨p, q, hw⟩ := on_wt hs hac
  have hp := hw.ne_c hbc
  have hq := hw.ne_a hba
  have g1 : ∀ j, gt (b :: Y) (j + 1) = gt Y j := fun j => by simp [gt]
  have e1 : pv (b :: Y) (i + 1) = i := by rw [pv_eq (by simp; omega), if_neg (by omega)]; omega
  have e2 : nx (b :: Y) (i + 1) = if i + 1 = Y.length then 0 else i + 1 + 1 := by
    rw [nx_eq (by simp; omega)]
    by_cases h : i + 1 = Y.length
    · rw [if_pos h, if_pos (by simp; omega)]
    · rw [if_neg h, if_neg (by simp; omega)]
  unfold bentB
  rw [e1, e2, g1, pv_eq hi, nx_eq hi]
  have key : ∀ x y : Int, (x = 0 ↔ y = 0) → (!(x == 0)) = (!(y == 0)) := fun x y h => by
    rw [Bool.eq_iff_iff]; simp only [Bool.not_eq_true', beq_eq_false_iff_ne, ne_eq, h]
  apply key
  by_cases h0 : i = 0
  · subst h0
    rw [if_pos rfl, if_neg (by omega), if_neg (by omega), g1, ← ea, ← ec]
    exact mul_zero_iff hw.pq hp (hw.cross_bc _)
  · rw [if_neg h0]
    have e3 : gt (b :: Y) i = gt Y (i - 1) := by rw [show i = (i - 1) + 1 by omega, g1]; congr 1
    rw [e3]
    by_cases hl : i + 1 = Y.length
    · rw [if_pos hl, if_pos hl]
      have e4 : gt Y i = a := by rw [ea]; congr 1; omega
      rw [e4, ← ec]
      show crossP (gt Y (i - 1)) a b = 0 ↔ _
      have := hw.cross3 (gt Y (i - 1)) a
      rw [cross_z, Int.mul_zero, Int.zero_add] at this
      exact mul_zero_iff hw.pq hq this
    · rw [if_neg hl, if_neg hl, g1]
theorem straight_drop {b : Pt} {Y : List Pt} (hY : 3 ≤ Y.length) (hs : onP (gt Y (Y.length - 1)) (gt Y 0) b = true) (hb : b ∉ Y) (h0 : bentB (b :: Y) 0 = false) : straightL (b :: Y) = straightL Y := by
  rw [straight_cons, h0, straightL_eq]
  show [] ++ restS b Y = _
  rw [List.nil_append, restS, List.filter_map, List.map_map]
  rw [List.filter_congr (p := bentB (b :: Y) ∘ Nat.succ) (q := bentB Y) (fun i hi => bent_drop hY hs hb (List.mem_range.1 hi))]
  apply List.map_congr_left
  intro i _
  simp [gt]
/-- **The straightened polygon is one.** -/
theorem good_straight : ∀ n (L : List Pt), L.length = n → Good L → Good (straightL L) := by
  intro n
  induction n using Nat.strongRecOn with
  | _ n ih =>
    intro L hL hG
    by_cases hall : ∀ i, i < L.length → bentB L i = true
    · have : straightL L = L := by
        rw [straightL_eq, List.filter_eq_self.2 (fun i hi => hall i (List.mem_range.1 hi))]
        apply List.ext_getElem (by simp)
        intro i h1 h2
        simp [gt_at h2]
      rw [this]; exact hG
    · obtain ⟨i, hi, hb⟩ : ∃ i, i < L.length ∧ bentB L i = false := by
        false_or_by_contra
        rename_i hne
        exact hall fun i hi => by
          cases hb : bentB L i
          · exact absurd ⟨i, hi, hb⟩ hne
          · rfl
      refine good_straight_rot i (by omega) ?_
      have hG' := good_rot hG i (by omega)
      have hb' : bentB (rotL L i) 0 = false := by rw [bent_rot i (by omega) 0 (by omega), Nat.zero_add, Nat.mod_eq_of_lt hi, hb]
      obtain ⟨b, Y, e1, -⟩ := rotL_succ hi
      have hl : (b :: Y).length = n := by rw [← e1, rotL_len, hL]
      rw [e1] at hG' hb' ⊢
      have hY2 : 2 ≤ Y.length := by have := hG'.1.1; simp at this; omega
      have hbY : b ∉ Y := (List.nodup_cons.1 hG'.2.2.1).1
      have hon : onP (gt Y (Y.length - 1)) (gt Y 0) b = true := by
        have h1 := on_bent (good_poly hG') (i := 0) (by simp)
        rw [hb', Bool.not_false, onQ_ok (gt_ok hG'.2.1 _) (gt_ok hG'.2.1 _) (gt_ok hG'.2.1 _)] at h1
        rw [pv_eq (by simp), if_pos rfl, nx_eq (by simp), if_neg (by rw [List.length_cons]; omega)] at h1
        have e2 : gt (b :: Y) ((b :: Y).length - 1) = gt Y (Y.length - 1) := by
          rw [List.length_cons, Nat.add_sub_cancel, show Y.length = (Y.length - 1) + 1 by omega]; simp [gt]
        have e3 : gt (b :: Y) (0 + 1) = gt Y 0 := by simp [gt]
        rw [e2, e3] at h1
        exact h1
      have hY3 : 3 ≤ Y.length := by
        false_or_by_contra
        rename_i hlt
        have hm : Y.length = 2 := by omega
        obtain ⟨c, a, rfl⟩ : ∃ c a, Y = [c, a] := by
          match Y, hm with
          | [c, a], _ => exact ⟨c, a, rfl⟩
        have hs1 : (c, a) ∈ sidesL [b, c, a] := by simp [sidesL, consec]
        have hs2 : (a, b) ∈ sidesL [b, c, a] := by simp [sidesL, consec]
        have hne : (c, a) ≠ (a, b) := fun e => by
          have h1 := (Prod.ext_iff.1 e).2
          exact hbY (by rw [show b = a from h1.symm]; simp)
        have h1 := (hG'.2.2.2 _ hs1 _ hs2 hne).1 rfl
        have h2 : onP a c b = true := hon
        rw [← on_flip] at h2
        rw [show onP c a b = false from h1.2] at h2
        cases h2
      rw [straight_drop hY3 hon hbY hb']
      exact ih Y.length (by simp at hl; omega) Y rfl (good_drop hG' hY3 hon)
theorem poly_straight {L : List Pt} (h : polyB L = true) : polyB (straightL L) = true := good_poly (good_straight _ L rfl (poly_good h))
theorem poly_rot {L : List Pt} (h : polyB L = true) {k : Nat} (hk : k ≤ L.length) : polyB (rotL L k) = true := good_poly (good_rot (poly_good h) k hk)
end Go.Proofs.Ytncahchhinfneaa

/-! MotP -/
namespace Go.Proofs.Ytncahchhinfneaa
open Go.RowKit

def dn (b p : Pt) : Pt := (p.1 - b.1, p.2 - b.2)
def lowL (L : List Pt) : Pt := (boxTill L L.length).1
def cornL (L : List Pt) : List Pt := L.map (dn (lowL L))
def moveL (L : List Pt) (m : Nat) : List Pt := cornL (L.map (mot m))
def moveV (L : List Pt) (m : Int) : List Pt := bif polyB L && inB m 0 7 then moveL L m.toNat else []
theorem cornL_len (L : List Pt) : (cornL L).length = L.length := by simp [cornL]
theorem moveL_len (L : List Pt) (m : Nat) : (moveL L m).length = L.length := by simp [moveL, cornL]
theorem gt_map {f : Pt → Pt} {L : List Pt} {i : Nat} (h : i < L.length) : gt (L.map f) i = f (gt L i) := by
  rw [gt_at (by simpa using h), gt_at h]; simp
theorem minI_eq (x y : Int) : minI x y = min x y := by unfold minI; split <;> omega
theorem maxI_eq (x y : Int) : maxI x y = max x y := by unfold maxI; split <;> omega

/-- The box holds all corners. -/
theorem box_le {L : List Pt} : ∀ k, k ≤ L.length → ∀ i, i < k ∨ i = 0 → (boxTill L k).1.1 ≤ (gt L i).1 ∧ (boxTill L k).1.2 ≤ (gt L i).2 ∧ (gt L i).1 ≤ (boxTill L k).2.1 ∧ (gt L i).2 ≤ (boxTill L k).2.2
  | 0, _, i, hi => by
    obtain rfl : i = 0 := by omega
    simp [boxTill]
  | k + 1, hk, i, hi => by
    simp only [boxTill, boxStep, minI_eq, maxI_eq]
    rcases Nat.lt_or_ge i k with h | h
    · have := box_le (L := L) k (by omega) i (.inl h); omega
    · by_cases h0 : i = 0
      · have := box_le (L := L) k (by omega) i (.inr h0); omega
      · obtain rfl : i = k := by omega
        omega
/-- Each side of the box is reached. -/
theorem box_at {L : List Pt} : ∀ k, k ≤ L.length → 0 < L.length → (∃ i, i < L.length ∧ (boxTill L k).1.1 = (gt L i).1) ∧ (∃ i, i < L.length ∧ (boxTill L k).1.2 = (gt L i).2)
  | 0, _, h0 => ⟨⟨0, h0, rfl⟩, ⟨0, h0, rfl⟩⟩
  | k + 1, hk, h0 => by
    obtain ⟨⟨i, hi, e1⟩, ⟨j, hj, e2⟩⟩ := box_at k (by omega) h0
    simp only [boxTill, boxStep, minI]
    constructor
    · split
      · exact ⟨k, by omega, rfl⟩
      · exact ⟨i, hi, e1⟩
    · split
      · exact ⟨k, by omega, rfl⟩
      · exact ⟨j, hj, e2⟩
theorem box_hi {L : List Pt} (hok : allOk L = true) : ∀ k, k ≤ L.length → 0 < L.length → (boxTill L k).2.1 ≤ 40 ∧ (boxTill L k).2.2 ≤ 40
  | 0, _, h0 => by
    have := okP_bounds (all_at hok h0)
    simp only [boxTill]; omega
  | k + 1, hk, h0 => by
    have := box_hi hok k (by omega) h0
    have := okP_bounds (all_at hok (show k < L.length by omega))
    simp only [boxTill, boxStep, maxI_eq]
    omega
theorem low_le {L : List Pt} {i : Nat} (hi : i < L.length) : (lowL L).1 ≤ (gt L i).1 ∧ (lowL L).2 ≤ (gt L i).2 := by
  have := box_le (L := L) L.length (Nat.le_refl _) i (.inl hi)
  exact ⟨this.1, this.2.1⟩

/-- The least corner of a moved box: the lesser numbers of its two moved ends. -/
theorem box_mot {m : Nat} (hm : m < 8) {L : List Pt} : ∀ k, k ≤ L.length → 0 < L.length →
    ((boxTill L k).1.1 ≤ (boxTill L k).2.1 ∧ (boxTill L k).1.2 ≤ (boxTill L k).2.2) ∧
    (boxTill (L.map (mot m)) k).1 = (minI (mot m (boxTill L k).1).1 (mot m (boxTill L k).2).1, minI (mot m (boxTill L k).1).2 (mot m (boxTill L k).2).2)
  | 0, _, h0 => by
    simp only [boxTill, gt_map h0]
    exact ⟨⟨Int.le_refl _, Int.le_refl _⟩, by simp [minI]⟩
  | k + 1, hk, h0 => by
    obtain ⟨⟨h1, h2⟩, h3⟩ := box_mot hm k (by omega) h0
    simp only [boxTill, boxStep, gt_map (show k < L.length by omega), h3]
    clear h3
    generalize boxTill L k = B at *
    generalize gt L k = q at *
    refine ⟨⟨by simp only [minI_eq, maxI_eq]; omega, by simp only [minI_eq, maxI_eq]; omega⟩, ?_⟩
    match m, hm with
    | 0, _ => simp only [mot, minI_eq, maxI_eq]; exact Prod.ext (by simp only; omega) (by simp only; omega)
    | 1, _ => simp only [mot, minI_eq, maxI_eq]; exact Prod.ext (by simp only; omega) (by simp only; omega)
    | 2, _ => simp only [mot, minI_eq, maxI_eq]; exact Prod.ext (by simp only; omega) (by simp only; omega)
    | 3, _ => simp only [mot, minI_eq, maxI_eq]; exact Prod.ext (by simp only; omega) (by simp only; omega)
    | 4, _ => simp only [mot, minI_eq, maxI_eq]; exact Prod.ext (by simp only; omega) (by simp only; omega)
    | 5, _ => simp only [mot, minI_eq, maxI_eq]; exact Prod.ext (by simp only; omega) (by simp only; omega)
    | 6, _ => simp only [mot, minI_eq, maxI_eq]; exact Prod.ext (by simp only; omega) (by simp only; omega)
    | 7, _ => simp only [mot, minI_eq, maxI_eq]; exact Prod.ext (by simp only; omega) (by simp only; omega)
    | j + 8, h => omega
theorem low_mot {m : Nat} (hm : m < 8) {L : List Pt} (h0 : 0 < L.length) :
    lowL (L.map (mot m)) = (minI (mot m (boxTill L L.length).1).1 (mot m (boxTill L L.length).2).1, minI (mot m (boxTill L L.length).1).2 (mot m (boxTill L L.length).2).2) := by
  have := (box_mot hm L.length (Nat.le_refl _) h0).2
  unfold lowL
  rw [List.length_map]
  exact this

/-! ### isometries -/
structure Iso (f : Pt → Pt) : Prop where
  inj : ∀ a b, f a = f b → a = b
  cr : (∀ a b c, crossP (f a) (f b) (f c) = crossP a b c) ∨ (∀ a b c, crossP (f a) (f b) (f c) = -crossP a b c)
  on : ∀ a b c, onP (f a) (f b) (f c) = onP a b c
theorem iso_of {f : Pt → Pt} (inj : ∀ a b, f a = f b → a = b)
    (cr : (∀ a b c, crossP (f a) (f b) (f c) = crossP a b c) ∨ (∀ a b c, crossP (f a) (f b) (f c) = -crossP a b c))
    (bx : ∀ a b c : Pt, (bt a.1 b.1 c.1 ∧ bt a.2 b.2 c.2) ↔ (bt (f a).1 (f b).1 (f c).1 ∧ bt (f a).2 (f b).2 (f c).2)) : Iso f where
  inj := inj
  cr := cr
  on a b c := by
    rw [Bool.eq_iff_iff, onP_iff, onP_iff, ← bx]
    have : crossP (f a) (f b) (f c) = 0 ↔ crossP a b c = 0 := by
      rcases cr with h | h
      · rw [h]
      · rw [h]; omega
    rw [this]
theorem iso_dn (b : Pt) : Iso (dn b) :=
  iso_of (fun p q h => by simp only [dn, Prod.mk.injEq] at h; exact Prod.ext (by omega) (by omega))
    (.inl fun p q r => by unfold crossP crossI dn; grind)
    (fun p q r => by unfold bt dn; simp only; omega)
theorem iso_mot {m : Nat} (hm : m < 8) : Iso (mot m) := by
  have ax : ∀ p q : Pt, p.1 = q.1 → p.2 = q.2 → p = q := fun p q h1 h2 => Prod.ext h1 h2
  match m, hm with
  | 0, _ => exact iso_of (fun p q h => h) (.inl fun _ _ _ => rfl) (fun _ _ _ => Iff.rfl)
  | 1, _ => exact iso_of (fun p q h => by simp only [mot, Prod.mk.injEq] at h; exact ax _ _ (by omega) (by omega)) (.inl fun p q r => by unfold crossP crossI mot; grind) (fun p q r => by unfold bt mot; simp only; omega)
  | 2, _ => exact iso_of (fun p q h => by simp only [mot, Prod.mk.injEq] at h; exact ax _ _ (by omega) (by omega)) (.inl fun p q r => by unfold crossP crossI mot; grind) (fun p q r => by unfold bt mot; simp only; omega)
  | 3, _ => exact iso_of (fun p q h => by simp only [mot, Prod.mk.injEq] at h; exact ax _ _ (by omega) (by omega)) (.inl fun p q r => by unfold crossP crossI mot; grind) (fun p q r => by unfold bt mot; simp only; omega)
  | 4, _ => exact iso_of (fun p q h => by simp only [mot, Prod.mk.injEq] at h; exact ax _ _ (by omega) (by omega)) (.inr fun p q r => by unfold crossP crossI mot; grind) (fun p q r => by unfold bt mot; simp only; omega)
  | 5, _ => exact iso_of (fun p q h => by simp only [mot, Prod.mk.injEq] at h; exact ax _ _ (by omega) (by omega)) (.inr fun p q r => by unfold crossP crossI mot; grind) (fun p q r => by unfold bt mot; simp only; omega)
  | 6, _ => exact iso_of (fun p q h => by simp only [mot, Prod.mk.injEq] at h; exact ax _ _ (by omega) (by omega)) (.inr fun p q r => by unfold crossP crossI mot; grind) (fun p q r => by unfold bt mot; simp only; omega)
  | 7, _ => exact iso_of (fun p q h => by simp only [mot, Prod.mk.injEq] at h; exact ax _ _ (by omega) (by omega)) (.inr fun p q r => by unfold crossP crossI mot; grind) (fun p q r => by unfold bt mot; simp only; omega)
  | k + 8, h => omega
theorem Iso.opp {f : Pt → Pt} (h : Iso f) (a b c d : Pt) : opp (f a) (f b) (f c) (f d) = opp a b c d := by
  rw [Bool.eq_iff_iff, opp_iff, opp_iff]
  rcases h.cr with e | e
  · rw [e, e]
  · rw [e, e]; omega
theorem Iso.meet {f : Pt → Pt} (h : Iso f) (a b c d : Pt) : meetI (f a) (f b) (f c) (f d) = 0 ↔ meetI a b c d = 0 := by
  rw [meet_zero, meet_zero, h.opp, h.opp, h.on, h.on, h.on, h.on]
theorem sides_map {f : Pt → Pt} (L : List Pt) : sidesL (L.map f) = (sidesL L).map fun s => (f s.1, f s.2) := by
  rw [sides_eq, sides_eq, List.length_map, List.map_map]
  refine List.map_congr_left fun i hi => ?_
  rw [List.mem_range] at hi
  have hn : nx (L.map f) i = nx L i := by simp [nx]
  have hl : nx L i < L.length := Nat.mod_lt _ (by omega)
  rw [hn, gt_map hi, gt_map hl]
  rfl
theorem good_map {f : Pt → Pt} (h : Iso f) {L : List Pt} (g : Good L) (hok : allOk (L.map f) = true) : Good (L.map f) := by
  obtain ⟨hl, _, hnd, hs⟩ := g
  refine ⟨by rw [List.length_map]; exact hl, hok, ?_, ?_⟩
  · rw [nodup_iff] at hnd ⊢
    intro i k hik hk
    rw [List.length_map] at hk
    rw [gt_map (by omega), gt_map hk]
    exact fun e => hnd i k hik hk (h.inj _ _ e)
  · rw [sides_map]
    intro s hsm t htm hne
    obtain ⟨s', hs', rfl⟩ := List.mem_map.1 hsm
    obtain ⟨t', ht', rfl⟩ := List.mem_map.1 htm
    have hne' : s' ≠ t' := fun e => hne (by rw [e])
    obtain ⟨h1, h2⟩ := hs s' hs' t' ht' hne'
    refine ⟨fun e => ?_, fun e1 e2 => ?_⟩
    · have := h1 (h.inj _ _ e)
      simp only [h.on]
      exact this
    · exact (h.meet _ _ _ _).2 (h2 (fun e => e1 (by rw [e])) (fun e => e2 (by rw [e])))
theorem map_ok {L : List Pt} (hok : allOk L = true) {m : Nat} (hm : m < 8) : allOk (moveL L m) = true := by
  simp only [allOk, List.all_eq_true]
  intro p hp
  obtain ⟨q, hq, rfl⟩ := List.mem_map.1 hp
  obtain ⟨k, hk, rfl⟩ := List.getElem_of_mem hq
  have hk' : k < L.length := by simpa using hk
  rw [← gt_at hk]
  have b1 := low_le hk
  have h0 : 0 < (L.map (mot m)).length := by omega
  obtain ⟨⟨i, hi, e1⟩, ⟨j, hj, e2⟩⟩ := box_at (L := L.map (mot m)) _ (Nat.le_refl _) h0
  have hi' : i < L.length := by simpa using hi
  have hj' : j < L.length := by simpa using hj
  change (lowL _).1 = _ at e1
  change (lowL _).2 = _ at e2
  have ok1 := okP_bounds (all_at hok hk')
  have ok2 := okP_bounds (all_at hok hi')
  have ok3 := okP_bounds (all_at hok hj')
  rw [gt_map hk'] at b1 ⊢
  rw [gt_map hi'] at e1
  rw [gt_map hj'] at e2
  generalize lowL (L.map (mot m)) = b at *
  generalize gt L k = p1 at *
  generalize gt L i = p2 at *
  generalize gt L j = p3 at *
  simp only [okP, Bool.and_eq_true, inB_spec, dn]
  clear hp hq hk hi hj h0
  match m, hm with
  | 0, _ => simp only [mot] at *; omega
  | 1, _ => simp only [mot] at *; omega
  | 2, _ => simp only [mot] at *; omega
  | 3, _ => simp only [mot] at *; omega
  | 4, _ => simp only [mot] at *; omega
  | 5, _ => simp only [mot] at *; omega
  | 6, _ => simp only [mot] at *; omega
  | 7, _ => simp only [mot] at *; omega
  | k + 8, h => omega
theorem iso_move {L : List Pt} {m : Nat} (hm : m < 8) : ∃ f, Iso f ∧ moveL L m = L.map f := by
  refine ⟨dn (lowL (L.map (mot m))) ∘ mot m, ?_, by simp [moveL, cornL]⟩
  have h1 := iso_dn (lowL (L.map (mot m)))
  have h2 := iso_mot hm
  refine ⟨fun a b h => h2.inj _ _ (h1.inj _ _ h), ?_, fun a b c => (h1.on _ _ _).trans (h2.on _ _ _)⟩
  rcases h1.cr with e1 | e1
  · rcases h2.cr with e2 | e2
    · exact .inl fun a b c => (e1 _ _ _).trans (e2 _ _ _)
    · exact .inr fun a b c => (e1 _ _ _).trans (e2 _ _ _)
  · rcases h2.cr with e2 | e2
    · exact .inr fun a b c => (e1 _ _ _).trans (by rw [e2])
    · exact .inl fun a b c => (e1 _ _ _).trans (by rw [e2, Int.neg_neg])
theorem good_move {L : List Pt} (g : Good L) {m : Nat} (hm : m < 8) : Good (moveL L m) := by
  obtain ⟨f, hf, e⟩ := iso_move (L := L) hm
  have ok := map_ok g.2.1 hm
  rw [e] at ok ⊢
  exact good_map hf g ok
theorem poly_move {L : List Pt} (h : polyB L = true) {m : Nat} (hm : m < 8) : polyB (moveL L m) = true := good_poly (good_move (poly_good h) hm)
end Go.Proofs.Ytncahchhinfneaa

/-! MoveS -/
namespace Go.Proofs.Ytncahchhinfneaa
open Go.RowKit

theorem map_step {f : Pt → Pt} {L : List Pt} {k : Nat} (h : k < L.length) : (L.take (k + 1)).map f = (L.take k).map f ++ [f (gt L k)] := by
  rw [List.take_succ_eq_append_getElem h, List.map_append, gt_at h]; rfl
theorem map_len {f : Pt → Pt} {L : List Pt} {k : Nat} (h : k ≤ L.length) : ((L.take k).map f).length = k := by simp; omega
def Bd (B : Int) (L : List Pt) : Prop := ∀ i, i < L.length → -B ≤ (gt L i).1 ∧ (gt L i).1 ≤ B ∧ -B ≤ (gt L i).2 ∧ (gt L i).2 ≤ B
theorem bd_low {B : Int} {L : List Pt} (h : Bd B L) (h0 : 0 < L.length) : ∀ k, k ≤ L.length → -B ≤ (boxTill L k).1.1 ∧ (boxTill L k).1.1 ≤ B ∧ -B ≤ (boxTill L k).1.2 ∧ (boxTill L k).1.2 ≤ B := fun k hk => by
  obtain ⟨⟨i, hi, e1⟩, ⟨j, hj, e2⟩⟩ := box_at (L := L) k hk h0
  have := h i hi
  have := h j hj
  omega
theorem bd_mot {L : List Pt} (hok : allOk L = true) {m : Nat} (hm : m < 8) : Bd 40 (L.map (mot m)) := fun i hi => by
  have hi' : i < L.length := by simpa using hi
  rw [gt_map hi']
  have := okP_bounds (all_at hok hi')
  exact mot_bd hm (by omega)

set_option maxRecDepth 100000 in
set_option maxHeartbeats 2000000 in
theorem corner_any (A : Option Addr) (c : Nat) (L : List Pt) (w : World) (hA : PtsA w A L) (h1 : 1 ≤ L.length) (h2 : L.length ≤ 64) (hbd : Bd 40 L) :
    Calls Try.prog 177 #[.slice A L.length c] w (Lists w (cornL L)) := by
  obtain ⟨i0, hi0, hz0, hz1, hz2⟩ := info_parts infoPt
  obtain ⟨g, rfl, -⟩ := hA 0 h1
  have HA := Lib.hid hA
  have HBD := Lib.hid hbd
  have HLO := Lib.hid (bd_low hbd h1)
  have hmin : ∀ (w : World) (x y : Int) (ts : Array TypeId) (t : TypeId), (Builtin.min_ ts t #[.int .i64 x, .int .i64 y]).run Try.prog w = .ok (.int .i64 (minI x y)) w := run_minI
  obtain ⟨c1, c2⟩ := gt_cells hA (i := 0) (by omega)
  simp only [Nat.zero_mul, Nat.zero_add] at c1 c2
  have hn1 : (0 : Int) < (L.length : Int) := by omega
  have H0 : Hid (boxTill L 0 = (gt L 0, gt L 0)) := rfl
  obtain ⟨X, hX⟩ : ∃ X, X = (gt L 0).1 := ⟨_, rfl⟩
  obtain ⟨Y, hY⟩ : ∃ Y, Y = (gt L 0).2 := ⟨_, rfl⟩
  rw [← hX] at c1; rw [← hY] at c2
  have HX : Hid (X = (boxTill L 0).1.1) := by
    show _ = _
    rw [H0.out]; exact hX
  have HY : Hid (Y = (boxTill L 0).1.2) := by
    show _ = _
    rw [H0.out]; exact hY
  clear hA hbd hX hY H0
  go_enter Try.func177, Try.ntmps177
  go_wp2_with fail
  go_loopw [3, 4, 6, 20] (fun x y _ i wr => ∃ k : Nat, ∃ u v : Int, k ≤ L.length ∧ i = .int .i64 k ∧ x = .int .i64 u ∧ y = .int .i64 v ∧ Hid (u = (boxTill L k).1.1) ∧ Hid (v = (boxTill L k).1.2) ∧ Below w.heap.size w wr) (fun _ _ _ i _ => L.length - (intOf i).toNat)
  case atStart => exact ⟨0, X, Y, Nat.zero_le _, rfl, rfl, rfl, HX, HY, Below.refl _ _⟩
  case round =>
    clear HX HY c1 c2
    obtain ⟨wo, rfl⟩ : ∃ wo : World, wo = wr := ⟨_, rfl⟩
    obtain ⟨k, u, v, hk, rfl, rfl, rfl, HU, HV, hb⟩ := hrel
    by_cases hlt : k < L.length
    · obtain ⟨d1, d2⟩ := gt_cells (ptsA_on HA.out hb) hlt
      have HU2 : Hid (minI u (gt L k).1 = (boxTill L (k + 1)).1.1) := by
        show _ = _
        rw [HU.out]; rfl
      have HV2 : Hid (minI v (gt L k).2 = (boxTill L (k + 1)).1.2) := by
        show _ = _
        rw [HV.out]; rfl
      generalize (gt L k).1 = x at *
      generalize (gt L k).2 = y at *
      have n6 := at_new wo x y 30
      have c5 := n6.c0; have c6 := n6.c1
      have b6 := hb.alloc hb.size (.cells #[.int .i64 x, .int .i64 y] 30)
      clear hb n6 HU HV
      go_wp2_with fail
      go_roundw
      case rel => exact ⟨k + 1, _, _, by omega, by go_num, rfl, rfl, HU2, HV2, b6⟩
      case measure => simp [intOf]; omega
    · obtain rfl : k = L.length := by omega
      have hlo := HLO.out L.length (Nat.le_refl _)
      rw [← HU.out, ← HV.out] at hlo
      have HD : Hid (cornL L = L.map (dn (u, v))) := by
        show _ = _
        rw [HU.out, HV.out]; rfl
      have HL := Lib.hid (below_on (below1 wo (.cells #[] 30)) (Below.refl _ _))
      have own0 := World.ownsRow_lit (base := wo.heap.size) (e := 30) (size := 2) wo #[] 0 (Nat.le_refl _) (by unfold maxLen; omega) (by rfl)
      have b0 := below_on hb (below1 wo (.cells #[] 30))
      have hwo := hb.size
      have own1 := own_base own0 hwo
      clear hb HL own0 HLO HU HV hlt hk hwo
      go_wp2_with fail
      generalize wo.alloc (.cells #[] 30) = W at *
      go_loopw [7, 9, 36] (fun s _ i wr => ∃ (k : Nat) (M : List (Int × Int)), k ≤ L.length ∧ i = .int .i64 k ∧ Hid (M = (L.take k).map (dn (u, v))) ∧ wr.ownsRow w.heap.size 30 2 s M.length (flat M) ∧ Below w.heap.size w wr) (fun _ _ i _ => L.length - (intOf i).toNat)
      case atStart => exact ⟨0, [], Nat.zero_le _, rfl, rfl, own1, b0⟩
      case round =>
        clear own1 b0
        obtain ⟨wo, rfl⟩ : ∃ wo : World, wo = wr := ⟨_, rfl⟩
        obtain ⟨k, M, hk, rfl, HM, own, hb⟩ := hrel
        by_cases hlt : k < L.length
        · have HM2 : Hid (M ++ [((gt L k).1 - u, (gt L k).2 - v)] = (L.take (k + 1)).map (dn (u, v))) := by
            show _ = _
            rw [map_step hlt, HM.out]; rfl
          have hML : M.length ≤ 64 := by rw [HM.out, map_len hk]; omega
          clear HM
          obtain ⟨d5, d6⟩ := gt_cells (ptsA_on HA.out hb) hlt
          have hbd := HBD.out k hlt
          generalize (gt L k).1 = x at *
          generalize (gt L k).2 = y at *
          have f1 : wrap64 (x - u) = x - u := IntWalk.wrap64_in _ (by omega)
          have f2 : wrap64 (y - v) = y - v := IntWalk.wrap64_in _ (by omega)
          have n6 := at_new wo x y 30
          have c5 := n6.c0; have c6 := n6.c1
          have b6 := hb.alloc hb.size (.cells #[.int .i64 x, .int .i64 y] 30)
          have own6 := own.alloc (.cells #[.int .i64 x, .int .i64 y] 30)
          have hs6 := hb.size
          clear hb own hbd n6
          go_wp2_with (at_builtin; refine wpList_append_own _ rfl _ _ 23 rfl w.heap.size 30 i0 (.agg #[.int .i64 0, .int .i64 0]) 2 16 Try.underlying23 hi0 hz0 hz1 hz2 rfl (by decide) _ _ _ rfl (own6.alloc _) ⟨wo.heap.size + 1, 0, none⟩ 1 1 [.int .i64 (x - u), .int .i64 (y - v)] rfl rfl ?d1 ?d2 ?d3 ?d4 ?d5 ?_)
          case d1 => exact World.news_of_block (cs := #[.int .i64 (x - u), .int .i64 (y - v)]) (t := 30) (fr := (0, 0)) (by have := heap_alloc_new (wo.alloc (.cells #[.int .i64 x, .int .i64 y] 30)) (.cells #[.int .i64 (x - u), .int .i64 (y - v)] 30); rwa [size_alloc] at this)
          case d2 => simp [Value.oneCell']
          case d3 => unfold maxLen; omega
          case d4 => omega
          case d5 => simp; omega
          intro v' w7 own7 hgrow _
          have hrw := fun k hk => (own6.lt k hk).1
          have R : Hid (w7.ownsRow w.heap.size 30 2 v' (M ++ [(x - u, y - v)]).length (flat (M ++ [(x - u, y - v)])) ∧ Below w.heap.size w w7) :=
            ⟨by rw [flat_append, List.length_append]; exact own7, (b6.alloc b6.size _).grown hgrow (by simp; omega) hrw⟩
          clear own6 own7 hgrow b6 hrw c5 c6 d5 d6 f1 f2
          go_wp2_with fail
          go_roundw
          case rel => exact ⟨k + 1, M ++ [(x - u, y - v)], by omega, by go_num, HM2, R.out.1, R.out.2⟩
          case measure => simp [intOf]; omega
        · have e : k = L.length := by omega
          have HQ : Hid (M = cornL L) := by
            show _ = _
            rw [HM.out, e, HD.out, List.take_length]
          clear HM e
          go_wp2_with fail
          go_ret
          rw [← HQ.out]
          exact ⟨_, rfl, own, hb⟩
end Go.Proofs.Ytncahchhinfneaa
