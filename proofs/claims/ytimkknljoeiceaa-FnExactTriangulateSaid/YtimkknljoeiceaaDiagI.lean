/-
  Walks for IsDiagonal of the program.
-/
import Derived.Test.YtimkknljoeiceaaDiag
import Derived.Test.YtimkknljoeiceaaAround
namespace Go.Proofs.Ytimkknljoeiceaa
open Go.RowKit Go.Shelf Go.Sort
attribute [local go_sem] Oper.semAt_some

def dblTill (L : List (Int × Int)) (k : Nat) : List (Int × Int) := (List.range k).map fun i => dbQ (gt L i)
theorem dblTill_all (L : List (Int × Int)) : dblTill L L.length = dblL L := by
  apply List.ext_getElem (by simp [dblTill, dblL])
  intro i h1 h2
  have hi : i < L.length := by simpa [dblTill] using h1
  simp [dblTill, dblL, gt_at hi]
theorem dblTill_step (L : List (Int × Int)) (k : Nat) : dblTill L (k + 1) = dblTill L k ++ [((gt L k).1 + (gt L k).1, (gt L k).2 + (gt L k).2)] := by
  simp [dblTill, List.range_succ, dbQ]
theorem dblTill_len (L : List (Int × Int)) (k : Nat) : (dblTill L k).length = k := by simp [dblTill]
theorem okP_add {a b : Int × Int} (ha : okP a.1 a.2 = true) (hb : okP b.1 b.2 = true) : smP (a.1 + b.1) (a.2 + b.2) = true := by
  have h1 := okP_bounds ha; have h2 := okP_bounds hb
  simp only [smP, Bool.and_eq_true, decide_eq_true_eq]
  omega
theorem dbl_sm {L : List (Int × Int)} (hok : allOk L = true) (i : Nat) : smP (gt (dblL L) i).1 (gt (dblL L) i).2 = true := by
  rw [dbl_gt]
  exact okP_add (a := gt L i) (b := gt L i) (gt_ok hok i) (gt_ok hok i)
theorem plus_any (ax ay bx by' : Int) (w : World) :
    Calls Try.prog 191 #[(.agg #[.int .i64 ax, .int .i64 ay]), (.agg #[.int .i64 bx, .int .i64 by'])] w fun e w' => e = .returned (.agg #[.int .i64 (wrap64 (ax + bx)), .int .i64 (wrap64 (ay + by'))]) ∧ Below w.heap.size w w' := by
  go_enter Try.func191, Try.ntmps191
  go_wp2_with fail
  go_returns
  exact ⟨rfl, below3 _ _ _ _⟩
theorem plus_ok {ax ay bx by' : Int} (ha : okP ax ay = true) (hb : okP bx by' = true) (w : World) :
    Calls Try.prog 191 #[(.agg #[.int .i64 ax, .int .i64 ay]), (.agg #[.int .i64 bx, .int .i64 by'])] w fun e w' => e = .returned (.agg #[.int .i64 (ax + bx), .int .i64 (ay + by')]) ∧ Below w.heap.size w w' := by
  have h1 := okP_bounds ha; have h2 := okP_bounds hb
  have h := plus_any ax ay bx by' w
  rw [IntWalk.wrap64_in (ax + bx) (by omega), IntWalk.wrap64_in (ay + by') (by omega)] at h
  exact h
theorem ends_at (ax ay bx by' px py : Int) (w : World) :
    Calls Try.prog 190 #[.agg #[.int .i64 ax, .int .i64 ay, .int .i64 bx, .int .i64 by'], (.agg #[.int .i64 px, .int .i64 py])] w fun e w' => e = .returned (.bool (eqQ (ax, ay) (px, py) || eqQ (bx, by') (px, py))) ∧ Below w.heap.size w w' := by
  have GP := guard_pt
  have EP := fun w x y x' y' => eql_pt w x y x' y'
  cases h : (ax == px && ay == py)
  all_goals
    have HV : Hid ((eqQ (ax, ay) (px, py) || eqQ (bx, by') (px, py)) = ((ax == px && ay == py) || (bx == px && by' == py))) := rfl
    rw [h] at HV
    go_enter Try.func190, Try.ntmps190
    go_wp2_with fail
    go_ret
    exact ⟨ret_bool (by rw [HV.out]; rfl), below2 _ _ _⟩
theorem ends_pt (a b p : Int × Int) (w : World) :
    Calls Try.prog 190 #[.agg #[.int .i64 a.1, .int .i64 a.2, .int .i64 b.1, .int .i64 b.2], (.agg #[.int .i64 p.1, .int .i64 p.2])] w fun e w' => e = .returned (.bool (eqQ a p || eqQ b p)) ∧ Below w.heap.size w w' := ends_at a.1 a.2 b.1 b.2 p.1 p.2 w

def wantQ (a b c d : Int × Int) : Int := bif (eqQ c a || eqQ d a) || (eqQ c b || eqQ d b) then 1 else 0
def stepQ (L : List (Int × Int)) (a b : Int × Int) (j : Nat) : Bool := meetV a b (gt L j) (gt L (nx L j)) == wantQ a b (gt L j) (gt L (nx L j))
set_option maxRecDepth 100000 in
set_option maxHeartbeats 4000000 in
theorem at_ends (A : Option Addr) (c : Nat) (L : List (Int × Int)) (a b : Int × Int) (w : World) (hA : PtsA w A L) (h1 : 1 ≤ L.length) (h2 : L.length ≤ 10) :
    Calls Try.prog 174 #[.slice A L.length c, (.agg #[.int .i64 a.1, .int .i64 a.2]), (.agg #[.int .i64 b.1, .int .i64 b.2])] w fun e w' => e = .returned (.bool ((List.range L.length).all (stepQ L a b))) ∧ Below w.heap.size w w' := by
  refine (callsIn_wide (n := 8)).1 ?_
  refine callsIn_of_wp_marks Try.func174 rfl trivial ?_ rfl
  simp only [Try.ntmps174, List.size_toArray, List.length_cons, List.length_nil, Nat.reduceAdd, Nat.reduceSub, Array.replicate_succ, Array.replicate_zero, List.push_toArray, List.append_toArray, List.nil_append, List.cons_append]
  gi_wp2
  refine ⟨trivial, (wide0.calls (sides_any A L.length c _)).mono ?_⟩
  rintro e w3 ⟨rfl, rfl⟩
  gi_wp2
  have bA := (((at_new w a.1 a.2 54).alloc (.cells #[.int .i64 b.1, .int .i64 b.2] 54)).alloc (.cells #[.bool false] 4)).alloc (.cells #[.slice A L.length c] 27)
  have bB := ((at_new (w.alloc (.cells #[.int .i64 a.1, .int .i64 a.2] 54)) b.1 b.2 54).alloc (.cells #[.bool false] 4)).alloc (.cells #[.slice A L.length c] 27)
  have bR := (Boxed.new ((w.alloc (.cells #[.int .i64 a.1, .int .i64 a.2] 54)).alloc (.cells #[.int .i64 b.1, .int .i64 b.2] 54)) 4 (.bool false)).alloc (.cells #[.slice A L.length c] 27)
  have bN := Boxed.new (((w.alloc (.cells #[.int .i64 a.1, .int .i64 a.2] 54)).alloc (.cells #[.int .i64 b.1, .int .i64 b.2] 54)).alloc (.cells #[.bool false] 4)) 27 (.slice A L.length c)
  simp only [World.size_alloc] at bB bR bN
  have hB0 : Below w.heap.size w ((((w.alloc (.cells #[.int .i64 a.1, .int .i64 a.2] 54)).alloc (.cells #[.int .i64 b.1, .int .i64 b.2] 54)).alloc (.cells #[.bool false] 4)).alloc (.cells #[.slice A L.length c] 27)) := (below3 _ _ _ _).alloc (by simp; omega) _
  have hsz : ((((w.alloc (.cells #[.int .i64 a.1, .int .i64 a.2] 54)).alloc (.cells #[.int .i64 b.1, .int .i64 b.2] 54)).alloc (.cells #[.bool false] 4)).alloc (.cells #[.slice A L.length c] 27)).heap.size = w.heap.size + 4 := by simp
  obtain ⟨W0, hW0⟩ : ∃ W0, (((w.alloc (.cells #[.int .i64 a.1, .int .i64 a.2] 54)).alloc (.cells #[.int .i64 b.1, .int .i64 b.2] 54)).alloc (.cells #[.bool false] 4)).alloc (.cells #[.slice A L.length c] 27) = W0 := ⟨_, rfl⟩
  rw [hW0] at bA bB bR bN hB0 hsz ⊢
  clear hW0
  refine wpIn_rangeFunc_ownH rfl (by decide) (gf := 154) (lb := #[.pointer (some ⟨w.heap.size + 1 + 1 + 1, 0, none⟩)]) rfl trivial (enters_of Try.func154 (by kernel_rfl) rfl)
    (sides_stops 7 (w.heap.size + 1 + 1 + 1) A c L w W0 (by omega) (by omega) hA hB0 (by omega) bN.cell) keepP_t (keepP_b (by omega) (by omega)) (Below.refl _ _) (fun _ => rfl)
    (fun pre W => (((((∀ i ∈ pre, stepQ L a b i = true) ∧ Boxed W (w.heap.size + 1 + 1) 4 (.bool false)) ∧ Boxed W (w.heap.size + 1 + 1 + 1) 27 (.slice A L.length c)) ∧ At W w.heap.size a.1 a.2 54) ∧ At W (w.heap.size + 1) b.1 b.2 54) ∧ Below w.heap.size w W)
    (fun co pre W => ((co = .ret ∧ ∃ i ∈ pre, stepQ L a b i = false) ∧ Boxed W (w.heap.size + 1 + 1) 4 (.bool false)) ∧ Below w.heap.size w W)
    (OwnFrom.and (OwnFrom.and (OwnFrom.and (OwnFrom.and (OwnFrom.and (ownFrom_pure _ _) (Own.from (boxed_own _ _ _) _)) (Own.from (boxed_own _ _ _) _)) (fun s X Y row hs hg hr => at_own _ _ _ _ _ () X Y row hs hg hr)) (fun s X Y row hs hg hr => at_own _ _ _ _ _ () X Y row hs hg hr)) (ownFrom_below (Nat.le_refl _) (by omega)))
    (fun co => OwnFrom.and (OwnFrom.and (ownFrom_pure _ _) (Own.from (boxed_own _ _ _) _)) (ownFrom_below (Nat.le_refl _) (by omega)))
    ⟨⟨⟨⟨⟨by simp, bR⟩, bN⟩, bA⟩, bB⟩, hB0⟩
    (fun x a' W => ∃ Bx, w.heap.size + 1 + 1 + 1 < Bx ∧ SideAt W Bx L x ∧ a' = { tmps := #[.slice A L.length c, .agg #[.int .i64 a.1, .int .i64 a.2], .agg #[.int .i64 b.1, .int .i64 b.2], undef, .pointer (some ⟨w.heap.size, 0, none⟩), .pointer (some ⟨w.heap.size + 1, 0, none⟩), .pointer (some ⟨w.heap.size + 1 + 1, 0, none⟩), undef, .pointer (some ⟨Bx, 0, none⟩), undef, .slice A L.length c, .func (.func 154) #[] #[.pointer (some ⟨w.heap.size + 1 + 1 + 1, 0, none⟩)], .int .i64 (x : Int), .agg #[.int .i64 (gt L x).1, .int .i64 (gt L x).2, .int .i64 (gt L (nx L x)).1, .int .i64 (gt L (nx L x)).2], undef, undef, undef, undef, undef, undef, undef, undef, undef, undef, undef, undef, undef, undef, undef, undef, undef], defers := [] })
    (fun x a' _ X Y row hs hg hr => by obtain ⟨Bx, e1, e2, e3⟩ := hs; exact ⟨Bx, e1, sideAt_own Bx L x _ () X Y row e2 hg hr, e3⟩)
    ?assign ?body ?done ?stop
  case assign =>
    rintro l pre x W K ⟨⟨⟨⟨⟨hq1, bR4⟩, bN4⟩, bA4⟩, bB4⟩, hB4⟩ hK
    simp only [sideV]
    gi_wp2
    have hs4 := hB4.size
    have hb := below1 W (.cells #[.int .i64 (gt L x).1, .int .i64 (gt L x).2, .int .i64 (gt L (nx L x)).1, .int .i64 (gt L (nx L x)).2] 114)
    exact hK _ _ (keepsFrom_below hb) (KeepP.of_below hb hs4 bN4.lt) ⟨⟨⟨⟨⟨hq1, boxed_on bR4 hb⟩, boxed_on bN4 hb⟩, bA4.step hb⟩, bB4.step hb⟩, hB4.trans (hb.mono hs4)⟩ ⟨W.heap.size, bN4.lt, sideAt_new W L x, rfl⟩
  case body =>
    rintro l pre x a' W4 hl - ⟨⟨⟨⟨⟨hq1, bR4⟩, bN4⟩, bA4⟩, bB4⟩, hB4⟩ ⟨Bx, hBx, sX4, rfl⟩ hlt
    have hs4 := hB4.size
    have HE1 := Lib.hid (fun W => ends_pt (gt L x) (gt L (nx L x)) a W)
    have HE2 := Lib.hid (fun W => ends_pt (gt L x) (gt L (nx L x)) b W)
    have HM := Lib.hid (fun W => meet_pt a b (gt L x) (gt L (nx L x)) W)
    have HS : Hid (stepQ L a b x = (meetV a b (gt L x) (gt L (nx L x)) == bif (eqQ (gt L x) a || eqQ (gt L (nx L x)) a) || (eqQ (gt L x) b || eqQ (gt L (nx L x)) b) then 1 else 0)) := rfl
    generalize meetV a b (gt L x) (gt L (nx L x)) = mv at *
    generalize (eqQ (gt L x) a || eqQ (gt L (nx L x)) a) = E1 at *
    generalize (eqQ (gt L x) b || eqQ (gt L (nx L x)) b) = E2 at *
    have hk4 : KeepP w.heap.size (w.heap.size + 1 + 1 + 1) W4 W4 := KeepP.of_below (Below.refl _ _) hs4 bN4.lt
    have hf4 : KeepsFrom W0.heap.size W4 W4 := keepsFrom_below (Below.refl _ _)
    obtain ⟨x0, x1, x2, x3⟩ := sX4.cells
    have c0 := bA4.c0; have c1 := bA4.c1; have c2 := bB4.c0; have c3 := bB4.c1
    cases E1
    case true =>
      simp only [Bool.true_or, cond_true] at HS
      gi_wp2
      refine ⟨trivial, ((wideR l).calls (HE1.out _)).mono ?_⟩
      rintro e W5 ⟨rfl, hb5⟩
      have hB5 := hB4.trans (hb5.mono hs4)
      have hs5 := hB5.size
      have bR5 := boxed_on bR4 hb5
      have bN5 := boxed_on bN4 hb5
      have bA5 := bA4.step hb5
      have bB5 := bB4.step hb5
      have sX5 := boxed_side sX4 hb5
      have hk5 := keepP_t hk4 (KeepP.of_below hb5 hs4 bN4.lt)
      have hf5 := hf4.trans (keepsFrom_below (B := W0.heap.size) hb5)
      clear hb5 hB4 bR4 bN4 bA4 bB4 sX4 hk4 hf4 hs4 x0 x1 x2 x3 c0 c1 c2 c3
      obtain ⟨x0, x1, x2, x3⟩ := sX5.cells
      have c0 := bA5.c0; have c1 := bA5.c1; have c2 := bB5.c0; have c3 := bB5.c1
      by_cases hm : mv = 1
      · have hT : stepQ L a b x = true := by rw [HS.out, hm]; rfl
        subst hm
        gi_wp2
        refine ⟨trivial, ?_⟩
        gi_wp2
        refine ⟨trivial, ((wideR l).calls (HM.out _)).mono ?_⟩
        rintro e W6 ⟨rfl, hb6⟩
        have hB6 := hB5.trans (hb6.mono hs5)
        have hs6 := hB6.size
        have bR6 := boxed_on bR5 hb6
        have bN6 := boxed_on bN5 hb6
        have bA6 := bA5.step hb6
        have bB6 := bB5.step hb6
        have sX6 := boxed_side sX5 hb6
        have hk6 := keepP_t hk5 (KeepP.of_below hb6 hs5 bN5.lt)
        have hf6 := hf5.trans (keepsFrom_below (B := W0.heap.size) hb6)
        clear hb6 hB5 bR5 bN5 bA5 bB5 sX5 hk5 hf5 hs5 x0 x1 x2 x3 c0 c1 c2 c3
        obtain ⟨x0, x1, x2, x3⟩ := sX6.cells
        have c0 := bA6.c0; have c1 := bA6.c1; have c2 := bB6.c0; have c3 := bB6.c1
        have HN : Hid (∀ i ∈ pre ++ [x], stepQ L a b i = true) := fun z hz => (List.mem_append.1 hz).elim (hq1 z) (fun e => by simp at e; subst e; exact hT)
        clear hT hq1
        gi_wp2
        exact ⟨hf6, hk6, ⟨⟨⟨⟨HN.out, bR6⟩, bN6⟩, bA6⟩, bB6⟩, hB6⟩
      · have HT : Hid (stepQ L a b x = false) := by show _ = _; rw [HS.out]; simpa using hm
        have hne : (mv != 1) = true := by simpa using hm
        gi_wp2
        refine ⟨trivial, ?_⟩
        gi_wp2
        refine ⟨trivial, ((wideR l).calls (HM.out _)).mono ?_⟩
        rintro e W6 ⟨rfl, hb6⟩
        have hB6 := hB5.trans (hb6.mono hs5)
        have hs6 := hB6.size
        have bR6 := boxed_on bR5 hb6
        have bN6 := boxed_on bN5 hb6
        have bA6 := bA5.step hb6
        have bB6 := bB5.step hb6
        have sX6 := boxed_side sX5 hb6
        have hk6 := keepP_t hk5 (KeepP.of_below hb6 hs5 bN5.lt)
        have hf6 := hf5.trans (keepsFrom_below (B := W0.heap.size) hb6)
        clear hb6 hB5 bR5 bN5 bA5 bB5 sX5 hk5 hf5 hs5 x0 x1 x2 x3 c0 c1 c2 c3
        obtain ⟨x0, x1, x2, x3⟩ := sX6.cells
        have c0 := bA6.c0; have c1 := bA6.c1; have c2 := bB6.c0; have c3 := bB6.c1
        have cR := bR6.cell
        have fR := bR6.frozen
        gi_wp2
        exact ⟨hf6.trans ((KeepsOthers.setCell _ _ _).from _), ⟨⟨rfl, x, List.mem_append.2 (.inr (by simp)), HT.out⟩, bR6.set _⟩, hB6.setCell (p := ⟨w.heap.size + 1 + 1, 0, none⟩) (by simp; omega) _⟩
    case false =>
      simp only [Bool.false_or] at HS
      gi_wp2
      refine ⟨trivial, ((wideR l).calls (HE1.out _)).mono ?_⟩
      rintro e W5 ⟨rfl, hb5⟩
      have hB5 := hB4.trans (hb5.mono hs4)
      have hs5 := hB5.size
      have bR5 := boxed_on bR4 hb5
      have bN5 := boxed_on bN4 hb5
      have bA5 := bA4.step hb5
      have bB5 := bB4.step hb5
      have sX5 := boxed_side sX4 hb5
      have hk5 := keepP_t hk4 (KeepP.of_below hb5 hs4 bN4.lt)
      have hf5 := hf4.trans (keepsFrom_below (B := W0.heap.size) hb5)
      clear hb5 hB4 bR4 bN4 bA4 bB4 sX4 hk4 hf4 hs4 x0 x1 x2 x3 c0 c1 c2 c3
      obtain ⟨x0, x1, x2, x3⟩ := sX5.cells
      have c0 := bA5.c0; have c1 := bA5.c1; have c2 := bB5.c0; have c3 := bB5.c1
      gi_wp2
      refine ⟨trivial, ((wideR l).calls (HE2.out _)).mono ?_⟩
      rintro e W6 ⟨rfl, hb6⟩
      have hB6 := hB5.trans (hb6.mono hs5)
      have hs6 := hB6.size
      have bR6 := boxed_on bR5 hb6
      have bN6 := boxed_on bN5 hb6
      have bA6 := bA5.step hb6
      have bB6 := bB5.step hb6
      have sX6 := boxed_side sX5 hb6
      have hk6 := keepP_t hk5 (KeepP.of_below hb6 hs5 bN5.lt)
      have hf6 := hf5.trans (keepsFrom_below (B := W0.heap.size) hb6)
      clear hb6 hB5 bR5 bN5 bA5 bB5 sX5 hk5 hf5 hs5 x0 x1 x2 x3 c0 c1 c2 c3
      obtain ⟨x0, x1, x2, x3⟩ := sX6.cells
      have c0 := bA6.c0; have c1 := bA6.c1; have c2 := bB6.c0; have c3 := bB6.c1
      cases E2
      case true =>
        simp only [cond_true] at HS
        by_cases hm : mv = 1
        · have hT : stepQ L a b x = true := by rw [HS.out, hm]; rfl
          subst hm
          gi_wp2
          refine ⟨trivial, ((wideR l).calls (HM.out _)).mono ?_⟩
          rintro e W7 ⟨rfl, hb7⟩
          have hB7 := hB6.trans (hb7.mono hs6)
          have hs7 := hB7.size
          have bR7 := boxed_on bR6 hb7
          have bN7 := boxed_on bN6 hb7
          have bA7 := bA6.step hb7
          have bB7 := bB6.step hb7
          have sX7 := boxed_side sX6 hb7
          have hk7 := keepP_t hk6 (KeepP.of_below hb7 hs6 bN6.lt)
          have hf7 := hf6.trans (keepsFrom_below (B := W0.heap.size) hb7)
          clear hb7 hB6 bR6 bN6 bA6 bB6 sX6 hk6 hf6 hs6 x0 x1 x2 x3 c0 c1 c2 c3
          obtain ⟨x0, x1, x2, x3⟩ := sX7.cells
          have c0 := bA7.c0; have c1 := bA7.c1; have c2 := bB7.c0; have c3 := bB7.c1
          have HN : Hid (∀ i ∈ pre ++ [x], stepQ L a b i = true) := fun z hz => (List.mem_append.1 hz).elim (hq1 z) (fun e => by simp at e; subst e; exact hT)
          clear hT hq1
          gi_wp2
          exact ⟨hf7, hk7, ⟨⟨⟨⟨HN.out, bR7⟩, bN7⟩, bA7⟩, bB7⟩, hB7⟩
        · have HT : Hid (stepQ L a b x = false) := by show _ = _; rw [HS.out]; simpa using hm
          have hne : (mv != 1) = true := by simpa using hm
          gi_wp2
          refine ⟨trivial, ((wideR l).calls (HM.out _)).mono ?_⟩
          rintro e W7 ⟨rfl, hb7⟩
          have hB7 := hB6.trans (hb7.mono hs6)
          have hs7 := hB7.size
          have bR7 := boxed_on bR6 hb7
          have bN7 := boxed_on bN6 hb7
          have bA7 := bA6.step hb7
          have bB7 := bB6.step hb7
          have sX7 := boxed_side sX6 hb7
          have hk7 := keepP_t hk6 (KeepP.of_below hb7 hs6 bN6.lt)
          have hf7 := hf6.trans (keepsFrom_below (B := W0.heap.size) hb7)
          clear hb7 hB6 bR6 bN6 bA6 bB6 sX6 hk6 hf6 hs6 x0 x1 x2 x3 c0 c1 c2 c3
          obtain ⟨x0, x1, x2, x3⟩ := sX7.cells
          have c0 := bA7.c0; have c1 := bA7.c1; have c2 := bB7.c0; have c3 := bB7.c1
          have cR := bR7.cell
          have fR := bR7.frozen
          gi_wp2
          exact ⟨hf7.trans ((KeepsOthers.setCell _ _ _).from _), ⟨⟨rfl, x, List.mem_append.2 (.inr (by simp)), HT.out⟩, bR7.set _⟩, hB7.setCell (p := ⟨w.heap.size + 1 + 1, 0, none⟩) (by simp; omega) _⟩
      case false =>
        simp only [cond_false] at HS
        by_cases hm : mv = 0
        · have hT : stepQ L a b x = true := by rw [HS.out, hm]; rfl
          subst hm
          gi_wp2
          refine ⟨trivial, ((wideR l).calls (HM.out _)).mono ?_⟩
          rintro e W7 ⟨rfl, hb7⟩
          have hB7 := hB6.trans (hb7.mono hs6)
          have hs7 := hB7.size
          have bR7 := boxed_on bR6 hb7
          have bN7 := boxed_on bN6 hb7
          have bA7 := bA6.step hb7
          have bB7 := bB6.step hb7
          have sX7 := boxed_side sX6 hb7
          have hk7 := keepP_t hk6 (KeepP.of_below hb7 hs6 bN6.lt)
          have hf7 := hf6.trans (keepsFrom_below (B := W0.heap.size) hb7)
          clear hb7 hB6 bR6 bN6 bA6 bB6 sX6 hk6 hf6 hs6 x0 x1 x2 x3 c0 c1 c2 c3
          obtain ⟨x0, x1, x2, x3⟩ := sX7.cells
          have c0 := bA7.c0; have c1 := bA7.c1; have c2 := bB7.c0; have c3 := bB7.c1
          have HN : Hid (∀ i ∈ pre ++ [x], stepQ L a b i = true) := fun z hz => (List.mem_append.1 hz).elim (hq1 z) (fun e => by simp at e; subst e; exact hT)
          clear hT hq1
          gi_wp2
          exact ⟨hf7, hk7, ⟨⟨⟨⟨HN.out, bR7⟩, bN7⟩, bA7⟩, bB7⟩, hB7⟩
        · have HT : Hid (stepQ L a b x = false) := by show _ = _; rw [HS.out]; simpa using hm
          have hne : (mv != 0) = true := by simpa using hm
          gi_wp2
          refine ⟨trivial, ((wideR l).calls (HM.out _)).mono ?_⟩
          rintro e W7 ⟨rfl, hb7⟩
          have hB7 := hB6.trans (hb7.mono hs6)
          have hs7 := hB7.size
          have bR7 := boxed_on bR6 hb7
          have bN7 := boxed_on bN6 hb7
          have bA7 := bA6.step hb7
          have bB7 := bB6.step hb7
          have sX7 := boxed_side sX6 hb7
          have hk7 := keepP_t hk6 (KeepP.of_below hb7 hs6 bN6.lt)
          have hf7 := hf6.trans (keepsFrom_below (B := W0.heap.size) hb7)
          clear hb7 hB6 bR6 bN6 bA6 bB6 sX6 hk6 hf6 hs6 x0 x1 x2 x3 c0 c1 c2 c3
          obtain ⟨x0, x1, x2, x3⟩ := sX7.cells
          have c0 := bA7.c0; have c1 := bA7.c1; have c2 := bB7.c0; have c3 := bB7.c1
          have cR := bR7.cell
          have fR := bR7.frozen
          gi_wp2
          exact ⟨hf7.trans ((KeepsOthers.setCell _ _ _).from _), ⟨⟨rfl, x, List.mem_append.2 (.inr (by simp)), HT.out⟩, bR7.set _⟩, hB7.setCell (p := ⟨w.heap.size + 1 + 1, 0, none⟩) (by simp; omega) _⟩
  case done =>
    rintro D zs W hD rfl ⟨⟨⟨⟨⟨hq1, bR4⟩, bN4⟩, bA4⟩, bB4⟩, hB4⟩ hK
    have cR := bR4.cell
    have fR := bR4.frozen
    gi_wp2
    have hK' := (KeepsOthers.setCell W ⟨w.heap.size + 1 + 1, 0, none⟩ (.bool true)).same D _ hK rfl
    refine ⟨by simp, .inl ⟨_, _, rfl, run_takeDeferred hK', ?_⟩⟩
    have hc5 := cell_kept (bR4.set (.bool true)).cell (grownBy_putObj' _ D (.deferred none)) (fun r e => by cases e; exact ⟨_, hK', rfl⟩)
    have hall : (List.range L.length).all (stepQ L a b) = true := List.all_eq_true.2 hq1
    refine ⟨.bool true, ?_, by rw [hall], (hB4.setCell (p := ⟨w.heap.size + 1 + 1, 0, none⟩) (by simp; omega) _).trans (belowK_b (w := w) (Nat.le_refl _) _ D _ _ (by omega) hK' rfl rfl)⟩
    simp [results, Try.f174, go_sem, hc5]
  case stop =>
    rintro D co pre W hD ⟨k, hk, rfl⟩ ⟨⟨⟨rfl, j, hj, hjb⟩, bR1⟩, hB1⟩ hK
    gi_wp2
    refine ⟨by simp, .inl ⟨_, _, rfl, run_takeDeferred hK, ?_⟩⟩
    have hc5 := cell_kept bR1.cell (grownBy_putObj' _ D (.deferred none)) (fun r e => by cases e; exact ⟨_, hK, rfl⟩)
    have hall : (List.range L.length).all (stepQ L a b) = false := by
      simp only [List.all_eq_false]
      exact ⟨j, by simp only [List.mem_range] at hj ⊢; omega, by rw [hjb]; exact Bool.false_ne_true⟩
    refine ⟨.bool false, ?_, by rw [hall], hB1.trans (belowK_b (w := w) (Nat.le_refl _) _ D _ _ (by omega) hK rfl rfl)⟩
    simp [results, Try.f174, go_sem, hc5]
end Go.Proofs.Ytimkknljoeiceaa
