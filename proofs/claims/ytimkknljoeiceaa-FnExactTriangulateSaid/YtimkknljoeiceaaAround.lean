/-
  A walk for isAround of the program, at small points.
-/
import Derived.Test.YtimkknljoeiceaaRight
import Derived.Test.YtimkknljoeiceaaKeep
import Derived.Test.YtimkknljoeiceaaIn
namespace Go.Proofs.Ytimkknljoeiceaa
open Go.RowKit Go.Shelf Go.Sort
attribute [local go_sem] Oper.semAt_some

theorem at_own (g : Nat) (x y : Int) (t : TypeId) (B : Nat) : OwnFrom B (fun (_ : Unit) W => At W g x y t) := fun _ X Y row hs hg hr =>
  (hg.block g hs.lt (fun e => by
    obtain ⟨_, o, ho, hc⟩ := hr g e.symm
    rw [show X.heap[g]? = _ from hs] at ho
    cases ho; cases hc)).trans hs
def flipL (L : List (Int × Int)) (p : Int × Int) (l : List Nat) : Bool := l.foldl (fun b i => bif rightB (gt L i) (gt L (nx L i)) p then !b else b) false
theorem flipL_snoc (L : List (Int × Int)) (p : Int × Int) (l : List Nat) (x : Nat) : flipL L p (l ++ [x]) = bif rightB (gt L x) (gt L (nx L x)) p then !(flipL L p l) else flipL L p l := by simp [flipL]
theorem crossI_swap (ax ay bx by' px py : Int) : crossI bx by' ax ay px py = -(crossI ax ay bx by' px py) := by
  unfold crossI
  simp only [Int.sub_mul, Int.mul_sub, Int.neg_sub]
  simp only [Int.mul_comm]
  omega
theorem sgn_gt (n : Int) : decide (0 < sgn n) = decide (0 < n) := by
  unfold sgn
  by_cases h : 0 < n
  · simp [h]
  · by_cases h2 : n < 0 <;> simp [h, h2]
theorem right_flip (L : List (Int × Int)) (p : Int × Int) (i : Nat) : rightB (gt L i) (gt L (nx L i)) p = flipT L p i := by
  unfold rightB flipT loB crossP
  rw [crossI_swap (gt L i).1 (gt L i).2]
  generalize crossI (gt L i).1 (gt L i).2 (gt L (nx L i)).1 (gt L (nx L i)).2 p.1 p.2 = s
  generalize (gt L i).2 = ay
  generalize (gt L (nx L i)).2 = by'
  generalize p.2 = py
  rw [Bool.eq_iff_iff]
  by_cases h : by' < ay
  · have e1 : decide (by' < ay) = true := decide_eq_true h
    have e2 : decide (ay < by') = false := decide_eq_false (by omega)
    rw [e1, e2]
    simp only [cond_true, Bool.false_and, Bool.false_or, Bool.true_and, Bool.and_eq_true, decide_eq_true_eq, bne_iff_ne, ne_eq, decide_eq_decide]
    omega
  · have e1 : decide (by' < ay) = false := decide_eq_false h
    rw [e1]
    simp only [cond_false, Bool.false_and, Bool.or_false, Bool.and_eq_true, decide_eq_true_eq, bne_iff_ne, ne_eq, decide_eq_decide]
    omega
theorem flipL_range (L : List (Int × Int)) (p : Int × Int) (n : Nat) : flipL L p (List.range n) = insT (flipT L p) n := by
  induction n with
  | zero => rfl
  | succ n ih => rw [List.range_succ, flipL_snoc, ih, right_flip]; rfl
/-- Whether a ray to the right passes through an odd number of sides. -/
def aroundB (L : List (Int × Int)) (p : Int × Int) : Bool := insT (flipT L p) L.length
theorem right_pt (a b p : Int × Int) (w : World) (ha : smP a.1 a.2 = true) (hb : smP b.1 b.2 = true) (hp : smP p.1 p.2 = true) :
    Calls Try.prog 157 #[.agg #[.int .i64 a.1, .int .i64 a.2, .int .i64 b.1, .int .i64 b.2], (.agg #[.int .i64 p.1, .int .i64 p.2])] w fun e w' => e = .returned (.bool (rightB a b p)) ∧ Below w.heap.size w w' := right_sm a.1 a.2 b.1 b.2 p.1 p.2 w ha hb hp

set_option maxRecDepth 100000 in
set_option maxHeartbeats 4000000 in
theorem around_sm (A : Option Addr) (c : Nat) (L : List (Int × Int)) (p : Int × Int) (w : World) (hA : PtsA w A L) (h1 : 1 ≤ L.length) (h2 : L.length ≤ 10) (hok : ∀ i, smP (gt L i).1 (gt L i).2 = true) (hq : smP p.1 p.2 = true) :
    Calls Try.prog 112 #[.slice A L.length c, (.agg #[.int .i64 p.1, .int .i64 p.2])] w fun e w' => e = .returned (.bool (aroundB L p)) ∧ Below w.heap.size w w' := by
  refine (callsIn_wide (n := 6)).1 ?_
  refine callsIn_of_wp_marks Try.func112 rfl trivial ?_ rfl
  simp only [Try.ntmps112, List.size_toArray, List.length_cons, List.length_nil, Nat.reduceAdd, Nat.reduceSub, Array.replicate_succ, Array.replicate_zero, List.push_toArray, List.append_toArray, List.nil_append, List.cons_append]
  gi_wp2
  refine ⟨trivial, (wide0.calls (sides_any A L.length c _)).mono ?_⟩
  rintro e w3 ⟨rfl, rfl⟩
  gi_wp2
  have bX3 := ((at_new w p.1 p.2 54).alloc (.cells #[.bool false] 4)).alloc (.cells #[.slice A L.length c] 27)
  have bI := (Boxed.new (w.alloc (.cells #[.int .i64 p.1, .int .i64 p.2] 54)) 4 (.bool false)).alloc (.cells #[.slice A L.length c] 27)
  have bN := Boxed.new ((w.alloc (.cells #[.int .i64 p.1, .int .i64 p.2] 54)).alloc (.cells #[.bool false] 4)) 27 (.slice A L.length c)
  simp only [World.size_alloc] at bI bN
  have hB0 : Below w.heap.size w (((w.alloc (.cells #[.int .i64 p.1, .int .i64 p.2] 54)).alloc (.cells #[.bool false] 4)).alloc (.cells #[.slice A L.length c] 27)) := below3 _ _ _ _
  have hsz : (((w.alloc (.cells #[.int .i64 p.1, .int .i64 p.2] 54)).alloc (.cells #[.bool false] 4)).alloc (.cells #[.slice A L.length c] 27)).heap.size = w.heap.size + 3 := by simp
  obtain ⟨W0, hW0⟩ : ∃ W0, ((w.alloc (.cells #[.int .i64 p.1, .int .i64 p.2] 54)).alloc (.cells #[.bool false] 4)).alloc (.cells #[.slice A L.length c] 27) = W0 := ⟨_, rfl⟩
  rw [hW0] at bX3 bI bN hB0 hsz ⊢
  clear hW0
  refine wpIn_rangeFunc_ownH rfl (by decide) (gf := 154) (lb := #[.pointer (some ⟨w.heap.size + 1 + 1, 0, none⟩)]) rfl trivial (enters_of Try.func154 (by kernel_rfl) rfl)
    (sides_stops 5 (w.heap.size + 1 + 1) A c L w W0 (by omega) (by omega) hA hB0 (by omega) bN.cell) keepP_t (keepP_b (by omega) (by omega)) (Below.refl _ _) (fun _ => rfl)
    (fun pre W => ((Boxed W (w.heap.size + 1) 4 (.bool (flipL L p pre)) ∧ Boxed W (w.heap.size + 1 + 1) 27 (.slice A L.length c)) ∧ At W w.heap.size p.1 p.2 54) ∧ Below w.heap.size w W)
    (fun _ _ _ => False)
    (OwnFrom.and (OwnFrom.and (OwnFrom.and (Own.from (boxed_own _ _ _) _) (Own.from (boxed_own _ _ _) _)) (fun s X Y row hs hg hr => at_own _ _ _ _ _ () X Y row hs hg hr)) (ownFrom_below (Nat.le_refl _) (by omega)))
    (fun _ => ownFrom_pure _ (fun _ => False))
    ⟨⟨⟨bI, bN⟩, bX3⟩, hB0⟩
    (fun x a' W => ∃ Bx, w.heap.size + 1 + 1 < Bx ∧ SideAt W Bx L x ∧ a' = { tmps := #[.slice A L.length c, .agg #[.int .i64 p.1, .int .i64 p.2], undef, .pointer (some ⟨w.heap.size, 0, none⟩), .bool false, .pointer (some ⟨w.heap.size + 1, 0, none⟩), undef, .pointer (some ⟨Bx, 0, none⟩), .slice A L.length c, .func (.func 154) #[] #[.pointer (some ⟨w.heap.size + 1 + 1, 0, none⟩)], .int .i64 (x : Int), .agg #[.int .i64 (gt L x).1, .int .i64 (gt L x).2, .int .i64 (gt L (nx L x)).1, .int .i64 (gt L (nx L x)).2], undef, undef, undef, undef, undef, undef], defers := [] })
    (fun x a' _ X Y row hs hg hr => by obtain ⟨Bx, e1, e2, e3⟩ := hs; exact ⟨Bx, e1, sideAt_own Bx L x _ () X Y row e2 hg hr, e3⟩)
    ?assign ?body ?done ?stop
  case assign =>
    rintro l pre x W K ⟨⟨⟨bI4, bN4⟩, bX4⟩, hB4⟩ hK
    simp only [sideV]
    gi_wp2
    have hs4 := hB4.size
    have hb := below1 W (.cells #[.int .i64 (gt L x).1, .int .i64 (gt L x).2, .int .i64 (gt L (nx L x)).1, .int .i64 (gt L (nx L x)).2] 114)
    exact hK _ _ (keepsFrom_below hb) (KeepP.of_below hb hs4 bN4.lt) ⟨⟨⟨boxed_on bI4 hb, boxed_on bN4 hb⟩, bX4.step hb⟩, hB4.trans (hb.mono hs4)⟩ ⟨W.heap.size, bN4.lt, sideAt_new W L x, rfl⟩
  case body =>
    rintro l pre x a' W hl - ⟨⟨⟨bI5, bN5⟩, bX5⟩, hB5⟩ ⟨Bx, hBx, sX, rfl⟩ hlt
    have hs5 := hB5.size
    have HR := Lib.hid (fun W => right_pt (gt L x) (gt L (nx L x)) p W (hok _) (hok _) hq)
    have HF := Lib.hid (flipL_snoc L p pre x)
    obtain ⟨x0, x1, x2, x3⟩ := sX.cells
    have c0 := bX5.c0; have c1 := bX5.c1
    gi_wp2
    refine ⟨trivial, ((wideR l).calls (HR.out _)).mono ?_⟩
    rintro e W6 ⟨rfl, hb6⟩
    have hB6 := hB5.trans (hb6.mono hs5)
    have bI6 := boxed_on bI5 hb6
    have bN6 := boxed_on bN5 hb6
    have bX6 := bX5.step hb6
    have hK6 := KeepP.of_below hb6 hs5 bN5.lt
    have hF6 := keepsFrom_below (B := W0.heap.size) hb6
    clear hb6 hB5 bI5 bN5 bX5 sX x0 x1 x2 x3 c0 c1
    have cI := bI6.cell
    have fI := bI6.frozen
    generalize flipL L p pre = fb at *
    cases hr : rightB (gt L x) (gt L (nx L x)) p
    · rw [hr] at HF
      gi_wp2
      exact ⟨hF6, hK6, ⟨⟨by rw [HF.out]; exact bI6, bN6⟩, bX6⟩, hB6⟩
    · rw [hr] at HF
      gi_wp2
      exact ⟨hF6.trans ((KeepsOthers.setCell _ _ _).from _), hK6.setCell (by omega) (by omega) _ _, ⟨⟨by rw [HF.out]; exact bI6.set _, bN6.other (by omega) _⟩, at_set bX6 (by omega) _ _⟩, hB6.setCell (p := ⟨w.heap.size + 1, 0, none⟩) (by simp) _⟩
  case done =>
    rintro D zs W hD rfl ⟨⟨⟨bI4, bN4⟩, bX4⟩, hB4⟩ hK
    have cI := bI4.cell
    have HF := Lib.hid (flipL_range L p L.length)
    gi_wp2
    refine ⟨by simp, .inl ⟨_, _, rfl, run_takeDeferred hK, ?_⟩⟩
    exact ⟨_, results_tmp rfl _ _ _, by rw [HF.out]; rfl, hB4.trans (belowK_b (w := w) (Nat.le_refl _) W D _ _ (by omega) hK rfl rfl)⟩
  case stop =>
    rintro D k pre W hD hpre h hK
    exact h.elim
end Go.Proofs.Ytimkknljoeiceaa
