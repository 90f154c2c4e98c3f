/-
  heading: the direction along which a side leads, and its steps.
-/
import Derived.Test.YtbmeemmihkedoaaMeas
import Derived.Test.YtbmeemmihkedoaaCmpPt
import Derived.Test.YtbmeemmihkedoaaRight
namespace Go.Proofs.Ytbmeemmihkedoaa
open Go.RowKit

theorem before_down (ax ay bx by' : Int) : beforeB bx by' ax ay = down (bx - ax) (by' - ay) := by
  unfold beforeB down
  rw [Bool.eq_iff_iff]
  simp only [Bool.or_eq_true, Bool.and_eq_true, decide_eq_true_eq, beq_iff_eq]
  omega
theorem impl_bef (ax ay bx by' : Int) (w : World) :
    Calls Try.prog 59 #[(.agg #[.int .i64 ax, .int .i64 ay]), (.agg #[.int .i64 bx, .int .i64 by'])] w fun e w' => e = .returned (.bool (beforeB ax ay bx by')) ∧ Below w.heap.size w w' :=
  (bef_grow ax ay bx by' w).mono (by rintro e w' ⟨rfl, os, rfl⟩; exact ⟨rfl, below_grow _ _⟩)
/-- A boxed side. -/
def SideB (W : World) (g : Nat) (ax ay bx by' : Int) : Prop := W.heap[g]? = some (.cells #[.int .i64 ax, .int .i64 ay, .int .i64 bx, .int .i64 by'] 77 (0, 0))
theorem SideB.lt {W : World} {g : Nat} {ax ay bx by' : Int} (h : SideB W g ax ay bx by') : g < W.heap.size := (Array.getElem?_eq_some_iff.1 h).1
theorem SideB.step {W W' : World} {g : Nat} {ax ay bx by' : Int} (h : SideB W g ax ay bx by') (hb : Below W.heap.size W W') : SideB W' g ax ay bx by' := (hb.block g h.lt).trans h
theorem sideB_new (W : World) (ax ay bx by' : Int) (o : Obj) : SideB ((W.alloc (.cells #[.int .i64 ax, .int .i64 ay, .int .i64 bx, .int .i64 by'] 77)).alloc o) W.heap.size ax ay bx by' :=
  (Below.heap_alloc _ o W.heap.size (by simp)).trans (heap_alloc_new W _)
theorem SideB.cells {W : World} {g : Nat} {ax ay bx by' : Int} (h : SideB W g ax ay bx by') :
    W.cell? ⟨g, 0, none⟩ = some (.int .i64 ax) ∧ W.cell? ⟨g, 1, none⟩ = some (.int .i64 ay) ∧ W.cell? ⟨g, 2, none⟩ = some (.int .i64 bx) ∧ W.cell? ⟨g, 3, none⟩ = some (.int .i64 by') :=
  ⟨cell_of_row W g 0 _ _ _ h, cell_of_row W g 1 _ _ _ h, cell_of_row W g 2 _ _ _ h, cell_of_row W g 3 _ _ _ h⟩
def headV (dx dy : Int) : Value := .tuple #[(.agg #[.int .i64 (dirP dx dy).1, .int .i64 (dirP dx dy).2]), .int .i64 (stp dx dy)]
set_option maxRecDepth 100000 in
set_option maxHeartbeats 2000000 in
theorem head_any (ax ay bx by' : Int) (w : World) (ha : okP ax ay = true) (hb : okP bx by' = true) (hne : ¬ (bx - ax = 0 ∧ by' - ay = 0)) :
    Calls Try.prog 73 #[.agg #[.int .i64 ax, .int .i64 ay, .int .i64 bx, .int .i64 by']] w fun e w' => e = .returned (headV (bx - ax) (by' - ay)) ∧ Below w.heap.size w w' := by
  have h1 := okP_bounds ha; have h2 := okP_bounds hb
  have hn := stp_ne hne
  have hab := stp_abs (bx - ax) (by' - ay)
  have hle : gN (bx - ax) (by' - ay) ≤ 40 := gN_le (by omega) (by omega)
  obtain ⟨hd1, hd2⟩ := dir_small hne (m := 40) (by omega) (by omega)
  have HS := fun W => impl_steps ax ay bx by' W
  have e0 : stepsV ax ay bx by' = (gN (bx - ax) (by' - ay) : Int) := by rw [stepsV, ha, hb]; rfl
  rw [e0] at HS
  have HB := fun W => impl_bef bx by' ax ay W
  rw [before_down] at HB
  have HM := fun W => minus_any bx by' ax ay W
  rw [wrap_id (x := bx - ax) (by omega), wrap_id (x := by' - ay) (by omega)] at HM
  have HV : Hid (headV (bx - ax) (by' - ay) = .tuple #[(.agg #[.int .i64 ((bx - ax).tdiv (stp (bx - ax) (by' - ay))), .int .i64 ((by' - ay).tdiv (stp (bx - ax) (by' - ay)))]), .int .i64 (stp (bx - ax) (by' - ay))]) := rfl
  have hdd : dirP (bx - ax) (by' - ay) = ((bx - ax).tdiv (stp (bx - ax) (by' - ay)), (by' - ay).tdiv (stp (bx - ax) (by' - ay))) := rfl
  have hsd : stp (bx - ax) (by' - ay) = bif down (bx - ax) (by' - ay) then -(gN (bx - ax) (by' - ay) : Int) else (gN (bx - ax) (by' - ay) : Int) := rfl
  rw [hdd] at hd1 hd2
  clear hdd
  generalize stp (bx - ax) (by' - ay) = s at *
  generalize gN (bx - ax) (by' - ay) = g at *
  generalize down (bx - ax) (by' - ay) = d at *
  generalize bx - ax = dx at *
  generalize by' - ay = dy at *
  obtain ⟨q1, hq1⟩ : ∃ q, q = dx.tdiv s := ⟨_, rfl⟩
  obtain ⟨q2, hq2⟩ : ∃ q, q = dy.tdiv s := ⟨_, rfl⟩
  simp only [← hq1, ← hq2] at hd1 hd2 HV
  have HS := Lib.hid HS; have HB := Lib.hid HB; have HM := Lib.hid HM
  have n1 : wrap64 q1 = q1 := wrap_id (by omega)
  have n2 : wrap64 q2 = q2 := wrap_id (by omega)
  have n3 : wrap64 (-(g : Int)) = -(g : Int) := wrap_id (by omega)
  have hG : 0 ≤ (g : Int) := by omega
  clear hab hle e0
  generalize (g : Int) = g at *
  have hb0 := below2 w (.cells #[.int .i64 ax, .int .i64 ay, .int .i64 bx, .int .i64 by'] 77) (.cells #[.int .i64 0, .int .i64 0] 27)
  go_enter Try.func73, Try.ntmps73
  go_wp2_with fail
  refine (HS.out _).mono ?_
  rintro e w3 ⟨rfl, hb3⟩
  have t3 := (sideB_new w ax ay bx by' (.cells #[.int .i64 0, .int .i64 0] 27)).step hb3
  have r3 := (at_new (w.alloc (.cells #[.int .i64 ax, .int .i64 ay, .int .i64 bx, .int .i64 by'] 77)) 0 0 27).step hb3
  have b3 := below_on hb0 hb3
  simp only [World.size_alloc] at r3
  clear hb3 hb0
  obtain ⟨c0, c1, c2, c3⟩ := t3.cells
  go_wp2_with fail
  refine (HB.out _).mono ?_
  rintro e w4 ⟨rfl, hb4⟩
  have t4 := t3.step hb4
  have r4 := r3.step hb4
  have b4 := below_on b3 hb4
  clear hb4 b3 r3 t3 c0 c1 c2 c3
  obtain ⟨c0, c1, c2, c3⟩ := t4.cells
  have RS : ∀ (W : World), At W (w.heap.size + 1) 0 0 27 → Below w.heap.size w W → At ((W.setCell ⟨w.heap.size + 1, 0, none⟩ (.int .i64 q1)).setCell ⟨w.heap.size + 1, 1, none⟩ (.int .i64 q2)) (w.heap.size + 1) q1 q2 27 ∧ Below w.heap.size w (((W.setCell ⟨w.heap.size + 1, 0, none⟩ (.int .i64 q1)).setCell ⟨w.heap.size + 1, 1, none⟩ (.int .i64 q2)).drew) := fun W hr hb =>
    ⟨at_st1 (at_st0 hr q1 0) q2, ((hb.setCell (p := ⟨w.heap.size + 1, 0, none⟩) (Nat.le_succ _) _).setCell (p := ⟨w.heap.size + 1, 1, none⟩) (Nat.le_succ _) _).drew⟩
  have RS := Lib.hid RS
  have hs0 : s ≠ 0 := hn
  have e3 : IntKind.i64.wrap q1 = q1 := IntWalk.i64_in _ (by omega)
  have e4 : IntKind.i64.wrap q2 = q2 := IntWalk.i64_in _ (by omega)
  cases d
  all_goals simp only [cond_true, cond_false] at hsd
  case' false => subst hsd
  case' true => have n4 := n3.trans hsd.symm; clear n3 hsd
  all_goals
    go_wp2_with fail
    refine (HM.out _).mono ?_
    rintro e w5 ⟨rfl, hb5⟩
    have r6 := (r4.step hb5).alloc (.cells #[.int .i64 dx, .int .i64 dy] 27)
    have b5 := (below_on b4 hb5).alloc (Nat.le_trans b4.size hb5.size) (.cells #[.int .i64 dx, .int .i64 dy] 27)
    have a5 := at_new w5 dx dy 27
    clear hb5 b4 r4 t4 c0 c1 c2 c3
    go_wp2_with fail
    have d1 := a5.c0; have d2 := a5.c1
    have d3 := r6.c0; have d4 := r6.c1
    have d5 := at_froz r6 0; have d6 := at_froz r6 1
    obtain ⟨R1, R2⟩ := RS.out _ r6 b5
    have g1 := R1.c0; have g2 := R1.c1
    have f1 : wrap64 (_ : Int) = q1 := (congrArg wrap64 hq1.symm).trans n1
    have f2 : wrap64 (_ : Int) = q2 := (congrArg wrap64 hq2.symm).trans n2
    have f3 : IntKind.i64.wrap (_ : Int) = q1 := (congrArg IntKind.i64.wrap hq1.symm).trans e3
    have f4 : IntKind.i64.wrap (_ : Int) = q2 := (congrArg IntKind.i64.wrap hq2.symm).trans e4
    have R2 := Lib.hid R2
    clear hq1 hq2 n1 n2 e3 e4 R1 RS r6 b5 a5
    go_region
    go_wp2_with fail
    refine bodyPost_ret (v := .tuple #[.agg #[.int .i64 q1, .int .i64 q2], .int .i64 _]) (by simp [results, Try.results73, go_sem, g1, g2]; first | done | rfl) rfl ⟨by rw [HV.out], R2.out⟩
end Go.Proofs.Ytbmeemmihkedoaa
