/-
  A walk for IsInside of the program.
-/
import Derived.Test.YtimkknljoeiceaaAround
import Derived.Test.YtimkknljoeiceaaIn
namespace Go.Proofs.Ytimkknljoeiceaa
open Go.RowKit Go.Shelf Go.Sort
attribute [local go_sem] Oper.semAt_some

def onQ (a b p : Int × Int) : Bool := onV a.1 a.2 b.1 b.2 p.1 p.2
theorem onQ_ok {a b p : Int × Int} (ha : okP a.1 a.2 = true) (hb : okP b.1 b.2 = true) (hp : okP p.1 p.2 = true) : onQ a b p = onP a b p := by
  unfold onQ onV onP
  rw [ha, hb, hp]; rfl
theorem crossV_ok {ax ay bx by' px py : Int} (ha : okP ax ay = true) (hb : okP bx by' = true) (hp : okP px py = true) : crossV ax ay bx by' px py = crossI ax ay bx by' px py := by
  unfold crossV
  rw [ha, hb, hp]; rfl
theorem on_pt (a b p : Int × Int) (w : World) :
    Calls Try.prog 111 #[(.agg #[.int .i64 a.1, .int .i64 a.2]), (.agg #[.int .i64 b.1, .int .i64 b.2]), (.agg #[.int .i64 p.1, .int .i64 p.2])] w fun e w' => e = .returned (.bool (onQ a b p)) ∧ Below w.heap.size w w' := impl_on a.1 a.2 b.1 b.2 p.1 p.2 w
set_option maxRecDepth 100000 in
set_option maxHeartbeats 4000000 in
theorem impl_inside_yes (A : Option Addr) (c : Nat) (L : List (Int × Int)) (p : Int × Int) (w : World) (hA : PtsA w A L) (hp : polyB L = true) (hq : okP p.1 p.2 = true) :
    Calls Try.prog 52 #[.slice A L.length c, (.agg #[.int .i64 p.1, .int .i64 p.2])] w fun e w' => e = .returned (.bool (insideB L p)) ∧ Below w.heap.size w w' := by
  obtain ⟨h3, h10, hok⟩ := polyB_all hp
  refine (callsIn_wide (n := 6)).1 ?_
  refine callsIn_of_wp_marks Try.func52 rfl trivial ?_ rfl
  simp only [Try.ntmps52, List.size_toArray, List.length_cons, List.length_nil, Nat.reduceAdd, Nat.reduceSub, Array.replicate_succ, Array.replicate_zero, List.push_toArray, List.append_toArray, List.nil_append, List.cons_append]
  have PC := Lib.hid (fun (W : World) (hb : Below w.heap.size w W) => impl_poly A c L W (ptsA_on hA hb) (by omega))
  rw [hp] at PC
  have bX := at_new w p.1 p.2 54
  have hB0 := below2 w (.cells #[.int .i64 p.1, .int .i64 p.2] 54) (.cells #[.bool false] 4)
  gi_wp2
  refine ⟨trivial, (wide0.calls (PC.out _ hB0)).mono ?_⟩
  rintro e w1 ⟨rfl, hb1⟩
  have hB1 := hB0.trans (hb1.mono hB0.size)
  have bX1 := (bX.alloc (.cells #[.bool false] 4)).step hb1
  have bR1 := boxed_on (Boxed.new (w.alloc (.cells #[.int .i64 p.1, .int .i64 p.2] 54)) 4 (.bool false)) hb1
  simp only [size_alloc] at bR1
  have hs1 : w.heap.size + 2 ≤ w1.heap.size := by have := hb1.size; simp at this; omega
  have c0 := bX1.c0; have c1 := bX1.c1
  clear hb1 bX hB0
  gi_wp2
  refine ⟨trivial, (wide0.calls (impl_ok p.1 p.2 w1)).mono ?_⟩
  rintro e w2 ⟨rfl, hb2⟩
  rw [hq]
  have hB2 := hB1.trans (hb2.mono hB1.size)
  have bX2 := bX1.step hb2
  have bR2 := boxed_on bR1 hb2
  have hs2 : w.heap.size + 2 ≤ w2.heap.size := by have := hb2.size; omega
  have c0 := bX2.c0; have c1 := bX2.c1
  clear hb2 hB1 bX1 bR1 hs1
  gi_wp2
  refine ⟨trivial, (wide0.calls (sides_any A L.length c _)).mono ?_⟩
  rintro e w3 ⟨rfl, rfl⟩
  gi_wp2
  have bX3 := bX2.alloc (.cells #[.slice A L.length c] 27)
  have bR3 := bR2.alloc (.cells #[.slice A L.length c] 27)
  have bN := Boxed.new w2 27 (.slice A L.length c)
  have hB0 : Below w.heap.size w (w2.alloc (.cells #[.slice A L.length c] 27)) := hB2.alloc (by omega) _
  have hsz : (w2.alloc (.cells #[.slice A L.length c] 27)).heap.size = w2.heap.size + 1 := by simp
  obtain ⟨W0, hW0⟩ : ∃ W0, w2.alloc (.cells #[.slice A L.length c] 27) = W0 := ⟨_, rfl⟩
  rw [hW0] at bX3 bR3 bN hB0 hsz ⊢
  clear hW0 c0 c1
  refine wpIn_rangeFunc_ownH rfl (by decide) (gf := 154) (lb := #[.pointer (some ⟨w2.heap.size, 0, none⟩)]) rfl trivial (enters_of Try.func154 (by kernel_rfl) rfl)
    (sides_stops 5 w2.heap.size A c L w W0 (by omega) (by omega) hA hB0 (by omega) bN.cell) keepP_t (keepP_b (by omega) (by omega)) (Below.refl _ _) (fun _ => rfl)
    (fun pre W => ((((∀ i ∈ pre, onQ (gt L i) (gt L (nx L i)) p = false) ∧ Boxed W (w.heap.size + 1) 4 (.bool false)) ∧ Boxed W w2.heap.size 27 (.slice A L.length c)) ∧ At W w.heap.size p.1 p.2 54) ∧ Below w.heap.size w W)
    (fun co pre W => ((co = .ret ∧ ∃ i ∈ pre, onQ (gt L i) (gt L (nx L i)) p = true) ∧ Boxed W (w.heap.size + 1) 4 (.bool true)) ∧ Below w.heap.size w W)
    (OwnFrom.and (OwnFrom.and (OwnFrom.and (OwnFrom.and (ownFrom_pure _ _) (Own.from (boxed_own _ _ _) _)) (Own.from (boxed_own _ _ _) _)) (fun s X Y row hs hg hr => at_own _ _ _ _ _ () X Y row hs hg hr)) (ownFrom_below (Nat.le_refl _) (by omega)))
    (fun co => OwnFrom.and (OwnFrom.and (ownFrom_pure _ _) (Own.from (boxed_own _ _ _) _)) (ownFrom_below (Nat.le_refl _) (by omega)))
    ⟨⟨⟨⟨by simp, bR3⟩, bN⟩, bX3⟩, hB0⟩
    (fun x a' W => ∃ Bx, w2.heap.size < Bx ∧ SideAt W Bx L x ∧ a' = { tmps := #[.slice A L.length c, .agg #[.int .i64 p.1, .int .i64 p.2], undef, .pointer (some ⟨w.heap.size, 0, none⟩), .pointer (some ⟨w.heap.size + 1, 0, none⟩), undef, .pointer (some ⟨Bx, 0, none⟩), .slice A L.length c, .bool true, .bool false, .bool false, .agg #[.int .i64 p.1, .int .i64 p.2], .bool true, .bool false, .bool false, .slice A L.length c, .func (.func 154) #[] #[.pointer (some ⟨w2.heap.size, 0, none⟩)], .int .i64 (x : Int), .agg #[.int .i64 (gt L x).1, .int .i64 (gt L x).2, .int .i64 (gt L (nx L x)).1, .int .i64 (gt L (nx L x)).2], undef, undef, undef, undef, undef, undef, undef, undef, undef], defers := [] })
    (fun x a' _ X Y row hs hg hr => by obtain ⟨Bx, e1, e2, e3⟩ := hs; exact ⟨Bx, e1, sideAt_own Bx L x _ () X Y row e2 hg hr, e3⟩)
    ?assign ?body ?done ?stop
  case assign =>
    rintro l pre x W K ⟨⟨⟨⟨hq1, bR4⟩, bN4⟩, bX4⟩, hB4⟩ hK
    simp only [sideV]
    gi_wp2
    have hs4 := hB4.size
    have hb := below1 W (.cells #[.int .i64 (gt L x).1, .int .i64 (gt L x).2, .int .i64 (gt L (nx L x)).1, .int .i64 (gt L (nx L x)).2] 114)
    exact hK _ _ (keepsFrom_below hb) (KeepP.of_below hb hs4 bN4.lt) ⟨⟨⟨⟨hq1, boxed_on bR4 hb⟩, boxed_on bN4 hb⟩, bX4.step hb⟩, hB4.trans (hb.mono hs4)⟩ ⟨W.heap.size, bN4.lt, sideAt_new W L x, rfl⟩
  case body =>
    rintro l pre x a' W hl - ⟨⟨⟨⟨hq1, bR4⟩, bN4⟩, bX4⟩, hB4⟩ ⟨Bx, hBx, sX, rfl⟩ hlt
    have hs4 := hB4.size
    have HO := Lib.hid (fun W => on_pt (gt L x) (gt L (nx L x)) p W)
    obtain ⟨x0, x1, x2, x3⟩ := sX.cells
    have c0 := bX4.c0; have c1 := bX4.c1
    cases hon : onQ (gt L x) (gt L (nx L x)) p
    · rw [hon] at HO
      have HN : Hid (∀ i ∈ pre ++ [x], onQ (gt L i) (gt L (nx L i)) p = false) := fun z hz => (List.mem_append.1 hz).elim (hq1 z) (fun e => by simp at e; subst e; exact hon)
      clear hon hq1
      gi_wp2
      refine ⟨trivial, ((wideR l).calls (HO.out _)).mono ?_⟩
      rintro e W5 ⟨rfl, hb5⟩
      gi_wp2
      exact ⟨keepsFrom_below (B := W0.heap.size) hb5, KeepP.of_below hb5 hs4 bN4.lt, ⟨⟨⟨HN.out, boxed_on bR4 hb5⟩, boxed_on bN4 hb5⟩, bX4.step hb5⟩, hB4.trans (hb5.mono hs4)⟩
    · rw [hon] at HO
      gi_wp2
      refine ⟨trivial, ((wideR l).calls (HO.out _)).mono ?_⟩
      rintro e W5 ⟨rfl, hb5⟩
      have hB5 := hB4.trans (hb5.mono hs4)
      have bR5 := boxed_on bR4 hb5
      have cR := bR5.cell
      have fR := bR5.frozen
      gi_wp2
      exact ⟨(keepsFrom_below hb5).trans ((KeepsOthers.setCell _ _ _).from _), ⟨⟨rfl, x, List.mem_append.2 (.inr (by simp)), hon⟩, bR5.set _⟩, hB5.setCell (p := ⟨w.heap.size + 1, 0, none⟩) (by simp) _⟩
  case done =>
    rintro D zs W hD rfl ⟨⟨⟨⟨hq1, bR4⟩, bN4⟩, bX4⟩, hB4⟩ hK
    have c0 := bX4.c0; have c1 := bX4.c1
    have HR := Lib.hid (around_sm A c L p W (ptsA_on hA hB4) (by omega) h10 (fun i => smP_ok (gt_ok hok i)) (smP_ok hq))
    have hv : insideB L p = aroundB L p := by
      rw [insideB, onRim_false (fun i hi => by rw [← onQ_ok (gt_ok hok i) (gt_ok hok (nx L i)) hq]; exact hq1 i (List.mem_range.2 hi)), Bool.false_or]; rfl
    generalize aroundB L p = fb at *
    gi_wp2
    refine ⟨trivial, (wide0.calls HR.out).mono ?_⟩
    rintro e W5 ⟨rfl, hb5⟩
    have hB5 := hB4.trans (hb5.mono hB4.size)
    have bR5 := boxed_on bR4 hb5
    have cR := bR5.cell
    have fR := bR5.frozen
    have hK5 := (hb5.block D (Array.getElem?_eq_some_iff.1 hK).1).trans hK
    gi_wp2
    have hK' := (KeepsOthers.setCell W5 ⟨w.heap.size + 1, 0, none⟩ (.bool fb)).same D _ hK5 rfl
    refine ⟨by simp, .inl ⟨_, _, rfl, run_takeDeferred hK', ?_⟩⟩
    have hc5 := cell_kept (bR5.set (.bool fb)).cell (grownBy_putObj' _ D (.deferred none)) (fun r e => by cases e; exact ⟨_, hK', rfl⟩)
    refine ⟨.bool fb, ?_, by rw [hv], (hB5.setCell (p := ⟨w.heap.size + 1, 0, none⟩) (by simp) _).trans (belowK_b (w := w) (Nat.le_refl _) _ D _ _ (by omega) hK' rfl rfl)⟩
    simp [results, Try.f52, go_sem, hc5]
  case stop =>
    rintro D co pre W hD ⟨k, hk, rfl⟩ ⟨⟨⟨rfl, j, hj, hjb⟩, bR1⟩, hB1⟩ hK
    gi_wp2
    refine ⟨by simp, .inl ⟨_, _, rfl, run_takeDeferred hK, ?_⟩⟩
    have hc5 := cell_kept bR1.cell (grownBy_putObj' _ D (.deferred none)) (fun r e => by cases e; exact ⟨_, hK, rfl⟩)
    refine ⟨.bool true, ?_, ?_, hB1.trans (belowK_b (w := w) (Nat.le_refl _) _ D _ _ (by omega) hK rfl rfl)⟩
    · simp [results, Try.f52, go_sem, hc5]
    · rw [onQ_ok (gt_ok hok j) (gt_ok hok (nx L j)) hq] at hjb
      rw [insideB, onRim_true (i := j) (by simp only [List.mem_range] at hj; omega) hjb]; rfl

theorem impl_inside (A : Option Addr) (c : Nat) (L : List (Int × Int)) (px py : Int) (w : World) (hA : PtsA w A L) (hL : L.length ≤ 1048576) :
    Calls Try.prog 52 #[.slice A L.length c, (.agg #[.int .i64 px, .int .i64 py])] w fun e w' => e = .returned (.bool (insideV L (px, py))) ∧ Below w.heap.size w w' := by
  cases hp : polyB L
  · have HV : Hid (insideV L (px, py) = false) := by
      show _ = _
      rw [insideV, hp]; rfl
    have PC := Lib.hid (fun (W : World) (hb : Below w.heap.size w W) => impl_poly A c L W (ptsA_on hA hb) hL)
    rw [hp] at PC
    have hB0 := below2 w (.cells #[.int .i64 px, .int .i64 py] 54) (.cells #[.bool false] 4)
    go_enter Try.func52, Try.ntmps52
    go_wp2_with fail
    refine (PC.out _ hB0).mono ?_
    rintro e w1 ⟨rfl, hb1⟩
    have bR1 := boxed_on (Boxed.new (w.alloc (.cells #[.int .i64 px, .int .i64 py] 54)) 4 (.bool false)) hb1
    simp only [size_alloc] at bR1
    have hB1 := hB0.trans (hb1.mono hB0.size)
    have cR := bR1.cell
    have fR := bR1.frozen
    clear hb1 hB0
    go_wp2_with fail
    have cR' := (bR1.set (.bool false)).cell
    refine bodyPost_ret (v := .bool false) (by simp [results, Try.results52, go_sem, cR']) rfl ⟨ret_bool HV.out.symm, hB1.setCell (p := ⟨w.heap.size + 1, 0, none⟩) (by simp) _⟩
  · cases hq : okP px py
    · have HV : Hid (insideV L (px, py) = false) := by
        show _ = _
        rw [insideV, hp, okQ_pair, hq]; rfl
      have PC := Lib.hid (fun (W : World) (hb : Below w.heap.size w W) => impl_poly A c L W (ptsA_on hA hb) hL)
      rw [hp] at PC
      have hB0 := below2 w (.cells #[.int .i64 px, .int .i64 py] 54) (.cells #[.bool false] 4)
      have bX := at_new w px py 54
      go_enter Try.func52, Try.ntmps52
      go_wp2_with fail
      refine (PC.out _ hB0).mono ?_
      rintro e w1 ⟨rfl, hb1⟩
      have bX1 := (bX.alloc (.cells #[.bool false] 4)).step hb1
      have bR1 := boxed_on (Boxed.new (w.alloc (.cells #[.int .i64 px, .int .i64 py] 54)) 4 (.bool false)) hb1
      simp only [size_alloc] at bR1
      have hB1 := hB0.trans (hb1.mono hB0.size)
      have c0 := bX1.c0; have c1 := bX1.c1
      clear hb1 hB0 bX
      go_wp2_with fail
      refine (impl_ok px py w1).mono ?_
      rintro e w2 ⟨rfl, hb2⟩
      rw [hq]
      have bR2 := boxed_on bR1 hb2
      have hB2 := hB1.trans (hb2.mono hB1.size)
      have cR := bR2.cell
      have fR := bR2.frozen
      clear hb2 hB1 bR1
      go_wp2_with fail
      have cR' := (bR2.set (.bool false)).cell
      refine bodyPost_ret (v := .bool false) (by simp [results, Try.results52, go_sem, cR']) rfl ⟨ret_bool HV.out.symm, hB2.setCell (p := ⟨w.heap.size + 1, 0, none⟩) (by simp) _⟩
    · have hv : insideV L (px, py) = insideB L (px, py) := by rw [insideV, hp, okQ_pair, hq]; rfl
      rw [hv]
      exact impl_inside_yes A c L (px, py) w hA hp hq
end Go.Proofs.Ytimkknljoeiceaa
