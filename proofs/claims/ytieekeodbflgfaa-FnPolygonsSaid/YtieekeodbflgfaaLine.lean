/-
  Walks for PointsOn of both programs.
-/
import Derived.Test.YtieekeodbflgfaaSteps
namespace Go.Proofs.Ytieekeodbflgfaa
open Go.RowKit

theorem tdiv_le {x : Int} {n m : Nat} (h : x.natAbs ≤ m) : (Int.tdiv x n).natAbs ≤ m := by
  rw [Int.natAbs_tdiv]
  exact Nat.le_trans (Nat.div_le_self _ _) h
/-- The first m points from a on. -/
def lineL (ax ay qx qy : Int) (m : Nat) : List (Int × Int) := (List.range m).map fun (i : Nat) => (ax + qx * (i : Int), ay + qy * (i : Int))
theorem lineL_len (ax ay qx qy : Int) (m : Nat) : (lineL ax ay qx qy m).length = m := by simp [lineL]
theorem lineL_step (ax ay qx qy : Int) (m : Nat) : flat (lineL ax ay qx qy (m + 1)) = flat (lineL ax ay qx qy m) ++ [.int .i64 (ax + qx * (m : Int)), .int .i64 (ay + qy * (m : Int))] := by
  have : lineL ax ay qx qy (m + 1) = lineL ax ay qx qy m ++ [(ax + qx * (m : Int), ay + qy * (m : Int))] := by simp [lineL, List.range_succ]
  rw [this, flat_append]; rfl
def lineV (ax ay bx by' : Int) : List (Int × Int) :=
  bif okP ax ay && okP bx by' then lineL ax ay (Int.tdiv (bx - ax) (stepsN ax ay bx by')) (Int.tdiv (by' - ay) (stepsN ax ay bx by')) (stepsN ax ay bx by' + 1) else []
/-- What PointsOn leaves. -/
def LineOut (w : World) (ax ay bx by' : Int) (e : Ending) (w' : World) : Prop :=
  ∃ v, e = .returned v ∧ w'.ownsRow w.heap.size 27 2 v (lineV ax ay bx by').length (flat (lineV ax ay bx by')) ∧ Below w.heap.size w w'

set_option maxHeartbeats 4000000 in
set_option maxRecDepth 100000 in
theorem impl_line (ax ay bx by' : Int) (w : World) :
    Calls Try.prog 24 #[(.agg #[.int .i64 ax, .int .i64 ay]), (.agg #[.int .i64 bx, .int .i64 by'])] w (LineOut w ax ay bx by') := by
  have HP := Lib.hid (pts2 w ax ay bx by')
  go_enter Try.func24, Try.ntmps24
  go_wp2_with fail
  refine (all_any _ _ [(ax, ay), (bx, by')] _ HP.out (by simp) (by simp)).mono ?_
  rintro e w1 ⟨rfl, hb1⟩
  have t1 := ((two0 w ax ay bx by' 27).alloc _).step hb1
  have b1 := below_on (below3 w _ _ _) hb1
  clear hb1 HP
  have HO := Lib.hid (all2 ax ay bx by')
  cases hok : allOk [(ax, ay), (bx, by')]
  · go_wp2_with fail
    go_ret
    refine ⟨_, rfl, ?_, b1⟩
    rw [lineV, ← HO.out, hok]
    exact World.ownsRow_nil _ _ _ _
  have hok2 := HO.out.symm
  rw [hok] at hok2
  simp only [Bool.and_eq_true] at hok2
  obtain ⟨ha, hb⟩ := hok2
  clear HO
  have c1 := t1.1.c0; have c2 := t1.1.c1; have c3 := t1.2.c0; have c4 := t1.2.c1
  have u1 := t1.alloc (.cells #[.int .i64 ax, .int .i64 ay] 27)
  have d1 := u1.1.c0; have d2 := u1.1.c1; have d3 := u1.2.c0; have d4 := u1.2.c1
  go_wp2_with fail
  refine (impl_steps _ _ _ _ _).mono ?_
  rintro e w2 ⟨rfl, hb2⟩
  have own2 : w2.ownsRow w1.heap.size 27 2 (.slice (some ⟨w1.heap.size, 0, none⟩) 1 1) 1 (flat (lineL ax ay (Int.tdiv (bx - ax) (stepsN ax ay bx by')) (Int.tdiv (by' - ay) (stepsN ax ay bx by')) 1)) := by
    refine ⟨rfl, .inr ⟨w1.heap.size, 1, #[.int .i64 ax, .int .i64 ay], rfl, Nat.le_refl _, ?_, Nat.le_refl _, by decide, rfl, ?_⟩⟩
    · exact (hb2.block _ (by simp)).trans (heap_alloc_new w1 _)
    · simp [lineL, flat]
  have t2 := (t1.alloc _).step hb2
  have b2 := below_on (b1.alloc b1.size _) hb2
  have hlt2 : w1.heap.size < w2.heap.size := by have := hb2.size; simp at this; omega
  have hne : w.heap.size + 1 < w1.heap.size := t1.2.lt
  have hsv : stepsV ax ay bx by' = (stepsN ax ay bx by' : Int) := by rw [stepsV, ha, hb]; rfl
  rw [hsv]
  clear hb2 t1 b1 c1 c2 c3 c4 hsv d1 d2 d3 d4 u1
  have c1 := t2.1.c0; have c2 := t2.1.c1; have c3 := t2.2.c0; have c4 := t2.2.c1
  go_wp2_with fail
  refine (minus_any _ _ _ _ _).mono ?_
  rintro e w3 ⟨rfl, hb3⟩
  have h1 := okP_bounds ha; have h2 := okP_bounds hb
  rw [wrap_id (x := bx - ax) (by omega), wrap_id (x := by' - ay) (by omega)]
  clear c1 c2 c3 c4
  have own3 := (own_below own2 hb3).alloc (.cells #[.int .i64 (bx - ax), .int .i64 (by' - ay)] 27)
  have t3 := (t2.step hb3).1.alloc (.cells #[.int .i64 (bx - ax), .int .i64 (by' - ay)] 27)
  have n3 := at_new w3 (bx - ax) (by' - ay) 27
  have b3 := (below_on b2 hb3).alloc (below_on b2 hb3).size (.cells #[.int .i64 (bx - ax), .int .i64 (by' - ay)] 27)
  have hgd : w1.heap.size < w3.heap.size := Nat.lt_of_lt_of_le hlt2 hb3.size
  have HL : Hid (lineV ax ay bx by' = lineL ax ay (Int.tdiv (bx - ax) (stepsN ax ay bx by')) (Int.tdiv (by' - ay) (stepsN ax ay bx by')) (stepsN ax ay bx by' + 1)) := by
    show _ = _
    rw [lineV, ha, hb]; rfl
  have hn40 : stepsN ax ay bx by' ≤ 40 := gcd_le (by omega) (by omega)
  have hqx : (Int.tdiv (bx - ax) (stepsN ax ay bx by')).natAbs ≤ 40 := tdiv_le (by omega)
  have hqy : (Int.tdiv (by' - ay) (stepsN ax ay bx by')).natAbs ≤ 40 := tdiv_le (by omega)
  have hax : 0 ≤ ax ∧ ax ≤ 40 ∧ 0 ≤ ay ∧ ay ≤ 40 := h1
  clear ha hb h1 h2 hok own2 t2 b2 hb3 hlt2
  generalize stepsN ax ay bx by' = n at *
  generalize bx - ax = dx at *
  generalize by' - ay = dy at *
  obtain ⟨qx, eqx⟩ : ∃ q, q = Int.tdiv dx n := ⟨_, rfl⟩
  obtain ⟨qy, eqy⟩ : ∃ q, q = Int.tdiv dy n := ⟨_, rfl⟩
  rw [← eqx] at hqx own3 HL
  rw [← eqy] at hqy own3 HL
  have HX := Lib.hid eqx; have HY := Lib.hid eqy; have HQX := Lib.hid hqx; have HQY := Lib.hid hqy; have HAX := Lib.hid hax
  clear eqx eqy hqx hqy hax
  obtain ⟨i0, hi0, hz0, hz1, hz2⟩ := info_parts infoPt
  go_wp2_with fail
  go_loopw [5, 8] (fun s i wr => ∃ (k g cap : Nat), k ≤ n ∧ i = .int .i64 ((k : Int) + 1) ∧ s = .slice (some ⟨g, 0, none⟩) (k + 1) cap ∧
      wr.ownsRow w1.heap.size 27 2 (.slice (some ⟨g, 0, none⟩) (k + 1) cap) (k + 1) (flat (lineL ax ay qx qy (k + 1))) ∧ g ≠ w3.heap.size ∧ At wr w.heap.size ax ay 27 ∧ At wr w3.heap.size dx dy 27 ∧ Below w.heap.size w wr)
    (fun _ i _ => n + 1 - (intOf i).toNat)
  case atStart => exact ⟨0, w1.heap.size, 1, Nat.zero_le _, by go_num, rfl, own3, by omega, t3, n3, b3⟩
  case round =>
    obtain ⟨wo, rfl⟩ : ∃ wo : World, wo = wr := ⟨_, rfl⟩
    clear own3 t3 n3 b3
    obtain ⟨k, g, cap, hk, rfl, rfl, hown, hgd', hA, hD, hb⟩ := hrel
    by_cases hlt : (k : Int) + 1 ≤ (n : Int)
    · have hg := (hown.lt g rfl)
      have ca1 := hA.c0; have ca2 := hA.c1; have cd1 := hD.c0; have cd2 := hD.c1
      have la := hA.lt; have ld := hD.lt
      have hn0 : ¬ n = 0 := by omega
      have hqm := abs_mul (x := qx) (y := (k : Int) + 1) (m := 40) (n := 40) HQX.out (by omega)
      have hqn := abs_mul (x := qy) (y := (k : Int) + 1) (m := 40) (n := 40) HQY.out (by omega)
      obtain ⟨mx, hmx⟩ : ∃ m, m = qx * ((k : Int) + 1) := ⟨_, rfl⟩
      obtain ⟨my, hmy⟩ : ∃ m, m = qy * ((k : Int) + 1) := ⟨_, rfl⟩
      rw [← hmx] at hqm
      rw [← hmy] at hqn
      have hqq := HQX.out; have hqr := HQY.out; have hax := HAX.out
      have f1 : IntKind.i64.wrap qx = qx := IntWalk.i64_in _ (by omega)
      have f2 : IntKind.i64.wrap qy = qy := IntWalk.i64_in _ (by omega)
      have f3 : IntKind.i64.wrap mx = mx := IntWalk.i64_in _ (by omega)
      have f4 : IntKind.i64.wrap my = my := IntWalk.i64_in _ (by omega)
      obtain ⟨X, hX⟩ : ∃ X, X = ax + mx := ⟨_, rfl⟩
      obtain ⟨Y, hY⟩ : ∃ Y, Y = ay + my := ⟨_, rfl⟩
      have f5 : IntKind.i64.wrap X = X := IntWalk.i64_in _ (by omega)
      have f6 : IntKind.i64.wrap Y = Y := IntWalk.i64_in _ (by omega)
      have HXY : Hid (flat (lineL ax ay qx qy (k + 1 + 1)) = flat (lineL ax ay qx qy (k + 1)) ++ [.int .i64 X, .int .i64 Y]) := by
        show _ = _
        rw [lineL_step, hX, hY, hmx, hmy]; simp
      have g1 : Int.tdiv dx n = qx := HX.out.symm
      have g2 : Int.tdiv dy n = qy := HY.out.symm
      have g3 := hmx.symm; have g4 := hmy.symm; have g5 := hX.symm; have g6 := hY.symm
      have h63 : k + 1 + 1 ≤ maxLen := by unfold maxLen; omega
      have hbb : (k + 1 + 1) * 16 ≤ 140737488355328 := by omega
      have ag : (Value.slice (some ⟨g, 0, none⟩) (k + 1) cap).ownBlock ≠ some w.heap.size := by simp [Value.ownBlock]; omega
      have ad : (Value.slice (some ⟨g, 0, none⟩) (k + 1) cap).ownBlock ≠ some w3.heap.size := by simp [Value.ownBlock]; omega
      clear hqm hqn hqq hqr hmx hmy hX hY hax
      go_wp2_with fail
      go_region_held3 (fun w' => w'.cell? ⟨w.heap.size, 0, none⟩ = some (.int .i64 ax) ∧ w'.cell? ⟨w.heap.size, 1, none⟩ = some (.int .i64 ay) ∧ w'.cell? ⟨w3.heap.size, 0, none⟩ = some (.int .i64 dx) ∧ w'.cell? ⟨w3.heap.size, 1, none⟩ = some (.int .i64 dy))
        (first
          | go_keep
          | (go_split_ands
             refine ⟨?_, ?_, ?_, ?_⟩
             · (rw [hgrow.cell_far _ (by simp; omega) (Ne.symm ag)]; assumption)
             · (rw [hgrow.cell_far _ (by simp; omega) (Ne.symm ag)]; assumption)
             · (rw [hgrow.cell_far _ (by simp; omega) (Ne.symm ad)]; assumption)
             · (rw [hgrow.cell_far _ (by simp; omega) (Ne.symm ad)]; assumption)))
        ((refine step_append_lies _ (by rfl) _ _ _ (by rfl) w1.heap.size 27 i0 _ 2 16 Try.underlying23 hi0 hz0 hz1 hz2 rfl (by omega) (.slice (some ⟨g, 0, none⟩) (k + 1) cap) (k + 1) _ (by rfl) ((hown.alloc _).drew)
            ⟨wo.heap.size, 0, none⟩ 1 1 [.int .i64 X, .int .i64 Y] (by rfl) (by rfl) (World.news_of_block (cs := #[.int .i64 X, .int .i64 Y]) (t := 27) (fr := (0, 0)) (heap_alloc_new wo _)) (by simp [Value.oneCell'])
            (by omega) h63 hbb (by simp; omega) (wo.heap.size + 1) (by simp) ?_; intro gg cp w5 hown1 hgrow hat hlt5))
      have R : Hid (w5.ownsRow w1.heap.size 27 2 (.slice (some ⟨gg, 0, none⟩) (k + 1 + 1) cp) (k + 1 + 1) (flat (lineL ax ay qx qy (k + 1 + 1))) ∧ gg ≠ w3.heap.size ∧ At w5 w.heap.size ax ay 27 ∧ At w5 w3.heap.size dx dy 27 ∧ Below w.heap.size w w5) := by
        refine ⟨by rw [HXY.out]; exact hown1, ?_, ?_, ?_, ?_⟩
        · rcases hat with hat | hat
          · simp [Value.ownBlock] at hat; omega
          · omega
        · exact At.grown (w := (wo.alloc _).drew) (hA.alloc _) hgrow (Ne.symm ag)
        · exact At.grown (w := (wo.alloc _).drew) (hD.alloc _) hgrow (Ne.symm ad)
        · exact ((hb.alloc hb.size _).drew).grown hgrow (by have := hb.size; simp; omega) (fun q hq => by simp [Value.ownBlock] at hq; omega)
      clear hown hown1 hgrow hA hD hb HXY ca1 ca2 cd1 cd2 f1 f2 f3 f4 f5 f6 g1 g2 g3 g4 g5 g6
      go_wp2_with fail
      go_roundw
      case rel => exact ⟨k + 1, gg, cp, by omega, by go_num, rfl, R.out.1, R.out.2.1, R.out.2.2.1, R.out.2.2.2.1, R.out.2.2.2.2⟩
      case measure => simp [intOf]; omega
    · obtain rfl : k = n := by omega
      go_wp2_with fail
      go_ret
      refine ⟨_, rfl, ?_, hb⟩
      rw [HL.out, lineL_len]
      exact own_base hown (by omega)
end Go.Proofs.Ytieekeodbflgfaa
