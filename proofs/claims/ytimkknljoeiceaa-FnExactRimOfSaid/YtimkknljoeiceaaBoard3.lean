/-
  The board's cells as points: cellAt, neighborsOf.
-/
import Derived.Test.YtimkknljoeiceaaBoard2
import Derived.Test.YtimkknljoeiceaaTail
import Derived.Test.YtimkknljoeiceaaStraight
namespace Go.Proofs.Ytimkknljoeiceaa
open Go.RowKit

theorem mod_eqs (i a : Nat) (ha : 1 ≤ a) (hi : i ≤ 36) : Int.tmod (i : Int) (a : Int) = ((i % a : Nat) : Int) ∧ wrap64 ((i : Int) / (a : Int)) = ((i / a : Nat) : Int) ∧ i / a ≤ 36 := by
  have h1 : i / a ≤ i := Nat.div_le_self _ _
  refine ⟨?_, ?_, by omega⟩
  · rw [Int.tmod_eq_emod_of_nonneg (by omega)]; exact (Int.natCast_emod _ _).symm
  · rw [← Int.natCast_ediv]
    generalize i / a = y at *
    exact IntWalk.wrap64_in _ (by omega)
set_option maxRecDepth 100000 in
theorem cellAt_any (a b : Nat) (F : Nat → Bool) (i : Nat) (W : World) (ha : 1 ≤ a) (hi : i ≤ 36) :
    Calls Try.prog 80 #[.agg (bdV a b F), .int .i64 i] W fun e w' => e = .returned (.agg #[.int .i64 ((i % a : Nat) : Int), .int .i64 ((i / a : Nat) : Int)]) ∧ Below W.heap.size W w' := by
  have t1 := (brd_new W a b F).alloc (.cells #[.int .i64 0, .int .i64 0] 54)
  have t2 := at_new (W.alloc (.cells (bdV a b F) 75)) 0 0 54
  rw [size_alloc] at t2
  have b2 := below2 W (.cells (bdV a b F) 75) (.cells #[.int .i64 0, .int .i64 0] 54)
  have c0 := t1.c0
  have k0 := cell_regrown c0
  obtain ⟨e1, e2, e3⟩ := mod_eqs i a ha hi
  have ha0 : ((a : Int) == 0) = false := by simp; omega
  generalize i % a = x at *
  generalize i / a = y at *
  go_enter Try.func80, Try.ntmps80
  go_wp2_with fail
  refine region_tail 9 (by kernel_rfl) (by kernel_rfl) ?_
  simp only [List.take_succ_cons, List.take_zero, List.drop_succ_cons, List.drop_zero]
  repeat (first
    | go_big_quiet_step (fail)
    | quiet_step (fail))
  refine wpQuiet_nil ?_
  rintro _ ⟨⟨dq, osq⟩, rfl⟩
  have hb2 := below_regrown ((W.alloc (.cells (bdV a b F) 75)).alloc (.cells #[.int .i64 0, .int .i64 0] 54)) dq osq
  have t3 := t2.step hb2
  have b3 := below_on b2 hb2
  clear t1 t2 b2 hb2 c0 k0 e1 e2 ha0
  simp only at *
  generalize Go.Sort.grow (redrawn ((W.alloc (.cells (bdV a b F) 75)).alloc (.cells #[.int .i64 0, .int .i64 0] 54)) dq) osq = w2 at *
  have v1 := t3.c0; have v2 := t3.c1
  have f1 := at_frozen t3 0; have f2 := at_frozen t3 1
  have v5 := (at_store t3 x 0).c1
  have z3 := at_store1 (at_store t3 x 0) y
  have d1 := z3.c0; have d2 := z3.c1
  have hsw : W.heap.size ≤ W.heap.size + 1 := Nat.le_succ _
  have b4 := (b3.setCell (p := ⟨W.heap.size + 1, 0, none⟩) hsw (.int .i64 x)).setCell (p := ⟨W.heap.size + 1, 1, none⟩) hsw (.int .i64 y)
  clear t3 b3 z3 hsw
  go_wp2_with fail
  exact bodyPost_ret (v := (.agg #[.int .i64 (x : Int), .int .i64 (y : Int)])) (by simp [results, Try.results80, go_sem, d1, d2]) rfl ⟨rfl, b4⟩
/-- The neighbors of a point, as the program lists them: up, left, right, down. -/
def nbP (x y : Int) (t : Nat) : Int × Int :=
  match t with
  | 0 => (x, y - 1)
  | 1 => (x - 1, y)
  | 2 => (x + 1, y)
  | _ => (x, y + 1)
def nbA (x y : Int) : Array Value := #[.int .i64 x, .int .i64 (y - 1), .int .i64 (x - 1), .int .i64 y, .int .i64 (x + 1), .int .i64 y, .int .i64 x, .int .i64 (y + 1)]
set_option maxRecDepth 100000 in
theorem nbs_any (x y : Int) (W : World) (hx : -100 ≤ x ∧ x ≤ 100) (hy : -100 ≤ y ∧ y ≤ 100) :
    Calls Try.prog 96 #[(.agg #[.int .i64 x, .int .i64 y])] W fun e w' => e = .returned (.agg (nbA x y)) ∧ Below W.heap.size W w' := by
  have t1 := (at_new W x y 54)
  have e1 : wrap64 (x - 1) = x - 1 := IntWalk.wrap64_in _ (by omega)
  have e2 : wrap64 (x + 1) = x + 1 := IntWalk.wrap64_in _ (by omega)
  have e3 : wrap64 (y - 1) = y - 1 := IntWalk.wrap64_in _ (by omega)
  have e4 : wrap64 (y + 1) = y + 1 := IntWalk.wrap64_in _ (by omega)
  go_enter Try.func96, Try.ntmps96
  go_wp2_with fail
  exact bodyPost_ret (v := .agg (nbA x y)) (results_cell_row rfl _ _ (W.heap.size + 1) 99 (nbA x y) (0, 0) _ rfl (heap_alloc2_new W _ _) Try.underlying99 rfl (by kernel_rfl)) rfl ⟨rfl, below2 _ _ _⟩
end Go.Proofs.Ytimkknljoeiceaa
