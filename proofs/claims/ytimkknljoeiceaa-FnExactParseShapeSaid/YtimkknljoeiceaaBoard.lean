/-
  The program's board: a struct of two ints and 36 flags; boardOf, mask, cellAt, indexOf, covers, has.
-/
import Derived.Test.YtimkknljoeiceaaCell
import Derived.Test.YtimkknljoeiceaaReach
import Derived.Test.YtimkknljoeiceaaCount8
import Derived.OwnWalk
import Derived.Deep.WholeRow
namespace Go.Proofs.Ytimkknljoeiceaa
open Go.RowKit

/-- The board as a row of cells. -/
def bdV (a b : Nat) (F : Nat → Bool) : Array Value := ((.int .i64 a) :: (.int .i64 b) :: (List.range 36).map fun i => Value.bool (F i)).toArray
theorem bdV_size (a b : Nat) (F : Nat → Bool) : (bdV a b F).size = 38 := by simp [bdV]
theorem bdV_at (a b : Nat) (F : Nat → Bool) {i : Nat} (h : i < 36) : (bdV a b F)[2 + i]? = some (.bool (F i)) := by
  have e : 2 + i = (i + 1) + 1 := by omega
  simp [bdV, e, h]
def updF (F : Nat → Bool) (i : Nat) (v : Bool) : Nat → Bool := fun j => if j = i then v else F j
theorem bdV_set (a b : Nat) (F : Nat → Bool) {i : Nat} (h : i < 36) (v : Bool) : (bdV a b F).setIfInBounds (2 + i) (.bool v) = bdV a b (updF F i v) := by
  apply Array.ext_getElem?
  intro j
  rw [Array.getElem?_setIfInBounds, bdV_size]
  by_cases e : 2 + i = j
  · subst e
    rw [if_pos rfl, if_pos (by omega), bdV_at _ _ _ h]; simp [updF]
  · rw [if_neg e]
    match j with
    | 0 => rfl
    | 1 => rfl
    | j + 2 =>
      rcases Nat.lt_or_ge j 36 with hj | hj
      · rw [show j + 2 = 2 + j by omega, bdV_at _ _ _ hj, bdV_at _ _ _ hj]
        have : ¬ j = i := by omega
        simp [updF, this]
      · rw [Array.getElem?_eq_none (by rw [bdV_size]; omega), Array.getElem?_eq_none (by rw [bdV_size]; omega)]
theorem bdV_one (a b : Nat) (F : Nat → Bool) : (bdV a b F).all (·.oneCell') = true := by
  rw [Array.all_eq_true]
  intro i hi
  rw [bdV_size] at hi
  match i with
  | 0 => rfl
  | 1 => rfl
  | i + 2 =>
    have := bdV_at a b F (i := i) (by omega)
    rw [show 2 + i = i + 2 by omega, Array.getElem?_eq_getElem (by rw [bdV_size]; omega)] at this
    rw [Option.some.inj this]; rfl
theorem bdV_congr {a b : Nat} {F G : Nat → Bool} (h : ∀ i, i < 36 → F i = G i) : bdV a b F = bdV a b G := by
  unfold bdV
  congr 3
  apply List.map_congr_left
  intro i hi
  rw [h i (by simpa using hi)]
theorem infoB : (Try.prog.info? 75).map (·.size) = some 38 := by kernel_rfl
theorem infoB' (a b : Nat) (F : Nat → Bool) : (Try.prog.info? 75).map (·.size) = some (bdV a b F).size := by rw [bdV_size]; exact infoB

/-- Block g holds a board. -/
def Brd (w : World) (g a b : Nat) (F : Nat → Bool) : Prop := w.heap[g]? = some (.cells (bdV a b F) 75 (0, 0))
section
variable {w w' : World} {g a b : Nat} {F : Nat → Bool}
theorem Brd.lt (h : Brd w g a b F) : g < w.heap.size := (Array.getElem?_eq_some_iff.1 h).1
theorem Brd.alloc (h : Brd w g a b F) (o : Obj) : Brd (w.alloc o) g a b F := (Below.heap_alloc w o g h.lt).trans h
theorem Brd.step (h : Brd w g a b F) (hb : Below w.heap.size w w') : Brd w' g a b F := (hb.block g h.lt).trans h
theorem brd_new (w : World) (a b : Nat) (F : Nat → Bool) : Brd (w.alloc (.cells (bdV a b F) 75)) w.heap.size a b F := heap_alloc_new w _
theorem Brd.c0 (h : Brd w g a b F) : w.cell? ⟨g, 0, none⟩ = some (.int .i64 a) := cell_of_row w g 0 _ _ _ h
theorem Brd.c1 (h : Brd w g a b F) : w.cell? ⟨g, 1, none⟩ = some (.int .i64 b) := cell_of_row w g 1 _ _ _ h
theorem Brd.at (h : Brd w g a b F) {i : Nat} (hi : i < 36) : w.cell? ⟨g, 2 + i, none⟩ = some (.bool (F i)) := (cell_of_row w g (2 + i) _ _ _ h).trans (bdV_at a b F hi)
theorem Brd.frozen (h : Brd w g a b F) (j : Nat) : w.frozen? ⟨g, j, none⟩ = false := frozen_of_row w g j _ _ h
theorem Brd.set (h : Brd w g a b F) {i : Nat} (hi : i < 36) (v : Bool) : Brd (w.setCell ⟨g, 2 + i, none⟩ (.bool v)) g a b (updF F i v) := by
  have := heap_setCell_same w g (2 + i) _ _ (.bool v) h
  rw [bdV_set a b F hi v] at this
  exact this
theorem Brd.other (h : Brd w g a b F) {k : Nat} (hk : k ≠ g) (j : Nat) (v : Value) : Brd (w.setCell ⟨k, j, none⟩ v) g a b F :=
  (Below.heap_setCell w ⟨k, j, none⟩ v g (by simpa using (Ne.symm hk))).trans h
end
/-! ### A board is made, built, boxed, read and written as a whole -/
theorem zeroB : (∀ w, (zeroValue 75).run Try.prog w = .ok (.agg (bdV 0 0 fun _ => false)) w) := (zero_of_info (n := 38) (by kernel_rfl)).1
set_option maxRecDepth 100000 in
theorem allocB (w : World) : (Instr.alloc 75 true (.tuple #[])).run Try.prog w = .ok (.pointer (some ⟨w.heap.size, 0, none⟩)) (w.alloc (.cells (bdV 0 0 fun _ => false) 75)) := by
  simp [-Try.zeroValue75, zeroB, go_sem, Instr.alloc]
set_option maxRecDepth 100000 in
theorem buildB (x y : Nat) (w : World) : (Instr.build 75 #[(0, .int .i64 x), (1, .int .i64 y)]).run Try.prog w = .ok (.agg (bdV x y fun _ => false)) w := by
  simp [go_sem, Instr.build]
  rfl
section
variable {ops : Array Oper} {rest : List Oper} {o : Oper} {a : Act} {w : World} {Q : Exit → Act → World → Prop}
theorem wpList_allocB (hgd : o.guard = none) (ho : o.op = .alloc 75) (h : wpList Try.prog ops Q rest (a.put o.dst (.pointer (some ⟨w.heap.size, 0, none⟩))) (w.alloc (.cells (bdV 0 0 fun _ => false) 75))) : wpList Try.prog ops Q (o :: rest) a w :=
  wpList_plain hgd fun _ hK => by
    unfold Oper.wp execOp
    simp only [ho, allocB, Sem.run_bind, Sem.run_pure, Result.andThen_ok]
    exact hK _ _ h
theorem wpList_buildB (hgd : o.guard = none) (x y : Operand) (ho : o.op = .build 75 #[(0, x), (1, y)]) (m n : Nat) (hx : a.eval x = .int .i64 m) (hy : a.eval y = .int .i64 n) (h : wpList Try.prog ops Q rest (a.put o.dst (.agg (bdV m n fun _ => false))) w) : wpList Try.prog ops Q (o :: rest) a w :=
  wpList_plain hgd fun _ hK => by
    unfold Oper.wp execOp
    have e : (#[(0, x), (1, y)] : Array (Nat × Operand)).map (fun (i, x) => (i, a.eval x)) = #[(0, .int .i64 (m : Int)), (1, .int .i64 (n : Int))] := by simp [hx, hy]
    simp only [ho, e, buildB, Sem.run_bind, Sem.run_pure, Result.andThen_ok]
    exact hK _ _ h
end
/-- The flags of a mask. -/
def flg (M n : Nat) : Nat → Bool := fun j => decide (j < n) && M.testBit j
theorem bit_eq (M k : Nat) (hM : M < 2 ^ 36) : bits BinOp.and IntKind.i64 ((M >>> k : Nat) : Int) 1 = if M.testBit k then 1 else 0 := by
  have h : M >>> k < 2 ^ 62 := by
    rw [Nat.shiftRight_eq_div_pow]
    exact Nat.lt_of_le_of_lt (Nat.div_le_self _ _) (Nat.lt_of_lt_of_le hM (by decide))
  rw [and_one _ h, bit_mod]
  split <;> rfl
theorem flg_succ (M k : Nat) : updF (flg M k) k (M.testBit k) = flg M (k + 1) := by
  funext j
  by_cases e : j = k
  · subst e; simp [updF, flg]
  · have : decide (j < k + 1) = decide (j < k) := by rw [decide_eq_decide]; omega
    simp [updF, flg, e, this]
theorem flg_zero (M : Nat) : flg M 0 = fun _ => false := by funext j; simp [flg]
theorem flg_all {M n : Nat} (h : M < 2 ^ n) : flg M n = M.testBit := by
  funext j
  by_cases hj : j < n
  · simp [flg, hj]
  · rw [Nat.testBit_lt_two_pow (Nat.lt_of_lt_of_le h (Nat.pow_le_pow_right (by omega) (by omega)))]
    simp [flg, hj]
theorem below_rowB {B : Nat} {a w : World} (h : Below B a w) {g : Nat} (hg : B ≤ g) (cs : Array Value) : Below B a (w.setRow g cs) := by
  exact h.trans ⟨rfl, rfl, rfl, by simp, fun k hk => setRow_other w g k cs (by omega)⟩
theorem brd_setRow {w : World} {g : Nat} {c : Array Value} (h : w.heap[g]? = some (.cells c 75 (0, 0))) (a b : Nat) (F : Nat → Bool) : Brd (w.setRow g (bdV a b F)) g a b F := setRow_heap _ _ _ _ 75 _ h
theorem Brd.setRow {w : World} {g a b : Nat} {F : Nat → Bool} (h : Brd w g a b F) {k : Nat} (hk : k ≠ g) (c : Array Value) : Brd (w.setRow k c) g a b F := (setRow_other w k g c (Ne.symm hk)).trans h
theorem bit_at (M k : Nat) (hM : M < 2 ^ 36) : ∃ z : Nat, (M : Int) / 2 ^ k = (z : Int) ∧ bits BinOp.and IntKind.i64 (z : Int) 1 = if M.testBit k then 1 else 0 :=
  ⟨M >>> k, shr_cast M k, bit_eq M k hM⟩
set_option maxRecDepth 100000 in
set_option maxHeartbeats 1600000 in
theorem boardOf_any (a b M : Nat) (W : World) (hM : M < 2 ^ (a * b)) (hab : a * b ≤ 36) :
    Calls Try.prog 78 #[.int .i64 a, .int .i64 b, .int .i64 M] W fun e w' => e = .returned (.agg (bdV a b M.testBit)) ∧ Below W.heap.size W w' := by
  obtain ⟨n, hn⟩ : ∃ n, n = a * b := ⟨_, rfl⟩
  have hN : ((a : Int) * (b : Int) = (n : Int)) := by rw [hn, Int.natCast_mul]
  rw [← hn] at hab hM
  have HM := Lib.hid (lt62 hM hab)
  have HF := Lib.hid (flg_all hM)
  have HZ := Lib.hid (flg_zero M)
  clear hM hn
  go_enter Try.func78, Try.ntmps78
  go_wp2_with (first
    | (refine wpList_allocB rfl rfl ?_; try simp only [size_alloc])
    | refine wpList_buildB rfl _ _ rfl _ _ rfl rfl ?_
    | refine wpList_store_row rfl 75 _ _ rfl (W.heap.size + 1) (bdV a b fun _ => false) rfl rfl 75 _ (heap_alloc2_new W _ _) (infoB' _ _ _) (by rw [bdV_size, bdV_size]) (bdV_one _ _ _) ?_)
  have t1 := brd_setRow (heap_alloc2_new W (.cells (bdV 0 0 fun _ => false) 75) (.cells (bdV 0 0 fun _ => false) 75)) a b (fun _ => false)
  have t0 := ((brd_new W 0 0 fun _ => false).alloc (.cells (bdV 0 0 fun _ => false) 75)).setRow (k := W.heap.size + 1) (by omega) (bdV a b fun _ => false)
  have b1 := below_rowB (below2 W (.cells (bdV 0 0 fun _ => false) 75) (.cells (bdV 0 0 fun _ => false) 75)) (g := W.heap.size + 1) (by omega) (bdV a b fun _ => false)
  generalize ((W.alloc (.cells (bdV 0 0 fun _ => false) 75)).alloc (.cells (bdV 0 0 fun _ => false) 75)).setRow (W.heap.size + 1) (bdV a b fun _ => false) = w1 at *
  rw [← HZ.out] at t1
  clear HZ
  go_loopw [8, 15] (fun _ i wr => ∃ k : Nat, k ≤ n ∧ i = .int .i64 k ∧ Brd wr (W.heap.size + 1) a b (flg M k) ∧ Brd wr W.heap.size 0 0 (fun _ => false) ∧ Below W.heap.size W wr) (fun _ i _ => n - (intOf i).toNat)
  case atStart => exact ⟨0, Nat.zero_le _, rfl, t1, t0, b1⟩
  case round =>
    clear t1 t0 b1
    obtain ⟨wo, rfl⟩ : ∃ wo : World, wo = wr := ⟨_, rfl⟩
    obtain ⟨k, hk, rfl, t1, t0, hb⟩ := hrel
    by_cases hlt : k < n
    · have hlt36 : k < 36 := by omega
      obtain ⟨z, hs, hbit⟩ := bit_at M k HM.out
      have c1 := t1.at hlt36
      have f1 := t1.frozen (2 + k)
      have s1 := t1.set hlt36 (M.testBit k)
      rw [flg_succ] at s1
      have s0 := t0.other (k := W.heap.size + 1) (by omega) (2 + k) (.bool (M.testBit k))
      have sb := hb.setCell (p := ⟨W.heap.size + 1, 2 + k, none⟩) (Nat.le_succ _) (.bool (M.testBit k))
      have R := Lib.hid (And.intro s1 (And.intro s0 sb))
      clear s1 s0 sb t1 t0 hb
      cases ht : M.testBit k
      all_goals
        rw [ht] at hbit R
        simp only [Bool.false_eq_true, if_true, if_false] at hbit
        clear ht
        go_wp2_with fail
        go_roundw
        case rel => exact ⟨k + 1, by omega, by go_num, R.out.1, R.out.2.1, R.out.2.2⟩
        case measure => simp [intOf]; omega
    · obtain rfl : k = n := by omega
      rw [HF.out] at t1
      go_wp2_with (first
        | refine wpList_load_row rfl 75 _ rfl (W.heap.size + 1) rfl 75 _ (0, 0) _ t1 Try.underlying75 rfl (infoB' _ _ _) ?_
        | refine wpList_store_row rfl 75 _ _ rfl W.heap.size (bdV a b M.testBit) rfl rfl 75 _ t0 (infoB' _ _ _) (by rw [bdV_size, bdV_size]) (bdV_one _ _ _) ?_)
      refine bodyPost_ret (v := .agg (bdV a b M.testBit)) (results_cell_row rfl _ _ W.heap.size 75 (bdV a b M.testBit) (0, 0) _ rfl (brd_setRow t0 a b M.testBit) Try.underlying75 rfl (infoB' _ _ _)) rfl ⟨rfl, below_rowB hb (Nat.le_refl _) _⟩
end Go.Proofs.Ytimkknljoeiceaa
