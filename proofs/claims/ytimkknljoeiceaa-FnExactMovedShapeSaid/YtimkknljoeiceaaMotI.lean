/-
  The program's motions: eight function values, the table of them, isMotion.
-/
import Derived.Test.YtimkknljoeiceaaMot
import Derived.Laws.Tables
import Derived.Laws.Rows
namespace Go.Proofs.Ytimkknljoeiceaa
open Go.RowKit

def motF (m : Nat) : FuncId :=
  match m with
  | 0 => 132
  | 1 => 133
  | 2 => 134
  | 3 => 135
  | 4 => 136
  | 5 => 137
  | 6 => 138
  | _ => 139
def motC (m : Nat) : Value := .func (.func (motF m)) #[] #[]
def motA : Array Value := #[motC 0, motC 1, motC 2, motC 3, motC 4, motC 5, motC 6, motC 7]

set_option maxRecDepth 100000 in
set_option maxHeartbeats 1000000 in
theorem motF_any (x y : Int) (m : Nat) (w : World) (hm : m < 8) (h : -1000 ≤ x ∧ x ≤ 1000 ∧ -1000 ≤ y ∧ y ≤ 1000) :
    Calls Try.prog (motF m) #[(.agg #[.int .i64 x, .int .i64 y])] w fun e w' => e = .returned (.agg #[.int .i64 (mot m (x, y)).1, .int .i64 (mot m (x, y)).2]) ∧ Below w.heap.size w w' := by
  have h1 : wrap64 (-x) = -x := IntWalk.wrap64_in _ (by omega)
  have h2 : wrap64 (-y) = -y := IntWalk.wrap64_in _ (by omega)
  match m, hm with
  | 0, _ =>
    go_enter Try.func132, Try.ntmps132
    go_wp2_with fail
    go_returns
    exact ⟨rfl, below2 _ _ _⟩
  | 1, _ =>
    go_enter Try.func133, Try.ntmps133
    go_wp2_with fail
    go_returns
    exact ⟨rfl, below2 _ _ _⟩
  | 2, _ =>
    go_enter Try.func134, Try.ntmps134
    go_wp2_with fail
    go_returns
    exact ⟨rfl, below2 _ _ _⟩
  | 3, _ =>
    go_enter Try.func135, Try.ntmps135
    go_wp2_with fail
    go_returns
    exact ⟨rfl, below2 _ _ _⟩
  | 4, _ =>
    go_enter Try.func136, Try.ntmps136
    go_wp2_with fail
    go_returns
    exact ⟨rfl, below2 _ _ _⟩
  | 5, _ =>
    go_enter Try.func137, Try.ntmps137
    go_wp2_with fail
    go_returns
    exact ⟨rfl, below2 _ _ _⟩
  | 6, _ =>
    go_enter Try.func138, Try.ntmps138
    go_wp2_with fail
    go_returns
    exact ⟨rfl, below2 _ _ _⟩
  | 7, _ =>
    go_enter Try.func139, Try.ntmps139
    go_wp2_with fail
    go_returns
    exact ⟨rfl, below2 _ _ _⟩
  | k + 8, h => omega
theorem below_rowM {B : Nat} {a w : World} (h : Below B a w) {g : Nat} (hg : B ≤ g) (cs : Array Value) : Below B a (w.setRow g cs) := by
  exact h.trans ⟨rfl, rfl, rfl, by simp, fun k hk => setRow_other w g k cs (by omega)⟩
theorem motions_any (w : World) : Calls Try.prog 85 #[] w fun e w' => e = .returned (.agg motA) ∧ Below w.heap.size w w' := by
  go_enter Try.func85, Try.ntmps85
  go_wp2_with (refine wpList_store_row rfl 85 _ _ rfl w.heap.size motA rfl rfl 85 _ (heap_alloc_new w _) (by kernel_rfl) rfl (by kernel_rfl) ?_)
  refine bodyPost_ret (v := .agg motA) (results_cell_row rfl _ _ w.heap.size 85 motA (0, 0) _ rfl (setRow_heap _ _ _ motA 85 _ (heap_alloc_new w _)) Try.underlying85 rfl (by kernel_rfl)) rfl ⟨rfl, ?_⟩
  exact below_rowM (below1 w _) (Nat.le_refl _) _
theorem isMotion_any (m : Int) (w : World) : Calls Try.prog 84 #[.int .i64 m] w fun e w' => e = .returned (.bool (inB m 0 7)) ∧ w' = w := by
  go_enter Try.func84, Try.ntmps84
  go_wp2_with fail
  refine (from_any _ _ _ _).mono ?_
  rintro e w1 ⟨rfl, rfl⟩
  go_wp2_with fail
  go_ret
  exact ⟨rfl, rfl⟩
theorem enter_mot (m : Nat) (hm : m < 8) (x : Value) (w : World) : Sem.run Try.prog (callFunc (motF m) #[x]) w = .ok (.enter (motF m) #[x]) w := by
  match m, hm with
  | 0, _ => simp [go_sem, motF]
  | 1, _ => simp [go_sem, motF]
  | 2, _ => simp [go_sem, motF]
  | 3, _ => simp [go_sem, motF]
  | 4, _ => simp [go_sem, motF]
  | 5, _ => simp [go_sem, motF]
  | 6, _ => simp [go_sem, motF]
  | 7, _ => simp [go_sem, motF]
  | k + 8, h => omega
theorem idx_mot (m : Nat) (hm : m < 8) (w : World) : (Instr.index 85 (.agg motA) (.int .i64 (m : Int))).run Try.prog w = .ok (motC m) w := by
  match m, hm with
  | 0, _ => simp [go_sem, Instr.index, motA]
  | 1, _ => simp [go_sem, Instr.index, motA]
  | 2, _ => simp [go_sem, Instr.index, motA]
  | 3, _ => simp [go_sem, Instr.index, motA]
  | 4, _ => simp [go_sem, Instr.index, motA]
  | 5, _ => simp [go_sem, Instr.index, motA]
  | 6, _ => simp [go_sem, Instr.index, motA]
  | 7, _ => simp [go_sem, Instr.index, motA]
  | k + 8, h => omega
end Go.Proofs.Ytimkknljoeiceaa
