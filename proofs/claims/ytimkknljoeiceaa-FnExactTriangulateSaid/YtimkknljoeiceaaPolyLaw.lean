/-
  The laws of the functions that take one list of points and answer a bool or an int, out of what the model and the program answer.
-/
import Derived.Test.YtimkknljoeiceaaToPts
namespace Go.Proofs.Ytimkknljoeiceaa
open Go.RowKit

theorem sz_small (A : Option Addr) (n c : Nat) (w : World) (hn : n ≤ 1048576) : Calls Try.prog 15 #[.slice A n c, .int .i64 1048576] w fun e w' => e = .returned (.int .i64 (1048576 - n)) ∧ w = w' := by
  have h := sz_any A n c 1048576 w (by decide) (by omega)
  rw [if_neg (by omega)] at h
  exact h.mono fun e w' ⟨h1, h2⟩ => ⟨h1, h2.symm⟩
theorem sz_great (A : Option Addr) (n c : Nat) (w : World) (hn : 1048576 < n) (hn2 : n ≤ maxLen) : Calls Try.prog 15 #[.slice A n c, .int .i64 1048576] w fun e w' => e = .returned (.int .i64 (-1)) ∧ w = w' := by
  have h := sz_any A n c 1048576 w (by decide) (by unfold maxLen at hn2; omega)
  rw [if_pos (by omega)] at h
  exact h.mono fun e w' ⟨h1, h2⟩ => ⟨h1, h2.symm⟩
end Go.Proofs.Ytimkknljoeiceaa
