/-
  The size of a second list of points.
-/
import Derived.Test.YtoemmaeglhdjnaaPolyLaw
namespace Go.Proofs.Ytoemmaeglhdjnaa
open Go.RowKit
theorem sz_fit (A : Option Addr) (n c : Nat) (m : Int) (w : World) (hm : m ≤ 1073741824) (hn : (n : Int) ≤ m) : Calls Try.prog 13 #[.slice A n c, .int .i64 m] w fun e w' => e = .returned (.int .i64 (m - n)) ∧ w = w' := by
  have h := sz_any A n c m w (by omega) (by omega)
  rw [if_neg (by omega)] at h
  exact h.mono fun e w' ⟨h1, h2⟩ => ⟨h1, h2.symm⟩
theorem sz_over (A : Option Addr) (n c : Nat) (m : Int) (w : World) (hm : 0 ≤ m ∧ m ≤ 1073741824) (hn : m < (n : Int)) (h2 : n ≤ maxLen) : Calls Try.prog 13 #[.slice A n c, .int .i64 m] w fun e w' => e = .returned (.int .i64 (-1)) ∧ w = w' := by
  have h := sz_any A n c m w hm (by unfold maxLen at h2; omega)
  rw [if_pos (by omega)] at h
  exact h.mono fun e w' ⟨h1, h2⟩ => ⟨h1, h2.symm⟩
end Go.Proofs.Ytoemmaeglhdjnaa
