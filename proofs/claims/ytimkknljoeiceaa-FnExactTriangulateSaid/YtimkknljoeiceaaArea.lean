/-
  Walks for l03Twice, TwiceArea, l03Rim, RimPoints of the model.
-/
import Derived.Test.YtimkknljoeiceaaPoly
import Derived.Test.YtimkknljoeiceaaSteps
namespace Go.Proofs.Ytimkknljoeiceaa
open Go.RowKit

/-- The sum of the first k terms. -/
def sumT (f : Nat → Int) : Nat → Int
  | 0 => 0
  | k + 1 => sumT f k + f k
theorem sumT_abs {f : Nat → Int} {m : Nat} (n : Nat) (h : ∀ i, i < n → (f i).natAbs ≤ m) : ∀ k, k ≤ n → (sumT f k).natAbs ≤ k * m
  | 0, _ => by simp [sumT]
  | k + 1, hk => by
    have h1 := sumT_abs n h k (by omega)
    have h2 := h k (by omega)
    simp only [sumT]
    have e : (k + 1) * m = k * m + m := Nat.succ_mul k m
    rw [e]
    generalize k * m = a at *
    omega
def nx (L : List (Int × Int)) (i : Nat) : Nat := (i + 1) % L.length
def twiceT (L : List (Int × Int)) (i : Nat) : Int := (gt L i).1 * (gt L (nx L i)).2 - (gt L i).2 * (gt L (nx L i)).1
def twiceI (L : List (Int × Int)) : Int := sumT (twiceT L) L.length
def rimT (L : List (Int × Int)) (i : Nat) : Int := (stepsN (gt L i).1 (gt L i).2 (gt L (nx L i)).1 (gt L (nx L i)).2 : Int)
def rimI (L : List (Int × Int)) : Int := sumT (rimT L) L.length
theorem polyB_all {L : List (Int × Int)} (h : polyB L = true) : 3 ≤ L.length ∧ L.length ≤ 10 ∧ allOk L = true := by
  simp only [polyB, Bool.and_eq_true, inB_spec] at h
  exact ⟨by omega, by omega, h.1.1.2⟩
end Go.Proofs.Ytimkknljoeiceaa
