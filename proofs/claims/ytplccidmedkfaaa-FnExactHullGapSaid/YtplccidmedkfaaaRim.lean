/-
  Walks for l03OnRim, l03Inside of the model.
-/
import Derived.Test.YtplccidmedkfaaaArea
namespace Go.Proofs.Ytplccidmedkfaaa
open Go.RowKit

def onRim (L : List (Int × Int)) (p : Int × Int) : Bool := (List.range L.length).any fun i => onP (gt L i) (gt L (nx L i)) p
theorem onRim_true {L : List (Int × Int)} {p : Int × Int} {i : Nat} (hi : i < L.length) (h : onP (gt L i) (gt L (nx L i)) p = true) : onRim L p = true := by
  simp only [onRim, List.any_eq_true, List.mem_range]
  exact ⟨i, hi, h⟩
theorem onRim_false {L : List (Int × Int)} {p : Int × Int} (h : ∀ i, i < L.length → onP (gt L i) (gt L (nx L i)) p = false) : onRim L p = false := by
  cases hb : onRim L p
  · rfl
  · simp only [onRim, List.any_eq_true, List.mem_range] at hb
    obtain ⟨i, hi, h2⟩ := hb
    rw [h i hi] at h2; cases h2
/-- Does the side from corner i on flip what is inside at p? -/
def flipT (L : List (Int × Int)) (p : Int × Int) (i : Nat) : Bool :=
  (decide (p.2 < (gt L i).2) != decide (p.2 < (gt L (nx L i)).2)) && ((decide ((gt L i).2 < (gt L (nx L i)).2) && decide (0 < crossP (gt L i) (gt L (nx L i)) p)) || (decide ((gt L (nx L i)).2 < (gt L i).2) && decide (crossP (gt L i) (gt L (nx L i)) p < 0)))
def insT (f : Nat → Bool) : Nat → Bool
  | 0 => false
  | k + 1 => bif f k then !(insT f k) else insT f k
def insideB (L : List (Int × Int)) (p : Int × Int) : Bool := onRim L p || insT (flipT L p) L.length
end Go.Proofs.Ytplccidmedkfaaa
