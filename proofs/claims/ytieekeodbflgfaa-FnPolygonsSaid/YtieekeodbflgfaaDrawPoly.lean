/-
  The polygons that the model's draws begin with.
-/
import Derived.Test.YtieekeodbflgfaaArea
namespace Go.Proofs.Ytieekeodbflgfaa

def triL (a b c d e : Nat) : List (Int × Int) := [((1 + a : Nat), 1), ((5 + b : Nat), (1 + c : Nat)), ((3 + d : Nat), (5 + e : Nat))]
def rectL (w h : Nat) : List (Int × Int) := [(1, 1), ((1 + w : Nat), 1), ((1 + w : Nat), (1 + h : Nat)), (1, (1 + h : Nat))]
theorem tri_all : ((List.range 2).all fun a => (List.range 4).all fun b => (List.range 3).all fun c => (List.range 5).all fun d => (List.range 4).all fun e => polyB (triL a b c d e)) = true := by decide +kernel
theorem rect_all : ((List.range 8).all fun w => (List.range 8).all fun h => decide (w < 2) || decide (h < 2) || polyB (rectL w h)) = true := by decide +kernel
theorem tri_poly {a b c d e : Nat} (ha : a < 2) (hb : b < 4) (hc : c < 3) (hd : d < 5) (he : e < 4) : polyB (triL a b c d e) = true := by
  have h := tri_all
  simp only [List.all_eq_true, List.mem_range] at h
  exact h a ha b hb c hc d hd e he
theorem rect_poly {w h : Nat} (h1 : 2 ≤ w) (h2 : w < 8) (h3 : 2 ≤ h) (h4 : h < 8) : polyB (rectL w h) = true := by
  have k := rect_all
  simp only [List.all_eq_true, List.mem_range] at k
  have := k w h2 h h4
  rw [decide_eq_false (by omega), decide_eq_false (by omega)] at this
  exact this
end Go.Proofs.Ytieekeodbflgfaa
