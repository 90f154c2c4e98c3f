/-
  The laws of TurnPolygon, StartAt, Straightened: lists of points that are handed back, with marks.
-/
import Derived.Test.YtimkknljoeiceaaPolyLaw
import Derived.Test.YtimkknljoeiceaaTurn
namespace Go.Proofs.Ytimkknljoeiceaa
open Go.RowKit

theorem own_apart' {w w1 : World} {B0 B1 : Nat} {e : TypeId} {v0 v1 : Value} {n0 n1 : Nat} {xs0 xs1 : List Value} (h0 : w.ownsRow B0 e 2 v0 n0 xs0) (hB : w.heap.size ≤ B1) (h1 : w1.ownsRow B1 e 2 v1 n1 xs1) : v1.ownBlock = none ∨ v1.ownBlock ≠ v0.ownBlock := by
  cases hv : v1.ownBlock with
  | none => exact .inl rfl
  | some k =>
    refine .inr fun he => ?_
    have a1 := (h1.lt k hv).1
    have a2 := (h0.lt k he.symm).2
    omega
theorem own_ptsc {w : World} {B : Nat} {e : TypeId} {v : Value} {n : Nat} {L : List (Int × Int)} (h : w.ownsRow B e 2 v n (flat L)) :
    n = L.length ∧ ∃ A c, v = .slice A L.length c ∧ PtsA w A L ∧ L.length ≤ c := by
  obtain ⟨h1, A, c, h2, h3⟩ := own_pts h
  refine ⟨h1, A, c, h2, h3, ?_⟩
  rcases h.2 with ⟨h4, h5⟩ | ⟨g, cap, cur, h4, _, _, h5, _⟩
  · omega
  · rw [h2] at h4
    simp only [Value.slice.injEq] at h4
    omega
end Go.Proofs.Ytimkknljoeiceaa
