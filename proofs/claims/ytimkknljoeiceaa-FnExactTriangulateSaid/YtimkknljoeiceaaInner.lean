/-
  Walks for InnerPoints of both programs.
-/
import Derived.Test.YtimkknljoeiceaaBox
import Derived.Test.YtimkknljoeiceaaSum
namespace Go.Proofs.Ytimkknljoeiceaa
open Go.RowKit

def rowN (f : Nat → Bool) : Nat → Nat
  | 0 => 0
  | k + 1 => rowN f k + (bif f k then 1 else 0)
def allN (g : Nat → Nat) : Nat → Nat
  | 0 => 0
  | r + 1 => allN g r + g r
theorem rowN_le (f : Nat → Bool) : ∀ k, rowN f k ≤ k
  | 0 => Nat.le_refl _
  | k + 1 => by
    have := rowN_le f k
    simp only [rowN]
    cases f k <;> simp <;> omega
theorem allN_le {g : Nat → Nat} {m : Nat} (h : ∀ r, g r ≤ m) : ∀ r, allN g r ≤ r * m
  | 0 => by simp [allN]
  | r + 1 => by
    have h1 := allN_le h r
    have h2 := h r
    have e : (r + 1) * m = r * m + m := Nat.succ_mul _ _
    simp only [allN]
    omega
def innT (L : List (Int × Int)) (p : Int × Int) : Bool := !(onRim L p) && insideB L p
def boxW (L : List (Int × Int)) : Nat := ((boxTill L L.length).2.1 - (boxTill L L.length).1.1 + 1).toNat
def boxH (L : List (Int × Int)) : Nat := ((boxTill L L.length).2.2 - (boxTill L L.length).1.2 + 1).toNat
def rowT (L : List (Int × Int)) (r : Nat) (j : Nat) : Bool := innT L ((boxTill L L.length).1.1 + j, (boxTill L L.length).1.2 + r)
def innerN (L : List (Int × Int)) : Nat := allN (fun r => rowN (rowT L r) (boxW L)) (boxH L)
theorem box_in {L : List (Int × Int)} (hok : allOk L = true) : ∀ k, okP (boxTill L k).1.1 (boxTill L k).1.2 = true ∧ okP (boxTill L k).2.1 (boxTill L k).2.2 = true ∧ (boxTill L k).1.1 ≤ (boxTill L k).2.1 ∧ (boxTill L k).1.2 ≤ (boxTill L k).2.2
  | 0 => ⟨gt_ok hok 0, gt_ok hok 0, Int.le_refl _, Int.le_refl _⟩
  | k + 1 => by
    obtain ⟨h1, h2, h3, h4⟩ := box_in hok k
    have h5 := gt_ok hok k
    have mk : ∀ {x y : Int}, (0 ≤ x ∧ x ≤ 40 ∧ 0 ≤ y ∧ y ≤ 40) → okP x y = true := fun h => by
      simp only [okP, Bool.and_eq_true, inB_spec]; omega
    replace h1 := okP_bounds h1
    replace h2 := okP_bounds h2
    replace h5 := okP_bounds h5
    simp only [boxTill, boxStep]
    unfold minI maxI
    refine ⟨mk ?_, mk ?_, ?_, ?_⟩
    · constructor
      · split <;> omega
      · constructor
        · split <;> omega
        · constructor <;> (split <;> omega)
    · constructor
      · split <;> omega
      · constructor
        · split <;> omega
        · constructor <;> (split <;> omega)
    · split <;> split <;> omega
    · split <;> split <;> omega


/-- What the program answers. -/
def pickI (L : List (Int × Int)) : Int := (maxI (twiceI L) (-(twiceI L)) - rimI L + 2).tdiv 2
theorem twiceI_bd {L : List (Int × Int)} (hok : allOk L = true) (hl : L.length ≤ 10) : (twiceI L).natAbs ≤ 16000 := by
  have h1 := sumL_abs (f := twiceT L) (m := 1600) (fun i => area_bd (gt_ok hok i) (gt_ok hok (nx L i))) (List.range L.length)
  rw [sumL_range, List.length_range] at h1
  exact Nat.le_trans h1 (by have := Nat.mul_le_mul_right 1600 hl; omega)
end Go.Proofs.Ytimkknljoeiceaa
