/-
  Walks for IsInside, l03Straight and Straightened of the model.
-/
import Derived.Test.YtieekeodbflgfaaRim
import Derived.Test.YtieekeodbflgfaaTurn
namespace Go.Proofs.Ytieekeodbflgfaa
open Go.RowKit

def insideV (L : List (Int × Int)) (p : Int × Int) : Bool := polyB L && okQ p && insideB L p
theorem spec_inside (A : Option Addr) (c : Nat) (L : List (Int × Int)) (px py : Int) (w : World) (hA : PtsA w A L) (hL : L.length ≤ 1048576) :
    Calls Try.prog 28 #[.slice A L.length c, (.agg #[.int .i64 px, .int .i64 py])] w fun e w' => e = .returned (.bool (insideV L (px, py))) ∧ Below w.heap.size w w' := by
  have hal0 := below1 w (.cells #[.int .i64 px, .int .i64 py] 27)
  have hA1 := ptsA_on hA hal0
  have HP := Lib.hid (spec_poly A c L _ hA1 hL)
  have HA := Lib.hid hA1
  have HN := Lib.hid (at_new w px py 27)
  have HB := Lib.hid hal0
  have HV : Hid (insideV L (px, py) = (polyB L && okP px py && insideB L (px, py))) := rfl
  clear hA hA1 hal0
  go_enter Try.func28, Try.ntmps28
  go_wp2_with fail
  generalize w.alloc (.cells #[.int .i64 px, .int .i64 py] 27) = w1 at *
  refine HP.out.mono ?_
  rintro e w2 ⟨rfl, hb⟩
  have n2 := HN.out.step hb
  have b2 := below_on HB.out hb
  have HA2 := Lib.hid (ptsA_on HA.out hb)
  clear hb HP HB
  cases hp : polyB L
  · go_wp2_with fail
    go_ret
    exact ⟨ret_bool (by rw [HV.out, hp]; rfl), b2⟩
  have c1 := n2.c0; have c2 := n2.c1
  go_wp2_with fail
  refine (spec_ok _ _ _).mono ?_
  rintro e w3 ⟨rfl, hb⟩
  have n3 := n2.step hb
  have b3 := below_on b2 hb
  have HA3 := Lib.hid (ptsA_on HA2.out hb)
  clear hb b2 n2 c1 c2
  cases hq : okP px py
  · go_wp2_with fail
    go_ret
    exact ⟨ret_bool (by rw [HV.out, hp, hq]; rfl), b3⟩
  have c1 := n3.c0; have c2 := n3.c1
  obtain ⟨q1, q2, q3⟩ := polyB_all hp
  have HI := Lib.hid (inside_any A c L px py w3 HA3.out (by omega) q2 q3 hq)
  clear q1 q2 q3
  go_wp2_with fail
  refine HI.out.mono ?_
  rintro e w4 ⟨rfl, hb⟩
  have b4 := below_on b3 hb
  clear hb c1 c2
  go_wp2_with fail
  go_ret
  exact ⟨ret_bool (by rw [HV.out, hp, hq]; rfl), b4⟩
/-- The corner before. -/
def pv (L : List (Int × Int)) (i : Nat) : Nat := (i + L.length - 1) % L.length
def bentB (L : List (Int × Int)) (i : Nat) : Bool := !(crossP (gt L (pv L i)) (gt L i) (gt L (nx L i)) == 0)
def straightTill (L : List (Int × Int)) : Nat → List (Int × Int)
  | 0 => []
  | k + 1 => bif bentB L k then straightTill L k ++ [gt L k] else straightTill L k
def straightL (L : List (Int × Int)) : List (Int × Int) := straightTill L L.length
theorem straight_len (L : List (Int × Int)) : ∀ k, (straightTill L k).length ≤ k
  | 0 => Nat.le_refl _
  | k + 1 => by
    have := straight_len L k
    simp only [straightTill]
    cases bentB L k <;> simp <;> omega
def straightV (L : List (Int × Int)) : List (Int × Int) := bif polyB L then straightL L else []
end Go.Proofs.Ytieekeodbflgfaa
