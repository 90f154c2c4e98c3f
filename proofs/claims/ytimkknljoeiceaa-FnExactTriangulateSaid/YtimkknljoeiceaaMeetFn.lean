/-
  How segments meet: the two ways of counting, without the program.
-/
import Derived.Test.YtimkknljoeiceaaHas
namespace Go.Proofs.Ytimkknljoeiceaa
open Go.RowKit

def onP (a b p : Int × Int) : Bool := onI a.1 a.2 b.1 b.2 p.1 p.2
def addE (a b c d : Int × Int) (E : List (Int × Int)) (p : Int × Int) : List (Int × Int) := bif onP a b p && onP c d p && !(hasP E p.1 p.2) then E ++ [p] else E
def endsE (a b c d : Int × Int) : List (Int × Int) := [a, b, c, d].foldl (addE a b c d) []
def crossP (a b p : Int × Int) : Int := crossI a.1 a.2 b.1 b.2 p.1 p.2
/-- The line through a and b has c and d on different sides. -/
def opp (a b c d : Int × Int) : Bool := decide (sgn (crossP a b c) * sgn (crossP a b d) < 0)
def sharedS (a b c d : Int × Int) : List (Int × Int) := [a, b].filter (onP c d) ++ [c, d].filter (onP a b)
def sameAll : List (Int × Int) → Bool
  | [] => true
  | x :: t => t.all fun y => y.1 == x.1 && y.2 == x.2
def meetI (a b c d : Int × Int) : Int := bif opp a b c d && opp c d a b then 2 else bif (sharedS a b c d).isEmpty then 0 else bif sameAll (sharedS a b c d) then 1 else 3
def okQ (p : Int × Int) : Bool := okP p.1 p.2
def eqQ (p q : Int × Int) : Bool := p.1 == q.1 && p.2 == q.2
def meetV (a b c d : Int × Int) : Int := bif okQ a && okQ b && okQ c && okQ d && !(eqQ a b) && !(eqQ c d) then meetI a b c d else 0

theorem on_left (a b : Int × Int) : onP a b a = true := by
  have h : crossI a.1 a.2 b.1 b.2 a.1 a.2 = 0 := by simp [crossI]
  simp [onP, onI, h, boxB, inB]
  omega
theorem on_right (a b : Int × Int) : onP a b b = true := by
  have h : crossI a.1 a.2 b.1 b.2 b.1 b.2 = 0 := by simp [crossI, Int.mul_comm]
  simp [onP, onI, h, boxB, inB]
  omega
/-- Each point once. -/
def ddS (E : List (Int × Int)) (p : Int × Int) : List (Int × Int) := bif hasP E p.1 p.2 then E else E ++ [p]
theorem ends_dd (a b c d : Int × Int) : endsE a b c d = (sharedS a b c d).foldl ddS [] := by
  have e1 : ∀ E, addE a b c d E a = bif onP c d a then ddS E a else E := fun E => by
    simp only [addE, ddS, on_left, Bool.true_and]; cases onP c d a <;> cases hasP E a.1 a.2 <;> rfl
  have e2 : ∀ E, addE a b c d E b = bif onP c d b then ddS E b else E := fun E => by
    simp only [addE, ddS, on_right, Bool.true_and]; cases onP c d b <;> cases hasP E b.1 b.2 <;> rfl
  have e3 : ∀ E, addE a b c d E c = bif onP a b c then ddS E c else E := fun E => by
    simp only [addE, ddS, on_left, Bool.and_true]; cases onP a b c <;> cases hasP E c.1 c.2 <;> rfl
  have e4 : ∀ E, addE a b c d E d = bif onP a b d then ddS E d else E := fun E => by
    simp only [addE, ddS, on_right, Bool.and_true]; cases onP a b d <;> cases hasP E d.1 d.2 <;> rfl
  simp only [endsE, sharedS, List.foldl_cons, List.foldl_nil, e1, e2, e3, e4, List.filter_cons, List.filter_nil]
  cases onP c d a <;> cases onP c d b <;> cases onP a b c <;> cases onP a b d <;> rfl
theorem dd_grows (S : List (Int × Int)) : ∀ E, E.length ≤ (S.foldl ddS E).length := by
  induction S with
  | nil => intro E; exact Nat.le_refl _
  | cons p S ih =>
    intro E
    refine Nat.le_trans ?_ (ih (ddS E p))
    unfold ddS
    cases hasP E p.1 p.2 <;> simp
theorem dd_one (x : Int × Int) : ∀ t : List (Int × Int), (t.all (fun y => y.1 == x.1 && y.2 == x.2) = true → t.foldl ddS [x] = [x]) ∧ (t.all (fun y => y.1 == x.1 && y.2 == x.2) = false → 2 ≤ (t.foldl ddS [x]).length) := by
  intro t
  induction t with
  | nil => exact ⟨fun _ => rfl, fun h => by simp at h⟩
  | cons y t ih =>
    rw [List.all_cons, List.foldl_cons]
    have hh : hasP [x] y.1 y.2 = (y.1 == x.1 && y.2 == x.2) := by
      simp only [hasP, List.any_cons, List.any_nil, Bool.or_false]
      rw [Bool.beq_comm (a := x.1), Bool.beq_comm (a := x.2)]
    cases h : (y.1 == x.1 && y.2 == x.2)
    · refine ⟨fun h => by simp at h, fun _ => ?_⟩
      have : ddS [x] y = [x, y] := by rw [ddS, hh, h]; rfl
      rw [this]
      exact dd_grows t [x, y]
    · have : ddS [x] y = [x] := by rw [ddS, hh, h]; rfl
      rw [this, Bool.true_and]
      exact ih
theorem dd_first (x : Int × Int) : ddS [] x = [x] := rfl
theorem opp_none {a b c d : Int × Int} (h : (opp a b c d && opp c d a b) = true) : sharedS a b c d = [] := by
  simp only [Bool.and_eq_true, opp, decide_eq_true_eq] at h
  obtain ⟨h1, h2⟩ := h
  have z : ∀ a b p : Int × Int, onP a b p = true → sgn (crossP a b p) = 0 := fun a b p h => by
    simp only [onP, onI, Bool.and_eq_true, beq_iff_eq] at h
    rw [crossP, h.1]; rfl
  have f1 : onP c d a = false := by
    cases hq : onP c d a
    · rfl
    · rw [z _ _ _ hq] at h2; simp at h2
  have f2 : onP c d b = false := by
    cases hq : onP c d b
    · rfl
    · rw [z _ _ _ hq] at h2; simp at h2
  have f3 : onP a b c = false := by
    cases hq : onP a b c
    · rfl
    · rw [z _ _ _ hq] at h1; simp at h1
  have f4 : onP a b d = false := by
    cases hq : onP a b d
    · rfl
    · rw [z _ _ _ hq] at h1; simp at h1
  simp [sharedS, f1, f2, f3, f4]
theorem ends_zero {a b c d : Int × Int} (h : (endsE a b c d).length = 0) : meetI a b c d = bif opp a b c d && opp c d a b then 2 else 0 := by
  rw [ends_dd] at h
  cases hS : sharedS a b c d with
  | nil => rw [meetI, hS]; cases opp a b c d && opp c d a b <;> rfl
  | cons x t =>
    rw [hS, List.foldl_cons, dd_first] at h
    have := dd_grows t [x]
    simp at this; omega
theorem ends_some {a b c d : Int × Int} (h : 1 ≤ (endsE a b c d).length) : meetI a b c d = if (endsE a b c d).length = 1 then 1 else 3 := by
  rw [ends_dd] at h ⊢
  cases ho : (opp a b c d && opp c d a b)
  · cases hS : sharedS a b c d with
    | nil => rw [hS] at h; simp at h
    | cons x t =>
      have hd := dd_one x t
      rw [meetI, ho, hS, List.foldl_cons, dd_first]
      show (bif sameAll (x :: t) then 1 else 3 : Int) = _
      rw [sameAll]
      cases hq : t.all (fun y => y.1 == x.1 && y.2 == x.2)
      · have := hd.2 hq
        rw [if_neg (by omega)]; rfl
      · rw [hd.1 hq]; rfl
  · rw [opp_none ho] at h; simp at h
theorem ends_le (a b c d : Int × Int) : (endsE a b c d).length ≤ 4 := by
  have : ∀ E p, (addE a b c d E p).length ≤ E.length + 1 := fun E p => by
    unfold addE
    cases onP a b p && onP c d p && !(hasP E p.1 p.2) <;> simp
  simp only [endsE, List.foldl_cons, List.foldl_nil]
  have h1 := this [] a
  have h2 := this (addE a b c d [] a) b
  have h3 := this (addE a b c d (addE a b c d [] a) b) c
  have h4 := this (addE a b c d (addE a b c d (addE a b c d [] a) b) c) d
  simp at h1
  omega
end Go.Proofs.Ytimkknljoeiceaa
