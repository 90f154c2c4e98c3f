/-
  Walks over structs of two ints: l01In, PointOk, isFromTo, minus, cross, toPoint, l02Cross, eqPoint.
-/
import Derived.Test.YtimkknljoeiceaaProg
import Derived.WalkKit
import Derived.Handy
import Derived.IntWalk
import Derived.Lib.Hide
import Derived.Lib.QuietBelow
import Derived.BigQuiet
import Derived.Deep.QuietTactic
import Derived.Deep.RegionHeld3
namespace Go.Proofs.Ytimkknljoeiceaa
open Go.RowKit

/-- Block g holds a struct of two ints. -/
def At (w : World) (g : Nat) (x y : Int) (t : TypeId) : Prop := w.heap[g]? = some (.cells #[.int .i64 x, .int .i64 y] t (0, 0))
theorem at_new (w : World) (x y : Int) (t : TypeId) : At (w.alloc (.cells #[.int .i64 x, .int .i64 y] t)) w.heap.size x y t := heap_alloc_new w _
theorem At.lt {w : World} {g : Nat} {x y : Int} {t : TypeId} (h : At w g x y t) : g < w.heap.size := (Array.getElem?_eq_some_iff.1 h).1
theorem At.alloc {w : World} {g : Nat} {x y : Int} {t : TypeId} (h : At w g x y t) (o : Obj) : At (w.alloc o) g x y t := (Below.heap_alloc w o g h.lt).trans h
theorem At.step {w w' : World} {g : Nat} {x y : Int} {t : TypeId} (h : At w g x y t) (hb : Below w.heap.size w w') : At w' g x y t := (hb.block g h.lt).trans h
theorem At.c0 {w : World} {g : Nat} {x y : Int} {t : TypeId} (h : At w g x y t) : w.cell? ⟨g, 0, none⟩ = some (.int .i64 x) := cell_of_row w g 0 _ _ _ h
theorem At.c1 {w : World} {g : Nat} {x y : Int} {t : TypeId} (h : At w g x y t) : w.cell? ⟨g, 1, none⟩ = some (.int .i64 y) := cell_of_row w g 1 _ _ _ h

/-- Two, three, four points in blocks that follow each other. -/
def Two (w : World) (g : Nat) (ax ay bx by' : Int) (t : TypeId) : Prop := At w g ax ay t ∧ At w (g + 1) bx by' t
def Three (w : World) (g : Nat) (ax ay bx by' px py : Int) (t : TypeId) : Prop := At w g ax ay t ∧ At w (g + 1) bx by' t ∧ At w (g + 1 + 1) px py t
def Four (w : World) (g : Nat) (ax ay bx by' px py qx qy : Int) (t : TypeId) : Prop := At w g ax ay t ∧ At w (g + 1) bx by' t ∧ At w (g + 1 + 1) px py t ∧ At w (g + 1 + 1 + 1) qx qy t
theorem size_alloc (w : World) (o : Obj) : (w.alloc o).heap.size = w.heap.size + 1 := by simp
theorem two0 (w : World) (ax ay bx by' : Int) (t : TypeId) : Two ((w.alloc (.cells #[.int .i64 ax, .int .i64 ay] t)).alloc (.cells #[.int .i64 bx, .int .i64 by'] t)) w.heap.size ax ay bx by' t :=
  ⟨(at_new w ax ay t).alloc _, by have := at_new (w.alloc (.cells #[.int .i64 ax, .int .i64 ay] t)) bx by' t; rwa [size_alloc] at this⟩
theorem three0 (w : World) (ax ay bx by' px py : Int) (t : TypeId) :
    Three (((w.alloc (.cells #[.int .i64 ax, .int .i64 ay] t)).alloc (.cells #[.int .i64 bx, .int .i64 by'] t)).alloc (.cells #[.int .i64 px, .int .i64 py] t)) w.heap.size ax ay bx by' px py t :=
  ⟨(two0 w ax ay bx by' t).1.alloc _, (two0 w ax ay bx by' t).2.alloc _, by
    have := at_new ((w.alloc (.cells #[.int .i64 ax, .int .i64 ay] t)).alloc (.cells #[.int .i64 bx, .int .i64 by'] t)) px py t
    rwa [size_alloc, size_alloc] at this⟩
theorem four0 (w : World) (ax ay bx by' px py qx qy : Int) (t : TypeId) :
    Four ((((w.alloc (.cells #[.int .i64 ax, .int .i64 ay] t)).alloc (.cells #[.int .i64 bx, .int .i64 by'] t)).alloc (.cells #[.int .i64 px, .int .i64 py] t)).alloc (.cells #[.int .i64 qx, .int .i64 qy] t)) w.heap.size ax ay bx by' px py qx qy t :=
  ⟨(three0 w ax ay bx by' px py t).1.alloc _, (three0 w ax ay bx by' px py t).2.1.alloc _, (three0 w ax ay bx by' px py t).2.2.alloc _, by
    have := at_new (((w.alloc (.cells #[.int .i64 ax, .int .i64 ay] t)).alloc (.cells #[.int .i64 bx, .int .i64 by'] t)).alloc (.cells #[.int .i64 px, .int .i64 py] t)) qx qy t
    rwa [size_alloc, size_alloc, size_alloc] at this⟩
section
variable {w w' : World} {g : Nat} {ax ay bx by' px py qx qy : Int} {t : TypeId}
theorem Two.alloc (h : Two w g ax ay bx by' t) (o : Obj) : Two (w.alloc o) g ax ay bx by' t := ⟨h.1.alloc o, h.2.alloc o⟩
theorem Two.step (h : Two w g ax ay bx by' t) (hb : Below w.heap.size w w') : Two w' g ax ay bx by' t := ⟨h.1.step hb, h.2.step hb⟩
theorem Three.alloc (h : Three w g ax ay bx by' px py t) (o : Obj) : Three (w.alloc o) g ax ay bx by' px py t := ⟨h.1.alloc o, h.2.1.alloc o, h.2.2.alloc o⟩
theorem Three.step (h : Three w g ax ay bx by' px py t) (hb : Below w.heap.size w w') : Three w' g ax ay bx by' px py t := ⟨h.1.step hb, h.2.1.step hb, h.2.2.step hb⟩
theorem Four.alloc (h : Four w g ax ay bx by' px py qx qy t) (o : Obj) : Four (w.alloc o) g ax ay bx by' px py qx qy t := ⟨h.1.alloc o, h.2.1.alloc o, h.2.2.1.alloc o, h.2.2.2.alloc o⟩
theorem Four.step (h : Four w g ax ay bx by' px py qx qy t) (hb : Below w.heap.size w w') : Four w' g ax ay bx by' px py qx qy t := ⟨h.1.step hb, h.2.1.step hb, h.2.2.1.step hb, h.2.2.2.step hb⟩
end

def inB (x lo hi : Int) : Bool := decide (lo ≤ x) && decide (x ≤ hi)
theorem inB_spec {x lo hi : Int} : inB x lo hi = true ↔ lo ≤ x ∧ x ≤ hi := by simp [inB]
def okP (x y : Int) : Bool := inB x 0 40 && inB y 0 40
theorem okP_bounds {x y : Int} (h : okP x y = true) : 0 ≤ x ∧ x ≤ 40 ∧ 0 ≤ y ∧ y ≤ 40 := by
  simp only [okP, Bool.and_eq_true, inB_spec] at h
  omega
theorem ret_bool {a b : Bool} (h : a = b) : Ending.returned (.bool a) = .returned (.bool b) := by rw [h]
theorem ret_int {a b : Int} (h : a = b) : Ending.returned (.int .i64 a) = .returned (.int .i64 b) := by rw [h]

theorem in_any (x lo hi : Int) (w : World) :
    Calls Try.prog 73 #[.int .i64 x, .int .i64 lo, .int .i64 hi] w fun e w' => e = .returned (.bool (inB x lo hi)) ∧ w' = w := by
  cases h : decide (lo ≤ x)
  all_goals (
    go_enter Try.func73, Try.ntmps73
    go_wp2_with fail
    go_ret
    exact ⟨ret_bool (by simp only [inB, h, Bool.false_and, Bool.true_and]), rfl⟩)
theorem from_any (x lo hi : Int) (w : World) :
    Calls Try.prog 74 #[.int .i64 x, .int .i64 lo, .int .i64 hi] w fun e w' => e = .returned (.bool (inB x lo hi)) ∧ w' = w := by
  cases h : decide (lo ≤ x)
  all_goals (
    go_enter Try.func74, Try.ntmps74
    go_wp2_with fail
    go_ret
    exact ⟨ret_bool (by simp only [inB, h, Bool.false_and, Bool.true_and]), rfl⟩)
theorem spec_ok (x y : Int) (w : World) :
    Calls Try.prog 120 #[(.agg #[.int .i64 x, .int .i64 y])] w fun e w' => e = .returned (.bool (okP x y)) ∧ Below w.heap.size w w' := by
  cases h : inB x 0 40
  all_goals (
    go_enter Try.func120, Try.ntmps120
    go_wp2_with fail
    refine (in_any _ _ _ _).mono ?_
    rintro e w1 ⟨rfl, rfl⟩
    go_wp2_with fail)
  · go_ret
    exact ⟨ret_bool (by simp only [okP, h, Bool.false_and]), (Below.refl _ _).alloc (Nat.le_refl _) _⟩
  · refine (in_any _ _ _ _).mono ?_
    rintro e w1 ⟨rfl, rfl⟩
    go_wp2_with fail
    go_ret
    exact ⟨ret_bool (by simp only [okP, h, Bool.true_and]), (Below.refl _ _).alloc (Nat.le_refl _) _⟩
theorem impl_ok (x y : Int) (w : World) :
    Calls Try.prog 110 #[(.agg #[.int .i64 x, .int .i64 y])] w fun e w' => e = .returned (.bool (okP x y)) ∧ Below w.heap.size w w' := by
  cases h : inB x 0 40
  all_goals (
    go_enter Try.func110, Try.ntmps110
    go_wp2_with fail
    refine (from_any _ _ _ _).mono ?_
    rintro e w1 ⟨rfl, rfl⟩
    go_wp2_with fail)
  · go_ret
    exact ⟨ret_bool (by simp only [okP, h, Bool.false_and]), (Below.refl _ _).alloc (Nat.le_refl _) _⟩
  · refine (from_any _ _ _ _).mono ?_
    rintro e w1 ⟨rfl, rfl⟩
    go_wp2_with fail
    go_ret
    exact ⟨ret_bool (by simp only [okP, h, Bool.true_and]), (Below.refl _ _).alloc (Nat.le_refl _) _⟩
/-- The blocks of two, three boxed arguments lie behind the old heap. -/
theorem below1 (w : World) (o : Obj) : Below w.heap.size w (w.alloc o) := (Below.refl _ _).alloc (Nat.le_refl _) _
theorem below2 (w : World) (o p : Obj) : Below w.heap.size w ((w.alloc o).alloc p) := (below1 w o).alloc (by simp) _
theorem below3 (w : World) (o p q : Obj) : Below w.heap.size w (((w.alloc o).alloc p).alloc q) := (below2 w o p).alloc (by simp; omega) _
theorem below4 (w : World) (o p q r : Obj) : Below w.heap.size w ((((w.alloc o).alloc p).alloc q).alloc r) := (below3 w o p q).alloc (by simp; omega) _
/-- One more step, at the newest world's own size. -/
theorem below_on {a w w' : World} (h : Below a.heap.size a w) (hb : Below w.heap.size w w') : Below a.heap.size a w' := h.trans (hb.mono h.size)
theorem minus_any (ax ay bx by' : Int) (w : World) :
    Calls Try.prog 114 #[(.agg #[.int .i64 ax, .int .i64 ay]), (.agg #[.int .i64 bx, .int .i64 by'])] w fun e w' => e = .returned (.agg #[.int .i64 (wrap64 (ax - bx)), .int .i64 (wrap64 (ay - by'))]) ∧ Below w.heap.size w w' := by
  go_enter Try.func114, Try.ntmps114
  go_wp2_with fail
  go_returns
  exact ⟨rfl, below3 _ _ _ _⟩
theorem crossM_any (ax ay bx by' : Int) (w : World) :
    Calls Try.prog 108 #[(.agg #[.int .i64 ax, .int .i64 ay]), (.agg #[.int .i64 bx, .int .i64 by'])] w fun e w' => e = .returned (.int .i64 (wrap64 (wrap64 (ax * by') - wrap64 (ay * bx)))) ∧ Below w.heap.size w w' := by
  go_enter Try.func108, Try.ntmps108
  go_wp2_with fail
  go_ret
  exact ⟨rfl, below2 _ _ _⟩
theorem to_any (x y : Int) (w : World) :
    Calls Try.prog 67 #[(.agg #[.int .i64 x, .int .i64 y])] w fun e w' => e = .returned (.agg #[.int .i64 x, .int .i64 y]) ∧ Below w.heap.size w w' := by
  go_enter Try.func67, Try.ntmps67
  go_wp2_with fail
  go_returns
  exact ⟨rfl, below3 _ _ _ _⟩
theorem crossS_any (ax ay bx by' px py : Int) (w : World) :
    Calls Try.prog 167 #[(.agg #[.int .i64 ax, .int .i64 ay]), (.agg #[.int .i64 bx, .int .i64 by']), (.agg #[.int .i64 px, .int .i64 py])] w fun e w' => e = .returned (.int .i64 (wrap64 (wrap64 (wrap64 (bx - ax) * wrap64 (py - ay)) - wrap64 (wrap64 (by' - ay) * wrap64 (px - ax))))) ∧ Below w.heap.size w w' := by
  go_enter Try.func167, Try.ntmps167
  go_wp2_with fail
  go_ret
  exact ⟨rfl, below3 _ _ _ _⟩
theorem eqPt_any (ax ay bx by' : Int) (w : World) :
    Calls Try.prog 72 #[(.agg #[.int .i64 ax, .int .i64 ay]), (.agg #[.int .i64 bx, .int .i64 by'])] w fun e w' => e = .returned (.bool (decide (ax = bx) && decide (ay = by'))) ∧ Below w.heap.size w w' := by
  by_cases h1 : ax = bx
  · subst h1
    by_cases h2 : ay = by'
    · subst h2
      go_enter Try.func72, Try.ntmps72
      go_wp2_with fail
      go_ret
      exact ⟨ret_bool (by simp), below2 _ _ _⟩
    · go_enter Try.func72, Try.ntmps72
      go_wp2_with fail
      go_ret
      exact ⟨ret_bool (by simp [h2]), below2 _ _ _⟩
  · go_enter Try.func72, Try.ntmps72
    go_wp2_with fail
    go_ret
    exact ⟨ret_bool (by simp [h1]), below2 _ _ _⟩
end Go.Proofs.Ytimkknljoeiceaa
