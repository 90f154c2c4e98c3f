/-
  Walks and facts of this seat, part Saa (merged by a script of this repo out of smaller texts).
-/
import Derived.Test.YtnkehfhedjdhaaaProg
import Derived.WalkKit
import Derived.Handy
import Derived.IntWalk
import Derived.Lib.Hide
import Derived.Lib.QuietBelow
import Derived.BigQuiet
import Derived.Deep.QuietTactic
import Derived.Deep.RegionHeld3
import Derived.Deep.AppendLies
import Derived.OwnWalk
import Derived.Laws.Pointers
import Derived.RegionTactic
import Derived.Deep.DeepCutAuto
import Derived.ChangeAlike
import Derived.Laws.StructEq
import Derived.StillTail
import Derived.RangeFuncNested
import Derived.TacticsIn
import Derived.OrdersIn
import Derived.RangeFuncLeaves
import Derived.Shelf.Abstract
import Derived.OwnWalkIn
import Derived.TacticsInMore
import Derived.LoopNIn
import Derived.LoopIn
import Derived.WalkSpells
import Derived.Deep.RegionLaw
import Derived.Lib.AppendZerosOnto
import Derived.Lib.SliceRun
/-! Pt -/
namespace Go.Proofs.Ytnkehfhedjdhaaa
open Go.RowKit

/-- Block g holds a struct of two ints. -/
def At (w : World) (g : Nat) (x y : Int) (t : TypeId) : Prop := w.heap[g]? = some (.cells #[.int .i64 x, .int .i64 y] t (0, 0))
theorem at_new (w : World) (x y : Int) (t : TypeId) : At (w.alloc (.cells #[.int .i64 x, .int .i64 y] t)) w.heap.size x y t := heap_alloc_new w _
theorem At.lt {w : World} {g : Nat} {x y : Int} {t : TypeId} (h : At w g x y t) : g < w.heap.size := (Array.getElem?_eq_some_iff.1 h).1
theorem At.alloc {w : World} {g : Nat} {x y : Int} {t : TypeId} (h : At w g x y t) (o : Obj) : At (w.alloc o) g x y t := (Below.heap_alloc w o g h.lt).trans h
theorem At.step {w w' : World} {g : Nat} {x y : Int} {t : TypeId} (h : At w g x y t) (hb : Below w.heap.size w w') : At w' g x y t := (hb.block g h.lt).trans h
theorem At.c0 {w : World} {g : Nat} {x y : Int} {t : TypeId} (h : At w g x y t) : w.cell? ⟨g, 0, none⟩ = some (.int .i64 x) := cell_of_row w g 0 _ _ _ h
theorem At.c1 {w : World} {g : Nat} {x y : Int} {t : TypeId} (h : At w g x y t) : w.cell? ⟨g, 1, none⟩ = some (.int .i64 y) := cell_of_row w g 1 _ _ _ h

/-- Two, three, four points in blocks that follow each other. -/
def Two (w : World) (g : Nat) (ax ay bx by' : Int) (t : TypeId) : Prop := At w g ax ay t ∧ At w (g + 1) bx by' t
def Three (w : World) (g : Nat) (ax ay bx by' px py : Int) (t : TypeId) : Prop := At w g ax ay t ∧ At w (g + 1) bx by' t ∧ At w (g + 1 + 1) px py t
def Four (w : World) (g : Nat) (ax ay bx by' px py qx qy : Int) (t : TypeId) : Prop := At w g ax ay t ∧ At w (g + 1) bx by' t ∧ At w (g + 1 + 1) px py t ∧ At w (g + 1 + 1 + 1) qx qy t
theorem size_alloc (w : World) (o : Obj) : (w.alloc o).heap.size = w.heap.size + 1 := by simp
theorem two0 (w : World) (ax ay bx by' : Int) (t : TypeId) : Two ((w.alloc (.cells #[.int .i64 ax, .int .i64 ay] t)).alloc (.cells #[.int .i64 bx, .int .i64 by'] t)) w.heap.size ax ay bx by' t :=
  ⟨(at_new w ax ay t).alloc _, by have := at_new (w.alloc (.cells #[.int .i64 ax, .int .i64 ay] t)) bx by' t; rwa [size_alloc] at this⟩
theorem three0 (w : World) (ax ay bx by' px py : Int) (t : TypeId) :
    Three (((w.alloc (.cells #[.int .i64 ax, .int .i64 ay] t)).alloc (.cells #[.int .i64 bx, .int .i64 by'] t)).alloc (.cells #[.int .i64 px, .int .i64 py] t)) w.heap.size ax ay bx by' px py t :=
  ⟨(two0 w ax ay bx by' t).1.alloc _, (two0 w ax ay bx by' t).2.alloc _, by
    have := at_new ((w.alloc (.cells #[.int .i64 ax, .int .i64 ay] t)).alloc (.cells #[.int .i64 bx, .int .i64 by'] t)) px py t
    rwa [size_alloc, size_alloc] at this⟩
theorem four0 (w : World) (ax ay bx by' px py qx qy : Int) (t : TypeId) :
    Four ((((w.alloc (.cells #[.int .i64 ax, .int .i64 ay] t)).alloc (.cells #[.int .i64 bx, .int .i64 by'] t)).alloc (.cells #[.int .i64 px, .int .i64 py] t)).alloc (.cells #[.int .i64 qx, .int .i64 qy] t)) w.heap.size ax ay bx by' px py qx qy t :=
  ⟨(three0 w ax ay bx by' px py t).1.alloc _, (three0 w ax ay bx by' px py t).2.1.alloc _, (three0 w ax ay bx by' px py t).2.2.alloc _, by
    have := at_new (((w.alloc (.cells #[.int .i64 ax, .int .i64 ay] t)).alloc (.cells #[.int .i64 bx, .int .i64 by'] t)).alloc (.cells #[.int .i64 px, .int .i64 py] t)) qx qy t
    rwa [size_alloc, size_alloc, size_alloc] at this⟩
section
variable {w w' : World} {g : Nat} {ax ay bx by' px py qx qy : Int} {t : TypeId}
theorem Two.alloc (h : Two w g ax ay bx by' t) (o : Obj) : Two (w.alloc o) g ax ay bx by' t := ⟨h.1.alloc o, h.2.alloc o⟩
theorem Two.step (h : Two w g ax ay bx by' t) (hb : Below w.heap.size w w') : Two w' g ax ay bx by' t := ⟨h.1.step hb, h.2.step hb⟩
theorem Three.alloc (h : Three w g ax ay bx by' px py t) (o : Obj) : Three (w.alloc o) g ax ay bx by' px py t := ⟨h.1.alloc o, h.2.1.alloc o, h.2.2.alloc o⟩
theorem Three.step (h : Three w g ax ay bx by' px py t) (hb : Below w.heap.size w w') : Three w' g ax ay bx by' px py t := ⟨h.1.step hb, h.2.1.step hb, h.2.2.step hb⟩
theorem Four.alloc (h : Four w g ax ay bx by' px py qx qy t) (o : Obj) : Four (w.alloc o) g ax ay bx by' px py qx qy t := ⟨h.1.alloc o, h.2.1.alloc o, h.2.2.1.alloc o, h.2.2.2.alloc o⟩
theorem Four.step (h : Four w g ax ay bx by' px py qx qy t) (hb : Below w.heap.size w w') : Four w' g ax ay bx by' px py qx qy t := ⟨h.1.step hb, h.2.1.step hb, h.2.2.1.step hb, h.2.2.2.step hb⟩
end

def inB (x lo hi : Int) : Bool := decide (lo ≤ x) && decide (x ≤ hi)
theorem inB_spec {x lo hi : Int} : inB x lo hi = true ↔ lo ≤ x ∧ x ≤ hi := by simp [inB]
def okP (x y : Int) : Bool := inB x 0 40 && inB y 0 40
theorem okP_bounds {x y : Int} (h : okP x y = true) : 0 ≤ x ∧ x ≤ 40 ∧ 0 ≤ y ∧ y ≤ 40 := by
  simp only [okP, Bool.and_eq_true, inB_spec] at h
  omega
theorem ret_bool {a b : Bool} (h : a = b) : Ending.returned (.bool a) = .returned (.bool b) := by rw [h]
theorem ret_int {a b : Int} (h : a = b) : Ending.returned (.int .i64 a) = .returned (.int .i64 b) := by rw [h]

theorem in_any (x lo hi : Int) (w : World) :
    Calls Try.prog 90 #[.int .i64 x, .int .i64 lo, .int .i64 hi] w fun e w' => e = .returned (.bool (inB x lo hi)) ∧ w' = w := by
  cases h : decide (lo ≤ x)
  all_goals (
    go_enter Try.func90, Try.ntmps90
    go_wp2_with fail
    go_ret
    exact ⟨ret_bool (by simp only [inB, h, Bool.false_and, Bool.true_and]), rfl⟩)
theorem from_any (x lo hi : Int) (w : World) :
    Calls Try.prog 64 #[.int .i64 x, .int .i64 lo, .int .i64 hi] w fun e w' => e = .returned (.bool (inB x lo hi)) ∧ w' = w := by
  cases h : decide (lo ≤ x)
  all_goals (
    go_enter Try.func64, Try.ntmps64
    go_wp2_with fail
    go_ret
    exact ⟨ret_bool (by simp only [inB, h, Bool.false_and, Bool.true_and]), rfl⟩)
theorem impl_ok (x y : Int) (w : World) :
    Calls Try.prog 82 #[(.agg #[.int .i64 x, .int .i64 y])] w fun e w' => e = .returned (.bool (okP x y)) ∧ Below w.heap.size w w' := by
  cases h : inB x 0 40
  all_goals (
    go_enter Try.func82, Try.ntmps82
    go_wp2_with fail
    refine (from_any _ _ _ _).mono ?_
    rintro e w1 ⟨rfl, rfl⟩
    go_wp2_with fail)
  · go_ret
    exact ⟨ret_bool (by simp only [okP, h, Bool.false_and]), (Below.refl _ _).alloc (Nat.le_refl _) _⟩
  · refine (from_any _ _ _ _).mono ?_
    rintro e w1 ⟨rfl, rfl⟩
    go_wp2_with fail
    go_ret
    exact ⟨ret_bool (by simp only [okP, h, Bool.true_and]), (Below.refl _ _).alloc (Nat.le_refl _) _⟩
/-- The blocks of two, three boxed arguments lie behind the old heap. -/
theorem below1 (w : World) (o : Obj) : Below w.heap.size w (w.alloc o) := (Below.refl _ _).alloc (Nat.le_refl _) _
theorem below2 (w : World) (o p : Obj) : Below w.heap.size w ((w.alloc o).alloc p) := (below1 w o).alloc (by simp) _
theorem below3 (w : World) (o p q : Obj) : Below w.heap.size w (((w.alloc o).alloc p).alloc q) := (below2 w o p).alloc (by simp; omega) _
theorem below4 (w : World) (o p q r : Obj) : Below w.heap.size w ((((w.alloc o).alloc p).alloc q).alloc r) := (below3 w o p q).alloc (by simp; omega) _
/-- One more step, at the newest world's own size. -/
theorem below_on {a w w' : World} (h : Below a.heap.size a w) (hb : Below w.heap.size w w') : Below a.heap.size a w' := h.trans (hb.mono h.size)
theorem minus_any (ax ay bx by' : Int) (w : World) :
    Calls Try.prog 112 #[(.agg #[.int .i64 ax, .int .i64 ay]), (.agg #[.int .i64 bx, .int .i64 by'])] w fun e w' => e = .returned (.agg #[.int .i64 (wrap64 (ax - bx)), .int .i64 (wrap64 (ay - by'))]) ∧ Below w.heap.size w w' := by
  go_enter Try.func112, Try.ntmps112
  go_wp2_with fail
  go_returns
  exact ⟨rfl, below3 _ _ _ _⟩
theorem crossM_any (ax ay bx by' : Int) (w : World) :
    Calls Try.prog 79 #[(.agg #[.int .i64 ax, .int .i64 ay]), (.agg #[.int .i64 bx, .int .i64 by'])] w fun e w' => e = .returned (.int .i64 (wrap64 (wrap64 (ax * by') - wrap64 (ay * bx)))) ∧ Below w.heap.size w w' := by
  go_enter Try.func79, Try.ntmps79
  go_wp2_with fail
  go_ret
  exact ⟨rfl, below2 _ _ _⟩
theorem eqPt_any (ax ay bx by' : Int) (w : World) :
    Calls Try.prog 92 #[(.agg #[.int .i64 ax, .int .i64 ay]), (.agg #[.int .i64 bx, .int .i64 by'])] w fun e w' => e = .returned (.bool (decide (ax = bx) && decide (ay = by'))) ∧ Below w.heap.size w w' := by
  by_cases h1 : ax = bx
  · subst h1
    by_cases h2 : ay = by'
    · subst h2
      go_enter Try.func92, Try.ntmps92
      go_wp2_with fail
      go_ret
      exact ⟨ret_bool (by simp), below2 _ _ _⟩
    · go_enter Try.func92, Try.ntmps92
      go_wp2_with fail
      go_ret
      exact ⟨ret_bool (by simp [h2]), below2 _ _ _⟩
  · go_enter Try.func92, Try.ntmps92
    go_wp2_with fail
    go_ret
    exact ⟨ret_bool (by simp [h1]), below2 _ _ _⟩
end Go.Proofs.Ytnkehfhedjdhaaa

/-! Pts -/
namespace Go.Proofs.Ytnkehfhedjdhaaa
open Go.RowKit

/-- A block that holds points one behind the other. -/
def Pts (w : World) (g : Nat) (L : List (Int × Int)) : Prop := ∀ k (h : k < L.length), w.cell? ⟨g, k * 2, none⟩ = some (.int .i64 L[k].1) ∧ w.cell? ⟨g, k * 2 + 1, none⟩ = some (.int .i64 L[k].2)
theorem Pts.step {w w' : World} {g : Nat} {L : List (Int × Int)} (h : Pts w g L) (hg : g < w.heap.size) (hb : Below w.heap.size w w') : Pts w' g L := fun k hk =>
  ⟨(hb.cell (p := ⟨g, k * 2, none⟩) hg).trans (h k hk).1, (hb.cell (p := ⟨g, k * 2 + 1, none⟩) hg).trans (h k hk).2⟩
def allOk (L : List (Int × Int)) : Bool := L.all fun p => okP p.1 p.2

/-- The cells of a list of points. -/
def flat (L : List (Int × Int)) : List Value := L.flatMap fun p => [.int .i64 p.1, .int .i64 p.2]
theorem flat_append (L M : List (Int × Int)) : flat (L ++ M) = flat L ++ flat M := by simp [flat]
theorem flat_len (L : List (Int × Int)) : (flat L).length = L.length * 2 := by
  induction L with
  | nil => rfl
  | cons p L ih =>
    have : flat (p :: L) = .int .i64 p.1 :: .int .i64 p.2 :: flat L := rfl
    rw [this]; simp [ih]; omega
theorem infoPt : (Try.prog.info? 46).map (fun i => (i.zero, i.size, i.bytes)) = some (some (.agg #[.int .i64 0, .int .i64 0]), 2, 16) := by kernel_rfl
theorem At.grown {w w' : World} {g : Nat} {x y : Int} {t : TypeId} {r : Option Nat} (h : At w g x y t) (hg : w.grownBy w' r) (hne : some g ≠ r) : At w' g x y t := (hg.block g h.lt hne).trans h

theorem own_below {w w' : World} {B : Nat} {e : TypeId} {size : Nat} {v : Value} {n : Nat} {xs : List Value} (h : w.ownsRow B e size v n xs) (hb : Below w.heap.size w w') : w'.ownsRow B e size v n xs := by
  refine ⟨h.1, ?_⟩
  rcases h.2 with h2 | ⟨g, cap, cur, hv, hg, hh, r⟩
  · exact Or.inl h2
  · exact Or.inr ⟨g, cap, cur, hv, hg, by rw [hb.block g (Array.getElem?_eq_some_iff.1 hh).1]; exact hh, r⟩
theorem own_base {w : World} {B B' : Nat} {e : TypeId} {size : Nat} {v : Value} {n : Nat} {xs : List Value} (h : w.ownsRow B e size v n xs) (hb : B' ≤ B) : w.ownsRow B' e size v n xs := by
  refine ⟨h.1, ?_⟩
  rcases h.2 with h2 | ⟨g, cap, cur, hv, hg, r⟩
  · exact Or.inl h2
  · exact Or.inr ⟨g, cap, cur, hv, by omega, r⟩
theorem Four.grown {w w' : World} {g : Nat} {ax ay bx by' px py qx qy : Int} {t : TypeId} {r : Option Nat} (h : Four w g ax ay bx by' px py qx qy t) (hg : w.grownBy w' r) (hr : ∀ k, r = some k → g + 1 + 1 + 1 + 1 ≤ k) : Four w' g ax ay bx by' px py qx qy t :=
  ⟨h.1.grown hg (fun e => by have := hr _ e.symm; omega), h.2.1.grown hg (fun e => by have := hr _ e.symm; omega), h.2.2.1.grown hg (fun e => by have := hr _ e.symm; omega), h.2.2.2.grown hg (fun e => by have := hr _ e.symm; omega)⟩
theorem Pts.grown {w w' : World} {g : Nat} {L : List (Int × Int)} {r : Option Nat} (h : Pts w g L) (hg : w.grownBy w' r) (hr : some g ≠ r) : Pts w' g L := fun k hk =>
  ⟨hg.cell (h k hk).1 hr, hg.cell (h k hk).2 hr⟩
theorem Pts.alloc {w : World} {g : Nat} {L : List (Int × Int)} (h : Pts w g L) (hg : g < w.heap.size) (o : Obj) : Pts (w.alloc o) g L := h.step hg ((Below.refl _ _).alloc (Nat.le_refl _) _)
theorem pts2_new (w : World) (ax ay bx by' : Int) : Pts (w.alloc (.cells #[.int .i64 ax, .int .i64 ay, .int .i64 bx, .int .i64 by'] 46)) w.heap.size [(ax, ay), (bx, by')] := by
  intro k hk
  simp only [World.cell?_alloc_mark]
  have hk3 : k < 2 := hk
  match k, hk3 with
  | 0, _ => exact ⟨rfl, rfl⟩
  | 1, _ => exact ⟨rfl, rfl⟩

theorem own_apart {w w1 : World} {B0 B1 : Nat} {e : TypeId} {v0 v1 : Value} {n0 n1 : Nat} {xs0 xs1 : List Value} (h0 : w.ownsRow B0 e 2 v0 n0 xs0) (hB : w.heap.size ≤ B1) (h1 : w1.ownsRow B1 e 2 v1 n1 xs1) : v0.ownBlock = none ∨ v0.ownBlock ≠ v1.ownBlock := by
  cases hv : v0.ownBlock with
  | none => exact .inl rfl
  | some k =>
    refine .inr fun he => ?_
    have a1 := (h0.lt k hv).2
    have a2 := (h1.lt k he.symm).1
    omega
theorem own_drew {w : World} {B : Nat} {e : TypeId} {size : Nat} {v : Value} {n : Nat} {xs : List Value} (h : w.ownsRow B e size v n xs) : w.drew.ownsRow B e size v n xs := h

theorem cell_on {w w' : World} {B : Nat} {a : Addr} {v : Value} (hb : Below B w w') (hB : B = w.heap.size) (h : w.cell? a = some v) : w'.cell? a = some v := by
  subst hB
  exact (hb.cell (World.block_lt_of_cell? w a h)).trans h

/-- The cells of a slice of points. -/
def PtsA (w : World) (A : Option Addr) (L : List (Int × Int)) : Prop := ∀ k (h : k < L.length), ∃ g, A = some ⟨g, 0, none⟩ ∧ w.cell? ⟨g, k * 2, none⟩ = some (.int .i64 L[k].1) ∧ w.cell? ⟨g, k * 2 + 1, none⟩ = some (.int .i64 L[k].2)
theorem flat_at (L : List (Int × Int)) : ∀ k (h : k < L.length), (flat L)[k * 2]? = some (.int .i64 L[k].1) ∧ (flat L)[k * 2 + 1]? = some (.int .i64 L[k].2) := by
  induction L with
  | nil => intro k h; simp at h
  | cons p L ih =>
    intro k h
    have e : flat (p :: L) = .int .i64 p.1 :: .int .i64 p.2 :: flat L := rfl
    rw [e]
    cases k with
    | zero => exact ⟨rfl, rfl⟩
    | succ k =>
      have := ih k (by simpa using h)
      have e1 : (k + 1) * 2 = k * 2 + 1 + 1 := by omega
      have e2 : (k + 1) * 2 + 1 = k * 2 + 1 + 1 + 1 := by omega
      rw [e2, e1]
      simpa using this
theorem own_pts {w : World} {B : Nat} {e : TypeId} {v : Value} {n : Nat} {L : List (Int × Int)} (h : w.ownsRow B e 2 v n (flat L)) :
    n = L.length ∧ ∃ A c, v = .slice A L.length c ∧ PtsA w A L := by
  have hl : L.length = n := by have := h.1; rw [flat_len] at this; omega
  refine ⟨hl.symm, ?_⟩
  subst hl
  rcases h.2 with ⟨rfl, h0⟩ | ⟨g, cap, cur, rfl, hg, hh, _⟩
  · exact ⟨none, 0, by rw [h0], fun k hk => by omega⟩
  · refine ⟨some ⟨g, 0, none⟩, cap, rfl, fun k hk => ⟨g, rfl, ?_, ?_⟩⟩
    · rw [h.cellAt (k * 2) (by omega)]; exact (flat_at L k hk).1
    · rw [h.cellAt (k * 2 + 1) (by omega)]; exact (flat_at L k hk).2
theorem ptsA_of {w : World} {B : Nat} {e : TypeId} {A : Option Addr} {n c : Nat} {L : List (Int × Int)} (h : w.ownsRow B e 2 (.slice A n c) n (flat L)) : PtsA w A L := by
  obtain ⟨_, A', c', hv, hP⟩ := own_pts h
  simp only [Value.slice.injEq] at hv
  obtain ⟨rfl, -, -⟩ := hv
  exact hP
theorem pts_lt {w : World} {B : Nat} {e : TypeId} {A : Option Addr} {n c : Nat} {xs : List Value} (h : w.ownsRow B e 2 (.slice A n c) n xs) : ∀ g, A = some ⟨g, 0, none⟩ → g < w.heap.size := fun g hA => (h.lt g (by rw [hA]; rfl)).2
theorem ptsA_on {w w' : World} {A : Option Addr} {L : List (Int × Int)} (h : PtsA w A L) (hb : Below w.heap.size w w') : PtsA w' A L := fun k hk => by
  obtain ⟨g, hA, h1, h2⟩ := h k hk
  exact ⟨g, hA, cell_on hb rfl h1, cell_on hb rfl h2⟩

set_option maxRecDepth 100000 in
set_option maxHeartbeats 800000 in
theorem eq_pts (A1 A2 : Option Addr) (c1 c2 : Nat) (L : List (Int × Int)) (w : World) (h1 : PtsA w A1 L) (h2 : PtsA w A2 L) (hL : L.length ≤ 1048576) :
    Calls Try.prog 43 #[.slice A1 L.length c1, .slice A2 L.length c2] w fun e w' => e = .returned (.bool true) ∧ Below w.heap.size w w' := by
  have H1 := Lib.hid h1; clear h1
  have H2 := Lib.hid h2; clear h2
  go_enter Try.func43, Try.ntmps43
  go_wp2_with fail
  go_loopw [5] (fun i w' => ∃ k : Nat, k ≤ L.length ∧ i = .int .i64 k ∧ Below w.heap.size w w') (fun i _ => L.length - (intOf i).toNat)
  case atStart => exact ⟨0, Nat.zero_le _, rfl, Below.refl _ _⟩
  case round =>
    obtain ⟨wo, rfl⟩ : ∃ wo : World, wo = wr := ⟨_, rfl⟩
    obtain ⟨k, hk, rfl, hb⟩ := hrel
    by_cases hlt : k < L.length
    · obtain ⟨g1, rfl, hc1, hd1⟩ := ptsA_on H1.out hb k hlt
      obtain ⟨g2, rfl, hc2, hd2⟩ := ptsA_on H2.out hb k hlt
      obtain ⟨x, hx⟩ : ∃ x, x = L[k].1 := ⟨_, rfl⟩
      obtain ⟨y, hy⟩ : ∃ y, y = L[k].2 := ⟨_, rfl⟩
      rw [← hx] at hc1 hc2
      rw [← hy] at hd1 hd2
      clear hx hy
      have HQ := Lib.hid (fun d os => Calls.regrown_of (w := wo) (d := d) (os := os) (eqPt_any x y x y _))
      have k1 := cell_regrown hc1; have k2 := cell_regrown hd1; have k3 := cell_regrown hc2; have k4 := cell_regrown hd2
      go_wp2_with fail
      refine wp_region_quiet_below (by kernel_rfl) (by kernel_rfl) ?_
      repeat (first
        | go_big_quiet_step (first | exact Calls.regrown_of (eqPt_any _ _ _ _ _))
        | quiet_step (first | exact Calls.regrown_of (eqPt_any _ _ _ _ _)))
      refine wpQuiet_nil ?_
      rintro _ ⟨⟨dq, osq⟩, rfl⟩
      have hb2 := hb.trans ((below_regrown wo dq osq).mono hb.size)
      clear hc1 hd1 hc2 hd2 k1 k2 k3 k4
      simp only at *
      generalize Go.Sort.grow (redrawn wo dq) osq = w2 at *
      go_wp2_with fail
      go_roundw
      case rel => exact ⟨k + 1, by omega, by go_num, hb2⟩
      case measure => simp [intOf]; omega
    · go_wp2_with fail
      go_ret
      exact ⟨rfl, hb⟩
/-- The marks 1, 2 .. m. -/
def marksI (m : Nat) : List Value := (List.range m).map fun (j : Nat) => .int .i64 (1 + (j : Int))
theorem marksI_len (m : Nat) : (marksI m).length = m := by simp [marksI]
theorem marksI_step {j : Nat} {xs : List Value} (hj : j < xs.length) : (marksI j ++ xs.drop j).set j (.int .i64 (1 + (j : Int))) = marksI (j + 1) ++ xs.drop (j + 1) := by
  have h1 := marksI_len j
  rw [List.set_append_right _ _ (by rw [h1]; exact Nat.le_refl _), h1, Nat.sub_self, List.drop_eq_getElem_cons hj, List.set_cons_zero]
  simp [marksI, List.range_succ]
theorem only_set {w w1 : World} {g : Nat} (h : w.grownBy w1 (some g)) (j : Nat) (u : Value) : w.grownBy (w1.setCell ⟨g, j, none⟩ u) (some g) :=
  ⟨h.os, h.tape, h.output, by simpa [World.setCell] using h.size, fun k hk hr => (Below.heap_setCell w1 ⟨g, j, none⟩ u k (by
    intro e; exact hr (by rw [e]))).trans (h.block k hk hr)⟩
theorem cell_some {w : World} {B : Nat} {e : TypeId} {g n cap : Nat} {xs : List Value} (h : w.ownsRow B e 2 (.slice (some ⟨g, 0, none⟩) n cap) n xs) (j : Nat) (hj : j < n * 2) : ∃ u, w.cell? ⟨g, j, none⟩ = some u := by
  rw [h.cellAt j hj]
  have : j < xs.length := by rw [h.1]; exact hj
  exact ⟨_, List.getElem?_eq_getElem this⟩

set_option maxRecDepth 100000 in
set_option maxHeartbeats 800000 in
/-- Every number of an owned slice of points is overwritten by its mark. -/
theorem mark_pts (B : Nat) (v : Value) (n : Nat) (xs : List Value) (w : World) (hown : w.ownsRow B 46 2 v n xs) (hn : n ≤ 1048576) :
    Calls Try.prog 44 #[v, .int .i64 1] w fun e w' => e = .returned (.int .i64 (1 + 2 * n)) ∧ w'.ownsRow B 46 2 v n (marksI (n * 2)) ∧ w.grownBy w' v.ownBlock := by
  have hl : xs.length = n * 2 := hown.1
  rcases hown.2 with ⟨rfl, rfl⟩ | ⟨g, cap, cur, rfl, _⟩
  · go_enter Try.func44, Try.ntmps44
    go_wp2_with fail
    refine wp_loop_rounds 1 ?_
    rw [rounds_succ]
    go_wp2_with fail
    go_ret
    exact ⟨rfl, World.ownsRow_nil _ _ _ _, World.grownBy.refl _ _⟩
  · go_enter Try.func44, Try.ntmps44
    go_wp2_with fail
    go_loopw [1, 5] (fun m i wr => ∃ k : Nat, k ≤ n ∧ i = .int .i64 k ∧ m = .int .i64 (1 + 2 * k) ∧ wr.ownsRow B 46 2 (.slice (some ⟨g, 0, none⟩) n cap) n (marksI (k * 2) ++ xs.drop (k * 2)) ∧ w.grownBy wr (some g)) (fun _ i _ => n - (intOf i).toNat)
    case atStart => exact ⟨0, Nat.zero_le _, rfl, rfl, by simpa [marksI] using hown, World.grownBy.refl _ _⟩
    case round =>
      obtain ⟨k, hk, rfl, rfl, hown', hgr⟩ := hrel
      by_cases hlt : k < n
      · obtain ⟨u1, hc1⟩ := cell_some hown' (k * 2) (by omega)
        have hf1 := hown'.frozenAt (k * 2)
        have hs1 := (hown'.stored (k * 2) (.int .i64 (1 + 2 * (k : Int)))).1
        have e1 : (1 : Int) + 2 * (k : Int) = 1 + ((k * 2 : Nat) : Int) := by omega
        have hs2 := hs1
        rw [e1, marksI_step (by omega)] at hs2
        rw [← e1] at hs2
        have hg2 := only_set hgr (k * 2) (.int .i64 (1 + 2 * (k : Int)))
        obtain ⟨u2, hc2⟩ := cell_some hs2 (k * 2 + 1) (by omega)
        have hf2 := hs2.frozenAt (k * 2 + 1)
        have hs3 := (hs2.stored (k * 2 + 1) (.int .i64 (1 + 2 * (k : Int) + 1))).1
        have e2 : (1 : Int) + 2 * (k : Int) + 1 = 1 + ((k * 2 + 1 : Nat) : Int) := by omega
        have hs4 := hs3
        rw [e2, marksI_step (by omega)] at hs4
        rw [← e2] at hs4
        have hg4 := only_set hg2 (k * 2 + 1) (.int .i64 (1 + 2 * (k : Int) + 1))
        have R := Lib.hid (And.intro hs4 hg4)
        clear hs1 hs2 hs3 hs4 hg2 hg4 hown' hgr hown e1 e2
        go_wp2_with fail
        go_roundw
        case rel => exact ⟨k + 1, by omega, by go_num, by go_num, by rw [show (k + 1) * 2 = k * 2 + 1 + 1 from by omega]; exact R.out.1, R.out.2⟩
        case measure => simp [intOf]; omega
      · obtain rfl : k = n := by omega
        rw [List.drop_of_length_le (by omega), List.append_nil] at hown'
        have R := Lib.hid hown'
        clear hown' hown
        go_wp2_with fail
        go_ret
        exact ⟨rfl, R.out, hgr⟩
set_option maxRecDepth 100000 in
set_option maxHeartbeats 800000 in
/-- The marks are still there. -/
theorem held_pts (B : Nat) (v : Value) (n : Nat) (w : World) (hown : w.ownsRow B 46 2 v n (marksI (n * 2))) (hn : n ≤ 1048576) :
    Calls Try.prog 45 #[v, .int .i64 1] w fun e w' => e = .returned (.int .i64 (1 + 2 * n)) ∧ w' = w := by
  have hM : ∀ j, j < n * 2 → (marksI (n * 2))[j]? = some (.int .i64 (1 + (j : Int))) := fun j hj => by simp [marksI, hj]
  rcases hown.2 with ⟨rfl, rfl⟩ | ⟨g, cap, cur, rfl, _⟩
  · clear hM
    go_enter Try.func45, Try.ntmps45
    go_wp2_with fail
    refine wp_loop_rounds 1 ?_
    rw [rounds_succ]
    go_wp2_with fail
    go_ret
    exact ⟨rfl, rfl⟩
  · have HC : Hid (∀ j, j < n * 2 → w.cell? ⟨g, j, none⟩ = some (.int .i64 (1 + (j : Int)))) := fun j hj => (hown.cellAt j hj).trans (hM j hj)
    clear hM hown
    go_enter Try.func45, Try.ntmps45
    go_wp2_with fail
    go_loopw [1, 5] (fun m i wr => ∃ k : Nat, k ≤ n ∧ i = .int .i64 k ∧ m = .int .i64 (1 + 2 * k) ∧ wr = w) (fun _ i _ => n - (intOf i).toNat)
    case atStart => exact ⟨0, Nat.zero_le _, rfl, rfl, rfl⟩
    case round =>
      obtain ⟨k, hk, rfl, rfl, rfl⟩ := hrel
      by_cases hlt : k < n
      · have hc1 := HC.out (k * 2) (by omega)
        have hc2 := HC.out (k * 2 + 1) (by omega)
        have e1 : (1 : Int) + ((k * 2 : Nat) : Int) = 1 + 2 * (k : Int) := by omega
        have e2 : (1 : Int) + ((k * 2 + 1 : Nat) : Int) = 1 + 2 * (k : Int) + 1 := by omega
        rw [e1] at hc1
        rw [e2] at hc2
        clear e1 e2
        go_wp2_with fail
        go_roundw
        case rel => exact ⟨k + 1, by omega, by go_num, by go_num, by first | trivial | rfl⟩
        case measure => simp [intOf]; omega
      · obtain rfl : k = n := by omega
        go_wp2_with fail
        go_ret
        exact ⟨rfl, rfl⟩
end Go.Proofs.Ytnkehfhedjdhaaa

/-! Cross -/
namespace Go.Proofs.Ytnkehfhedjdhaaa
open Go.RowKit

theorem abs_mul {x y : Int} {m n : Nat} (h1 : x.natAbs ≤ m) (h2 : y.natAbs ≤ n) : (x * y).natAbs ≤ m * n := by
  rw [Int.natAbs_mul]; exact Nat.mul_le_mul h1 h2
theorem wrap_id {x : Int} (h : x.natAbs ≤ 1000000000000000000) : wrap64 x = x := IntWalk.wrap64_in x (by omega)

def crossI (ax ay bx by' px py : Int) : Int := (bx - ax) * (py - ay) - (by' - ay) * (px - ax)
theorem crossI_bound {ax ay bx by' px py : Int} (ha : okP ax ay = true) (hb : okP bx by' = true) (hp : okP px py = true) : (crossI ax ay bx by' px py).natAbs ≤ 3200 := by
  have := okP_bounds ha; have := okP_bounds hb; have := okP_bounds hp
  have h1 := abs_mul (x := bx - ax) (y := py - ay) (m := 40) (n := 40) (by omega) (by omega)
  have h2 := abs_mul (x := by' - ay) (y := px - ax) (m := 40) (n := 40) (by omega) (by omega)
  unfold crossI
  generalize (bx - ax) * (py - ay) = u at *
  generalize (by' - ay) * (px - ax) = v at *
  omega
/-- Small points: what is reckoned of them has no wraps. -/
def smP (x y : Int) : Bool := decide (-200 ≤ x) && decide (x ≤ 200) && decide (-200 ≤ y) && decide (y ≤ 200)
theorem smP_bounds {x y : Int} (h : smP x y = true) : -200 ≤ x ∧ x ≤ 200 ∧ -200 ≤ y ∧ y ≤ 200 := by
  simp only [smP, Bool.and_eq_true, decide_eq_true_eq] at h
  omega
theorem smP_ok {x y : Int} (h : okP x y = true) : smP x y = true := by
  have := okP_bounds h
  simp only [smP, Bool.and_eq_true, decide_eq_true_eq]
  omega
/-- What the program reckons, with its wraps, at small points. -/
theorem cross_wrap_sm {ax ay bx by' px py : Int} (ha : smP ax ay = true) (hb : smP bx by' = true) (hp : smP px py = true) :
    wrap64 (wrap64 (wrap64 (bx - ax) * wrap64 (py - ay)) - wrap64 (wrap64 (by' - ay) * wrap64 (px - ax))) = crossI ax ay bx by' px py := by
  have := smP_bounds ha; have := smP_bounds hb; have := smP_bounds hp
  rw [wrap_id (x := bx - ax) (by omega), wrap_id (x := py - ay) (by omega), wrap_id (x := by' - ay) (by omega), wrap_id (x := px - ax) (by omega)]
  have h1 := abs_mul (x := bx - ax) (y := py - ay) (m := 400) (n := 400) (by omega) (by omega)
  have h2 := abs_mul (x := by' - ay) (y := px - ax) (m := 400) (n := 400) (by omega) (by omega)
  rw [wrap_id (x := (bx - ax) * (py - ay)) (by omega), wrap_id (x := (by' - ay) * (px - ax)) (by omega)]
  unfold crossI
  generalize (bx - ax) * (py - ay) = u at *
  generalize (by' - ay) * (px - ax) = v at *
  exact wrap_id (by omega)
theorem cross_wrap {ax ay bx by' px py : Int} (ha : okP ax ay = true) (hb : okP bx by' = true) (hp : okP px py = true) :
    wrap64 (wrap64 (wrap64 (bx - ax) * wrap64 (py - ay)) - wrap64 (wrap64 (by' - ay) * wrap64 (px - ax))) = crossI ax ay bx by' px py := cross_wrap_sm (smP_ok ha) (smP_ok hb) (smP_ok hp)
def crossV (ax ay bx by' px py : Int) : Int := bif okP ax ay && okP bx by' && okP px py then crossI ax ay bx by' px py else 0

set_option maxRecDepth 100000 in
set_option maxHeartbeats 400000 in
theorem all_any (g c : Nat) (L : List (Int × Int)) (w : World) (hP : Pts w g L) (hg : g < w.heap.size) (hL : L.length ≤ 1048576) :
    Calls Try.prog 76 #[.slice (some ⟨g, 0, none⟩) L.length c] w fun e w' => e = .returned (.bool (allOk L)) ∧ Below w.heap.size w w' := by
  have HP := Lib.hid hP; clear hP
  go_enter Try.func76, Try.ntmps76
  go_wp2_with fail
  go_loopw [4, 7] (fun v i w' => ∃ k : Nat, k ≤ L.length ∧ i = .int .i64 k ∧ Hid (allOk L = allOk (L.drop k)) ∧ Below w.heap.size w w') (fun _ i _ => L.length - (intOf i).toNat)
  case atStart => exact ⟨0, Nat.zero_le _, rfl, rfl, Below.refl _ _⟩
  case round =>
    obtain ⟨wo, rfl⟩ : ∃ wo : World, wo = wr := ⟨_, rfl⟩
    obtain ⟨k, hk, rfl, HA, hb⟩ := hrel
    by_cases hlt : k < L.length
    · have hp := HP.out.step hg hb k hlt
      have hd : L.drop k = L[k] :: L.drop (k + 1) := List.drop_eq_getElem_cons hlt
      have HA2 : Hid (allOk L = (okP L[k].1 L[k].2 && allOk (L.drop (k + 1)))) := by
        show _ = _
        rw [HA.out, hd]; rfl
      obtain ⟨x, y, hxy⟩ : ∃ x y, L[k] = (x, y) := ⟨_, _, rfl⟩
      rw [hxy] at hp HA2
      obtain ⟨c1, c2⟩ := hp
      simp only at c1 c2 HA2
      clear hd hxy
      go_wp2_with fail
      refine (impl_ok _ _ _).mono ?_
      rintro e w2 ⟨rfl, hb2⟩
      have b2 := below_on (hb.alloc hb.size _) hb2
      cases hok : okP x y
      · rw [hok] at HA2
        go_wp2_with fail
        go_ret
        exact ⟨ret_bool (by rw [HA2.out]; rfl), b2⟩
      · rw [hok] at HA2
        clear c1 c2 hb2
        go_wp2_with fail
        go_roundw
        case rel => exact ⟨k + 1, by omega, by go_num, HA2, b2⟩
        case measure => simp [intOf]; omega
    · obtain rfl : k = L.length := by omega
      go_wp2_with fail
      go_ret
      exact ⟨ret_bool (by rw [HA.out]; simp [allOk]), hb⟩
theorem pts3 (w : World) (ax ay bx by' px py : Int) : Pts ((((w.alloc (.cells #[.int .i64 ax, .int .i64 ay] 46)).alloc (.cells #[.int .i64 bx, .int .i64 by'] 46)).alloc (.cells #[.int .i64 px, .int .i64 py] 46)).alloc
      (.cells #[.int .i64 ax, .int .i64 ay, .int .i64 bx, .int .i64 by', .int .i64 px, .int .i64 py] 46)) (w.heap.size + 1 + 1 + 1) [(ax, ay), (bx, by'), (px, py)] := by
  have e3 : w.heap.size + 1 + 1 + 1 = (((w.alloc (.cells #[.int .i64 ax, .int .i64 ay] 46)).alloc (.cells #[.int .i64 bx, .int .i64 by'] 46)).alloc (.cells #[.int .i64 px, .int .i64 py] 46)).heap.size := by simp
  rw [e3]
  intro k hk
  simp only [World.cell?_alloc_mark]
  have hk3 : k < 3 := hk
  match k, hk3 with
  | 0, _ => exact ⟨rfl, rfl⟩
  | 1, _ => exact ⟨rfl, rfl⟩
  | 2, _ => exact ⟨rfl, rfl⟩
theorem pts2 (w : World) (ax ay bx by' : Int) : Pts (((w.alloc (.cells #[.int .i64 ax, .int .i64 ay] 46)).alloc (.cells #[.int .i64 bx, .int .i64 by'] 46)).alloc
      (.cells #[.int .i64 ax, .int .i64 ay, .int .i64 bx, .int .i64 by'] 46)) (w.heap.size + 1 + 1) [(ax, ay), (bx, by')] := by
  have e3 : w.heap.size + 1 + 1 = ((w.alloc (.cells #[.int .i64 ax, .int .i64 ay] 46)).alloc (.cells #[.int .i64 bx, .int .i64 by'] 46)).heap.size := by simp
  rw [e3]
  intro k hk
  simp only [World.cell?_alloc_mark]
  have hk3 : k < 2 := hk
  match k, hk3 with
  | 0, _ => exact ⟨rfl, rfl⟩
  | 1, _ => exact ⟨rfl, rfl⟩
theorem pts4 (w : World) (ax ay bx by' px py qx qy : Int) : Pts (((((w.alloc (.cells #[.int .i64 ax, .int .i64 ay] 46)).alloc (.cells #[.int .i64 bx, .int .i64 by'] 46)).alloc (.cells #[.int .i64 px, .int .i64 py] 46)).alloc (.cells #[.int .i64 qx, .int .i64 qy] 46)).alloc
      (.cells #[.int .i64 ax, .int .i64 ay, .int .i64 bx, .int .i64 by', .int .i64 px, .int .i64 py, .int .i64 qx, .int .i64 qy] 46)) (w.heap.size + 1 + 1 + 1 + 1) [(ax, ay), (bx, by'), (px, py), (qx, qy)] := by
  have e3 : w.heap.size + 1 + 1 + 1 + 1 = ((((w.alloc (.cells #[.int .i64 ax, .int .i64 ay] 46)).alloc (.cells #[.int .i64 bx, .int .i64 by'] 46)).alloc (.cells #[.int .i64 px, .int .i64 py] 46)).alloc (.cells #[.int .i64 qx, .int .i64 qy] 46)).heap.size := by simp
  rw [e3]
  intro k hk
  simp only [World.cell?_alloc_mark]
  have hk3 : k < 4 := hk
  match k, hk3 with
  | 0, _ => exact ⟨rfl, rfl⟩
  | 1, _ => exact ⟨rfl, rfl⟩
  | 2, _ => exact ⟨rfl, rfl⟩
  | 3, _ => exact ⟨rfl, rfl⟩
theorem all2 (a b c d : Int) : allOk [(a, b), (c, d)] = (okP a b && okP c d) := by simp [allOk]
theorem all3 (a b c d e f : Int) : allOk [(a, b), (c, d), (e, f)] = (okP a b && okP c d && okP e f) := by simp [allOk, Bool.and_assoc]
theorem all4 (a b c d e f g h : Int) : allOk [(a, b), (c, d), (e, f), (g, h)] = (okP a b && okP c d && okP e f && okP g h) := by simp [allOk, Bool.and_assoc]
set_option maxRecDepth 100000 in
set_option maxHeartbeats 400000 in
theorem impl_cross (ax ay bx by' px py : Int) (w : World) :
    Calls Try.prog 128 #[(.agg #[.int .i64 ax, .int .i64 ay]), (.agg #[.int .i64 bx, .int .i64 by']), (.agg #[.int .i64 px, .int .i64 py])] w fun e w' => e = .returned (.int .i64 (crossV ax ay bx by' px py)) ∧ Below w.heap.size w w' := by
  have HP := Lib.hid (pts3 w ax ay bx by' px py)
  go_enter Try.func128, Try.ntmps128
  go_wp2_with fail
  refine (all_any _ _ [(ax, ay), (bx, by'), (px, py)] _ HP.out (by simp) (by simp)).mono ?_
  rintro e w1 ⟨rfl, hb1⟩
  have t1 := ((three0 w ax ay bx by' px py 46).alloc _).step hb1
  have b1 := below_on (below4 w _ _ _ _) hb1
  clear hb1 HP
  cases hok : allOk [(ax, ay), (bx, by'), (px, py)]
  · go_wp2_with fail
    go_ret
    exact ⟨ret_int (by rw [crossV, ← all3, hok]; rfl), b1⟩
  have hok' := hok
  rw [all3] at hok'
  simp only [Bool.and_eq_true] at hok'
  obtain ⟨⟨ha, hb⟩, hp⟩ := hok'
  have c1 := t1.1.c0; have c2 := t1.1.c1; have c3 := t1.2.1.c0; have c4 := t1.2.1.c1; have c5 := t1.2.2.c0; have c6 := t1.2.2.c1
  have k1 := cell_regrown c1; have k2 := cell_regrown c2; have k3 := cell_regrown c3; have k4 := cell_regrown c4; have k5 := cell_regrown c5; have k6 := cell_regrown c6
  go_wp2_with fail
  refine wp_region_quiet_below (by kernel_rfl) (by kernel_rfl) ?_
  repeat (first
    | go_big_quiet_step (first | exact Calls.regrown_of (minus_any _ _ _ _ _) | exact Calls.regrown_of (crossM_any _ _ _ _ _))
    | quiet_step (first | exact Calls.regrown_of (minus_any _ _ _ _ _) | exact Calls.regrown_of (crossM_any _ _ _ _ _)))
  refine wpQuiet_nil ?_
  intro _ hw'
  obtain ⟨⟨dq, osq⟩, hw''⟩ := hw'
  subst hw''
  have b2 := b1.trans ((below_regrown w1 dq osq).mono b1.size)
  go_wp2_with fail
  go_ret
  exact ⟨ret_int (by rw [cross_wrap ha hb hp]; simp [crossV, ha, hb, hp]), b2⟩
end Go.Proofs.Ytnkehfhedjdhaaa

/-! Right -/
namespace Go.Proofs.Ytnkehfhedjdhaaa
open Go.RowKit

def loB (l h p : Int × Int) : Bool := decide (l.2 ≤ p.2) && decide (p.2 < h.2) && decide (0 < crossI l.1 l.2 h.1 h.2 p.1 p.2)
def rightB (a b p : Int × Int) : Bool := bif decide (b.2 < a.2) then loB b a p else loB a b p

theorem at_froz {W : World} {g : Nat} {x y : Int} {t : TypeId} (h : At W g x y t) (o : Nat) : W.frozen? ⟨g, o, none⟩ = false := by simp [World.frozen?, show W.heap[g]? = _ from h]
theorem at_set {W : World} {x y : Int} {b : Nat} {t : TypeId} {G : Nat} (h : At W G x y t) (hne : G ≠ b) (o : Nat) (v : Value) : At (W.setCell ⟨b, o, none⟩ v) G x y t := (Below.heap_setCell W ⟨b, o, none⟩ v G hne).trans h
theorem at_st0 {W : World} {g : Nat} {x y : Int} {t : TypeId} (h : At W g x y t) (a : Int) (o : Nat) (ho : o = 0 := by rfl) : At (W.setCell ⟨g, o, none⟩ (.int .i64 a)) g a y t := by
  subst ho
  obtain ⟨hlt, hk⟩ := Array.getElem?_eq_some_iff.1 h
  show (W.heap.modify g _)[g]? = _
  rw [Array.getElem?_eq_getElem (by rw [Array.size_modify]; exact hlt), Array.getElem_modify_self, hk]
  rfl
theorem at_st1 {W : World} {g : Nat} {x y : Int} {t : TypeId} (h : At W g x y t) (a : Int) : At (W.setCell ⟨g, 1, none⟩ (.int .i64 a)) g x a t := by
  obtain ⟨hlt, hk⟩ := Array.getElem?_eq_some_iff.1 h
  show (W.heap.modify g _)[g]? = _
  rw [Array.getElem?_eq_getElem (by rw [Array.size_modify]; exact hlt), Array.getElem_modify_self, hk]
  rfl
set_option maxRecDepth 100000 in
set_option maxHeartbeats 4000000 in
theorem right_sm (ax ay bx by' px py : Int) (w : World) (ha : smP ax ay = true) (hb : smP bx by' = true) (hp : smP px py = true) :
    Calls Try.prog 130 #[.agg #[.int .i64 ax, .int .i64 ay, .int .i64 bx, .int .i64 by'], (.agg #[.int .i64 px, .int .i64 py])] w fun e w' => e = .returned (.bool (rightB (ax, ay) (bx, by') (px, py))) ∧ Below w.heap.size w w' := by
  go_enter Try.func130, Try.ntmps130
  go_upto_region 1 with (fail)
  go_cut [5, 6] (fun s5 s6 wx => ∃ B5 B6, Hid (B5 ≠ B6) ∧ Hid (w.heap.size + 1 < B5) ∧ Hid (w.heap.size + 1 < B6) ∧ s5 = .pointer (some ⟨B5, 0, none⟩) ∧ s6 = .pointer (some ⟨B6, 0, none⟩) ∧ Hid (At wx B5 ax ay 46) ∧ Hid (At wx B6 bx by' 46) ∧ Hid (At wx (w.heap.size + 1) px py 46) ∧ Hid (Below w.heap.size w wx))
  case first =>
    have hb1 := below2 w (.cells #[.int .i64 ax, .int .i64 ay, .int .i64 bx, .int .i64 by'] 100) (.cells #[.int .i64 px, .int .i64 py] 46)
    have hp1 := at_new (w.alloc (.cells #[.int .i64 ax, .int .i64 ay, .int .i64 bx, .int .i64 by'] 100)) px py 46
    rw [size_alloc] at hp1
    have hs2 : ((w.alloc (.cells #[.int .i64 ax, .int .i64 ay, .int .i64 bx, .int .i64 by'] 100)).alloc (.cells #[.int .i64 px, .int .i64 py] 46)).heap.size = w.heap.size + 1 + 1 := by simp
    have hK : ∀ (W : World) (a b c d : Int), W.heap.size = w.heap.size + 1 + 1 → Below w.heap.size w W → At W (w.heap.size + 1) px py 46 → Below w.heap.size w ((W.alloc (.cells #[.int .i64 a, .int .i64 b] 46)).alloc (.cells #[.int .i64 c, .int .i64 d] 46)).drew ∧ At ((W.alloc (.cells #[.int .i64 a, .int .i64 b] 46)).alloc (.cells #[.int .i64 c, .int .i64 d] 46)).drew (w.heap.size + 1) px py 46 ∧ At ((W.alloc (.cells #[.int .i64 a, .int .i64 b] 46)).alloc (.cells #[.int .i64 c, .int .i64 d] 46)).drew (w.heap.size + 1 + 1) a b 46 ∧ At ((W.alloc (.cells #[.int .i64 a, .int .i64 b] 46)).alloc (.cells #[.int .i64 c, .int .i64 d] 46)).drew (w.heap.size + 1 + 1 + 1) c d 46 := fun W a b c d hs hB hP => by
      have k1 := (at_new W a b 46).alloc (.cells #[.int .i64 c, .int .i64 d] 46)
      have k2 := at_new (W.alloc (.cells #[.int .i64 a, .int .i64 b] 46)) c d 46
      rw [size_alloc] at k2
      rw [hs] at k1 k2
      exact ⟨((hB.alloc (by omega) _).alloc (by simp; omega) _).drew, (hP.alloc _).alloc _, k1, k2⟩
    go_region
    all_goals go_wp2_with fail
    all_goals go_meet
    · have k := hK _ ax ay bx by' hs2 hb1 hp1
      exact ⟨_, _, Lib.hid (by omega), Lib.hid (by omega), Lib.hid (by omega), rfl, rfl, k.2.2.1, k.2.2.2, k.2.1, k.1⟩
    · have k := hK _ bx by' ax ay hs2 hb1 hp1
      exact ⟨_, _, Lib.hid (by omega), Lib.hid (by omega), Lib.hid (by omega), rfl, rfl, k.2.2.2, k.2.2.1, k.2.1, k.1⟩
  case rest =>
    obtain ⟨B5, B6, h1, h2, h3, rfl, rfl, h5, h6, hp', hb'⟩ := hcut
    have c0 := h5.out.c0; have c1 := h5.out.c1; have c2 := h6.out.c0; have c3 := h6.out.c1
    go_upto_if 15 with (fail)
    go_cut [] (fun wx => ∃ l h, Hid (rightB (ax, ay) (bx, by') (px, py) = loB l h (px, py)) ∧ Hid (smP l.1 l.2 = true) ∧ Hid (smP h.1 h.2 = true) ∧ Hid (At wx B5 l.1 l.2 46) ∧ Hid (At wx B6 h.1 h.2 46) ∧ Hid (At wx (w.heap.size + 1) px py 46) ∧ Hid (Below w.heap.size w wx))
    case first =>
      by_cases hsw : by' < ay
      · have f0 := at_froz h5.out 0; have f1 := at_froz h5.out 1
        have e1 := at_st1 (at_st0 h5.out bx 0) by'
        have e2 := at_set (at_set h6.out h1.out.symm 0 (.int .i64 bx)) h1.out.symm 1 (.int .i64 by')
        have e3 := at_st1 (at_st0 e2 ax 0) ay
        have e4 := at_set (at_set e1 h1.out 0 (.int .i64 ax)) h1.out 1 (.int .i64 ay)
        have q1 := e2.c0; have q2 := e2.c1; have q3 := at_froz e2 0; have q4 := at_froz e2 1
        have n5 : w.heap.size + 1 ≠ B5 := by have := h2.out; omega
        have n6 : w.heap.size + 1 ≠ B6 := by have := h3.out; omega
        have eP := at_set (at_set (at_set (at_set hp'.out n5 0 (.int .i64 bx)) n5 1 (.int .i64 by')) n6 0 (.int .i64 ax)) n6 1 (.int .i64 ay)
        have m5 : w.heap.size ≤ B5 := by have := h2.out; omega
        have m6 : w.heap.size ≤ B6 := by have := h3.out; omega
        have bE := (((hb'.out.setCell (p := ⟨B5, 0, none⟩) m5 (.int .i64 bx)).setCell (p := ⟨B5, 1, none⟩) m5 (.int .i64 by')).setCell (p := ⟨B6, 0, none⟩) m6 (.int .i64 ax)).setCell (p := ⟨B6, 1, none⟩) m6 (.int .i64 ay)
        have HX : Hid (At _ B6 _ _ _ ∧ At _ B5 _ _ _ ∧ At _ (w.heap.size + 1) _ _ _ ∧ Below w.heap.size w _) := ⟨e3, e4, eP, bE⟩
        have HR : Hid (rightB (ax, ay) (bx, by') (px, py) = loB (bx, by') (ax, ay) (px, py)) := Lib.hid (by simp [rightB, hsw])
        clear e1 e2 e3 e4 eP bE
        go_wp2_with fail
        go_meet
        exact ⟨_, _, HR, hb, ha, HX.out.2.1, HX.out.1, HX.out.2.2.1, HX.out.2.2.2⟩
      · have HR : Hid (rightB (ax, ay) (bx, by') (px, py) = loB (ax, ay) (bx, by') (px, py)) := Lib.hid (by simp [rightB, hsw])
        go_wp2_with fail
        go_meet
        exact ⟨_, _, HR, ha, hb, h5, h6, hp', hb'⟩
    case rest =>
      obtain ⟨⟨lx, ly⟩, ⟨hx, hy⟩, e1, e2, e3, e4, e5, e6, e7⟩ := hcut
      have HW : Hid (wrap64 (wrap64 (wrap64 (hx - lx) * wrap64 (py - ly)) - wrap64 (wrap64 (hy - ly) * wrap64 (px - lx))) = crossI lx ly hx hy px py) := Lib.hid (cross_wrap_sm e2.out e3.out hp)
      clear c0 c1 c2 c3
      have r0 := cell_regrown e4.out.c0; have r1 := cell_regrown e4.out.c1; have r2 := cell_regrown e5.out.c0; have r3 := cell_regrown e5.out.c1; have r4 := cell_regrown e6.out.c0; have r5 := cell_regrown e6.out.c1
      simp only at r0 r1 r2 r3
      have hc : Hid (loB (lx, ly) (hx, hy) (px, py) = (decide (ly ≤ py) && decide (py < hy) && decide (0 < crossI lx ly hx hy px py))) := Lib.hid rfl
      clear h5 h6 hp' hb' e2 e3 e4 e5 e6
      by_cases g1 : ly ≤ py
      · have d1 : decide (ly ≤ py) = true := decide_eq_true g1
        by_cases g2 : py < hy
        · have d2 : decide (py < hy) = true := decide_eq_true g2
          have HZ : Hid (rightB (ax, ay) (bx, by') (px, py) = decide (0 < wrap64 (wrap64 (wrap64 (hx - lx) * wrap64 (py - ly)) - wrap64 (wrap64 (hy - ly) * wrap64 (px - lx))))) := Lib.hid (by rw [e1.out, hc.out, d1, d2, HW.out]; rfl)
          clear e1 hc HW
          go_upto_region 4 with (fail)
          refine wp_region_quiet_below (by kernel_rfl) (by kernel_rfl) ?_
          repeat (first
            | go_big_quiet_step (first | exact Calls.regrown_of (minus_any _ _ _ _ _) | exact Calls.regrown_of (crossM_any _ _ _ _ _))
            | quiet_step (first | exact Calls.regrown_of (minus_any _ _ _ _ _) | exact Calls.regrown_of (crossM_any _ _ _ _ _)))
          refine wpQuiet_nil ?_
          rintro _ ⟨⟨dq, osq⟩, rfl⟩
          have hB2 := e7.out.trans ((below_regrown wc dq osq).mono e7.out.size)
          go_wp2_with fail
          go_ret
          exact ⟨ret_bool HZ.out.symm, hB2⟩
        · have d2 : decide (py < hy) = false := decide_eq_false g2
          have HZ : Hid (rightB (ax, ay) (bx, by') (px, py) = false) := Lib.hid (by rw [e1.out, hc.out, d1, d2]; rfl)
          clear e1 hc HW
          go_upto_region 4 with (fail)
          refine wp_region_quiet_below (by kernel_rfl) (by kernel_rfl) ?_
          repeat (first
            | go_big_quiet_step (first | exact Calls.regrown_of (minus_any _ _ _ _ _) | exact Calls.regrown_of (crossM_any _ _ _ _ _))
            | quiet_step (first | exact Calls.regrown_of (minus_any _ _ _ _ _) | exact Calls.regrown_of (crossM_any _ _ _ _ _)))
          refine wpQuiet_nil ?_
          rintro _ ⟨⟨dq, osq⟩, rfl⟩
          have hB2 := e7.out.trans ((below_regrown wc dq osq).mono e7.out.size)
          go_wp2_with fail
          go_ret
          exact ⟨ret_bool HZ.out.symm, hB2⟩
      · have d1 : decide (ly ≤ py) = false := decide_eq_false g1
        have HZ : Hid (rightB (ax, ay) (bx, by') (px, py) = false) := Lib.hid (by rw [e1.out, hc.out, d1]; rfl)
        clear e1 hc HW
        go_upto_region 4 with (fail)
        refine wp_region_quiet_below (by kernel_rfl) (by kernel_rfl) ?_
        repeat (first
          | go_big_quiet_step (first | exact Calls.regrown_of (minus_any _ _ _ _ _) | exact Calls.regrown_of (crossM_any _ _ _ _ _))
          | quiet_step (first | exact Calls.regrown_of (minus_any _ _ _ _ _) | exact Calls.regrown_of (crossM_any _ _ _ _ _)))
        refine wpQuiet_nil ?_
        rintro _ ⟨⟨dq, osq⟩, rfl⟩
        have hB2 := e7.out.trans ((below_regrown wc dq osq).mono e7.out.size)
        go_wp2_with fail
        go_ret
        exact ⟨ret_bool HZ.out.symm, hB2⟩
end Go.Proofs.Ytnkehfhedjdhaaa

/-! Side -/
namespace Go.Proofs.Ytnkehfhedjdhaaa
open Go.RowKit

def sgn (n : Int) : Int := if 0 < n then 1 else if n < 0 then -1 else 0
theorem sgn_pos {n : Int} (h : 0 < n) : sgn n = 1 := by simp [sgn, h]
theorem sgn_neg {n : Int} (h : n < 0) : sgn n = -1 := by
  have : ¬ 0 < n := by omega
  simp [sgn, h, this]
theorem sgn_cases (n : Int) : (0 < n ∧ sgn n = 1) ∨ (n < 0 ∧ sgn n = -1) ∨ (n = 0 ∧ sgn n = 0) := by
  rcases Int.lt_trichotomy n 0 with h | h | h
  · exact .inr (.inl ⟨h, sgn_neg h⟩)
  · exact .inr (.inr ⟨h, by simp [sgn, h]⟩)
  · exact .inl ⟨h, sgn_pos h⟩
theorem sgn_abs (n : Int) : (sgn n).natAbs ≤ 1 := by
  rcases sgn_cases n with ⟨_, h⟩ | ⟨_, h⟩ | ⟨_, h⟩ <;> rw [h] <;> decide
theorem nan_any (n : Int) (w : World) : Calls Try.prog 154 #[.int .i64 n] w fun e w' => e = .returned (.bool false) ∧ w' = w := by
  go_enter Try.func154, Try.ntmps154
  go_wp2_with fail
  go_ret
  exact ⟨rfl, rfl⟩
theorem compare_any (m n : Int) (w : World) : Calls Try.prog 152 #[.int .i64 m, .int .i64 n] w fun e w' => e = .returned (.int .i64 (sgn (m - n))) ∧ w' = w := by
  rcases sgn_cases (m - n) with ⟨h, hs⟩ | ⟨h, hs⟩ | ⟨h, hs⟩
  · rw [hs]
    clear hs
    have h' : n < m := by omega
    clear h
    go_enter Try.func152, Try.ntmps152
    go_wp2_with fail
    refine (nan_any _ _).mono ?_
    rintro e w1 ⟨rfl, rfl⟩
    go_wp2_with fail
    refine (nan_any _ _).mono ?_
    rintro e w1 ⟨rfl, rfl⟩
    go_wp2_with fail
    go_ret
    exact ⟨rfl, rfl⟩
  · rw [hs]
    clear hs
    have h' : m < n := by omega
    clear h
    go_enter Try.func152, Try.ntmps152
    go_wp2_with fail
    refine (nan_any _ _).mono ?_
    rintro e w1 ⟨rfl, rfl⟩
    go_wp2_with fail
    refine (nan_any _ _).mono ?_
    rintro e w1 ⟨rfl, rfl⟩
    go_wp2_with fail
    go_ret
    exact ⟨rfl, rfl⟩
  · obtain rfl : m = n := by omega
    rw [hs]
    clear hs h
    go_enter Try.func152, Try.ntmps152
    go_wp2_with fail
    refine (nan_any _ _).mono ?_
    rintro e w1 ⟨rfl, rfl⟩
    go_wp2_with fail
    refine (nan_any _ _).mono ?_
    rintro e w1 ⟨rfl, rfl⟩
    go_wp2_with fail
    go_ret
    exact ⟨rfl, rfl⟩
theorem impl_side (ax ay bx by' px py : Int) (w : World) :
    Calls Try.prog 150 #[(.agg #[.int .i64 ax, .int .i64 ay]), (.agg #[.int .i64 bx, .int .i64 by']), (.agg #[.int .i64 px, .int .i64 py])] w fun e w' => e = .returned (.int .i64 (sgn (crossV ax ay bx by' px py))) ∧ Below w.heap.size w w' := by
  go_enter Try.func150, Try.ntmps150
  go_wp2_with fail
  refine (impl_cross _ _ _ _ _ _ _).mono ?_
  rintro e w1 ⟨rfl, hb1⟩
  have b1 := below_on (below3 w _ _ _) hb1
  clear hb1
  go_wp2_with fail
  refine (compare_any _ _ _).mono ?_
  rintro e w2 ⟨rfl, rfl⟩
  go_wp2_with fail
  go_ret
  exact ⟨rfl, b1⟩
def beforeB (ax ay bx by' : Int) : Bool := decide (ay < by') || (ay == by' && decide (ax < bx))
theorem impl_before (ax ay bx by' : Int) (w : World) :
    Calls Try.prog 142 #[(.agg #[.int .i64 ax, .int .i64 ay]), (.agg #[.int .i64 bx, .int .i64 by'])] w fun e w' => e = .returned (.bool (beforeB ax ay bx by')) ∧ Below w.heap.size w w' := by
  cases h1 : decide (ay < by')
  · cases h2 : (ay == by')
    · go_enter Try.func142, Try.ntmps142
      go_wp2_with fail
      go_ret
      exact ⟨ret_bool (by simp only [beforeB, h1, h2]; rfl), below2 _ _ _⟩
    · go_enter Try.func142, Try.ntmps142
      go_wp2_with fail
      go_ret
      exact ⟨ret_bool (by simp only [beforeB, h1, h2, Bool.false_or, Bool.true_and]), below2 _ _ _⟩
  · go_enter Try.func142, Try.ntmps142
    go_wp2_with fail
    go_ret
    exact ⟨ret_bool (by simp only [beforeB, h1]; rfl), below2 _ _ _⟩
end Go.Proofs.Ytnkehfhedjdhaaa

/-! On -/
namespace Go.Proofs.Ytnkehfhedjdhaaa
open Go.RowKit

/-- p lies in the box of a and b. -/
def boxB (ax ay bx by' px py : Int) : Bool := inB px (min ax bx) (max ax bx) && inB py (min ay by') (max ay by')
theorem mm (a b : Int) : ∃ m M, min a b = m ∧ max a b = M ∧ ((a < b ∧ m = a ∧ M = b) ∨ (a = b ∧ m = a ∧ M = a) ∨ (b < a ∧ m = b ∧ M = a)) := ⟨_, _, rfl, rfl, by omega⟩
set_option maxRecDepth 100000 in
set_option maxHeartbeats 2000000 in
theorem box_any (px py ax ay bx by' : Int) (w : World) :
    Calls Try.prog 129 #[(.agg #[.int .i64 px, .int .i64 py]), (.agg #[.int .i64 ax, .int .i64 ay]), (.agg #[.int .i64 bx, .int .i64 by'])] w fun e w' => e = .returned (.bool (boxB ax ay bx by' px py)) ∧ Below w.heap.size w w' := by
  obtain ⟨m1, m2, e1, e2, hx⟩ := mm ax bx
  obtain ⟨m3, m4, e3, e4, hy⟩ := mm ay by'
  unfold boxB
  rw [e1, e2, e3, e4]
  clear e1 e2 e3 e4
  cases h : inB px m1 m2
  · rcases hx with ⟨hx, rfl, rfl⟩ | ⟨rfl, rfl, rfl⟩ | ⟨hx, rfl, rfl⟩
    all_goals (
      clear hy
      go_enter Try.func129, Try.ntmps129
      go_wp2_with fail
      refine (from_any _ _ _ _).mono ?_
      rintro e w1 ⟨rfl, rfl⟩
      go_wp2_with fail
      go_ret
      exact ⟨ret_bool (by simp only [Bool.false_and]), below3 _ _ _ _⟩)
  · rcases hx with ⟨hx, rfl, rfl⟩ | ⟨rfl, rfl, rfl⟩ | ⟨hx, rfl, rfl⟩ <;> rcases hy with ⟨hy, rfl, rfl⟩ | ⟨rfl, rfl, rfl⟩ | ⟨hy, rfl, rfl⟩
    all_goals (
      go_enter Try.func129, Try.ntmps129
      go_wp2_with fail
      refine (from_any _ _ _ _).mono ?_
      rintro e w1 ⟨rfl, rfl⟩
      go_wp2_with fail
      refine (from_any _ _ _ _).mono ?_
      rintro e w1 ⟨rfl, rfl⟩
      go_wp2_with fail
      go_ret
      exact ⟨ret_bool (by simp only [Bool.true_and]), below3 _ _ _ _⟩)
/-- p lies on the segment from a to b (all points good). -/
def onI (ax ay bx by' px py : Int) : Bool := (crossI ax ay bx by' px py == 0) && boxB ax ay bx by' px py
def onV (ax ay bx by' px py : Int) : Bool := okP ax ay && okP bx by' && okP px py && onI ax ay bx by' px py
set_option maxRecDepth 100000 in
set_option maxHeartbeats 400000 in
theorem impl_on (ax ay bx by' px py : Int) (w : World) :
    Calls Try.prog 83 #[(.agg #[.int .i64 ax, .int .i64 ay]), (.agg #[.int .i64 bx, .int .i64 by']), (.agg #[.int .i64 px, .int .i64 py])] w fun e w' => e = .returned (.bool (onV ax ay bx by' px py)) ∧ Below w.heap.size w w' := by
  have HP := Lib.hid (pts3 w ax ay bx by' px py)
  go_enter Try.func83, Try.ntmps83
  go_wp2_with fail
  refine (all_any _ _ [(ax, ay), (bx, by'), (px, py)] _ HP.out (by simp) (by simp)).mono ?_
  rintro e w1 ⟨rfl, hb1⟩
  have t1 := ((three0 w ax ay bx by' px py 46).alloc _).step hb1
  have b1 := below_on (below4 w _ _ _ _) hb1
  clear hb1 HP
  have HO := Lib.hid (all3 ax ay bx by' px py)
  cases hok : allOk [(ax, ay), (bx, by'), (px, py)]
  · go_wp2_with fail
    go_ret
    exact ⟨ret_bool (by rw [onV, ← HO.out, hok, Bool.false_and]), b1⟩
  have hok2 := HO.out.symm
  rw [hok] at hok2
  simp only [Bool.and_eq_true] at hok2
  obtain ⟨⟨ha, hb⟩, hp⟩ := hok2
  have c1 := t1.1.c0; have c2 := t1.1.c1; have c3 := t1.2.1.c0; have c4 := t1.2.1.c1; have c5 := t1.2.2.c0; have c6 := t1.2.2.c1
  go_wp2_with fail
  refine (impl_cross _ _ _ _ _ _ _).mono ?_
  rintro e w2 ⟨rfl, hb2⟩
  have t2 := t1.step hb2
  have b2 := below_on b1 hb2
  clear hb2 t1 b1 c1 c2 c3 c4 c5 c6
  have hcv : crossV ax ay bx by' px py = crossI ax ay bx by' px py := by rw [crossV, ha, hb, hp]; rfl
  rw [hcv]
  have HA := Lib.hid ha; have HB := Lib.hid hb; have HQ := Lib.hid hp
  clear ha hb hp
  cases hz : (crossI ax ay bx by' px py == 0)
  · go_wp2_with fail
    go_ret
    exact ⟨ret_bool (by simp only [onV, onI, hz, Bool.false_and, Bool.and_false]), b2⟩
  have c1 := t2.1.c0; have c2 := t2.1.c1; have c3 := t2.2.1.c0; have c4 := t2.2.1.c1; have c5 := t2.2.2.c0; have c6 := t2.2.2.c1
  go_wp2_with fail
  refine (box_any _ _ _ _ _ _ _).mono ?_
  rintro e w3 ⟨rfl, hb3⟩
  have b3 := below_on b2 hb3
  clear hb3 t2 b2 c1 c2 c3 c4 c5 c6
  go_wp2_with fail
  go_ret
  exact ⟨ret_bool (by rw [onV, ← HO.out, hok, onI, hz, Bool.true_and, Bool.true_and]), b3⟩
end Go.Proofs.Ytnkehfhedjdhaaa

/-! Has -/
namespace Go.Proofs.Ytnkehfhedjdhaaa
open Go.RowKit

theorem under_pt : Try.prog.underlying 46 = some (.struct (Try.prog.fieldsOf 46)) := by kernel_rfl
theorem held_pt : Try.prog.stoodInHeld 46 = false := by kernel_rfl
theorem guard_pt : Try.prog.eqGuardType Try.prog.depth 46 = false := by kernel_rfl
theorem eql_pt (w : World) (x y x' y' : Int) : (binOp .eql 46 (.agg #[.int .i64 x, .int .i64 y]) (.agg #[.int .i64 x', .int .i64 y'])).run Try.prog w = .ok (.bool (x == x' && y == y')) w := by
  rw [run_eql_struct, run_equalIn_struct _ _ _ _ _ under_pt held_pt]
  cases h : (x == x') <;> cases h2 : (y == y') <;> simp_all [go_sem, Program.fieldsOf, Try.underlying46, Try.underlying3]
theorem neq_pt (w : World) (x y x' y' : Int) : (binOp .neq 46 (.agg #[.int .i64 x, .int .i64 y]) (.agg #[.int .i64 x', .int .i64 y'])).run Try.prog w = .ok (.bool (!(x == x' && y == y'))) w := by
  rw [run_neq_struct, run_equalIn_struct _ _ _ _ _ under_pt held_pt]
  cases h : (x == x') <;> cases h2 : (y == y') <;> simp_all [go_sem, Program.fieldsOf, Try.underlying46, Try.underlying3]
def hasP (L : List (Int × Int)) (x y : Int) : Bool := L.any fun p => p.1 == x && p.2 == y
theorem hasP_no {L : List (Int × Int)} {x y : Int} : hasP L x y = false ↔ ∀ p ∈ L, ¬ (p.1 = x ∧ p.2 = y) := by
  simp [hasP]
set_option maxRecDepth 100000 in
set_option maxHeartbeats 800000 in
theorem index_any (A : Option Addr) (c : Nat) (L : List (Int × Int)) (x y : Int) (w : World) (hP : PtsA w A L) (hL : L.length ≤ 1048576) :
    Calls Try.prog 122 #[.slice A L.length c, (.agg #[.int .i64 x, .int .i64 y])] w fun e w' => (∃ z : Int, e = .returned (.int .i64 z) ∧ decide (0 ≤ z) = hasP L x y) ∧ Below w.heap.size w w' := by
  have HP := Lib.hid (ptsA_on hP ((Below.refl w.heap.size w).alloc (Nat.le_refl _) (.cells #[.int .i64 x, .int .i64 y] 46))); clear hP
  have t1 := at_new w x y 46
  go_enter Try.func122, Try.ntmps122
  go_wp2_with fail
  have b1 := below1 w (.cells #[.int .i64 x, .int .i64 y] 46)
  generalize w.alloc (.cells #[.int .i64 x, .int .i64 y] 46) = w1 at *
  have c1 := t1.c0; have c2 := t1.c1
  go_loopw [5, 8] (fun _ i w' => ∃ (k d : Nat), k ≤ L.length ∧ i = .int .i64 k ∧ w' = w1.drewN d ∧ Hid (∀ j (h : j < L.length), j < k → ¬ (L[j].1 = x ∧ L[j].2 = y))) (fun _ i _ => L.length - (intOf i).toNat)
  case atStart => exact ⟨0, 0, Nat.zero_le _, rfl, rfl, fun j h hj => by omega⟩
  case round =>
    obtain ⟨k, d, hk, rfl, rfl, HN⟩ := hrel
    by_cases hlt : k < L.length
    · obtain ⟨g1, rfl, hc1, hd1⟩ := HP.out k hlt
      have GP := guard_pt
      have EP := fun w x y x' y' => eql_pt w x y x' y'
      obtain ⟨p, hp⟩ : ∃ p, p = L[k].1 := ⟨_, rfl⟩
      obtain ⟨q, hq⟩ : ∃ q, q = L[k].2 := ⟨_, rfl⟩
      rw [← hp] at hc1
      rw [← hq] at hd1
      have HPQ : Hid (L[k].1 = p ∧ L[k].2 = q) := ⟨hp.symm, hq.symm⟩
      clear hp hq
      cases he : (x == p && y == q)
      · have HN2 : Hid (∀ j (h : j < L.length), j < k + 1 → ¬ (L[j].1 = x ∧ L[j].2 = y)) := fun j h hj => by
          rcases Nat.lt_or_ge j k with h1 | h1
          · exact HN.out j h h1
          · obtain rfl : j = k := by omega
            rw [HPQ.out.1, HPQ.out.2]
            simp at he
            exact fun ⟨h1, h2⟩ => he h1.symm h2.symm
        go_wp2_with fail
        go_quiet (fail)
        go_wp2_with fail
        go_roundw
        case rel => exact ⟨k + 1, d + nq, by omega, by go_num, by simp, HN2⟩
        case measure => simp [intOf]; omega
      · have HY : Hid (hasP L x y = true) := by
          simp at he
          show _ = _
          rw [hasP, List.any_eq_true]
          exact ⟨L[k], List.getElem_mem hlt, by rw [HPQ.out.1, HPQ.out.2, he.1, he.2]; simp⟩
        go_wp2_with fail
        go_quiet (fail)
        go_wp2_with fail
        go_ret
        exact ⟨⟨_, rfl, by rw [HY.out]; simp⟩, b1.os, b1.tape, b1.output, b1.size, b1.block⟩
    · go_wp2_with fail
      go_ret
      refine ⟨⟨_, rfl, ?_⟩, b1.os, b1.tape, b1.output, b1.size, b1.block⟩
      have : hasP L x y = false := by
        rw [hasP_no]
        intro p hp
        obtain ⟨j, hj, rfl⟩ := List.getElem_of_mem hp
        exact HN.out j hj (by omega)
      rw [this]; rfl
theorem has_any (A : Option Addr) (c : Nat) (L : List (Int × Int)) (x y : Int) (w : World) (hP : PtsA w A L) (hL : L.length ≤ 1048576) :
    Calls Try.prog 149 #[.slice A L.length c, (.agg #[.int .i64 x, .int .i64 y])] w fun e w' => e = .returned (.bool (hasP L x y)) ∧ Below w.heap.size w w' := by
  have HI := Lib.hid (index_any A c L x y _ (ptsA_on hP ((Below.refl w.heap.size w).alloc (Nat.le_refl _) (.cells #[.int .i64 x, .int .i64 y] 46))) hL); clear hP
  go_enter Try.func149, Try.ntmps149
  go_wp2_with fail
  refine HI.out.mono ?_
  rintro e w1 ⟨⟨z, rfl, hz⟩, hb1⟩
  have b1 := below_on (below1 w _) hb1
  clear hb1
  have HZ := Lib.hid hz
  clear hz HI
  go_wp2_with fail
  go_ret
  exact ⟨ret_bool HZ.out, b1⟩
end Go.Proofs.Ytnkehfhedjdhaaa

/-! MeetFn -/
namespace Go.Proofs.Ytnkehfhedjdhaaa
open Go.RowKit

def onP (a b p : Int × Int) : Bool := onI a.1 a.2 b.1 b.2 p.1 p.2
def addE (a b c d : Int × Int) (E : List (Int × Int)) (p : Int × Int) : List (Int × Int) := bif onP a b p && onP c d p && !(hasP E p.1 p.2) then E ++ [p] else E
def endsE (a b c d : Int × Int) : List (Int × Int) := [a, b, c, d].foldl (addE a b c d) []
def crossP (a b p : Int × Int) : Int := crossI a.1 a.2 b.1 b.2 p.1 p.2
/-- The line through a and b has c and d on different sides. -/
def opp (a b c d : Int × Int) : Bool := decide (sgn (crossP a b c) * sgn (crossP a b d) < 0)
def sharedS (a b c d : Int × Int) : List (Int × Int) := [a, b].filter (onP c d) ++ [c, d].filter (onP a b)
def sameAll : List (Int × Int) → Bool
  | [] => true
  | x :: t => t.all fun y => y.1 == x.1 && y.2 == x.2
def meetI (a b c d : Int × Int) : Int := bif opp a b c d && opp c d a b then 2 else bif (sharedS a b c d).isEmpty then 0 else bif sameAll (sharedS a b c d) then 1 else 3
def okQ (p : Int × Int) : Bool := okP p.1 p.2
def eqQ (p q : Int × Int) : Bool := p.1 == q.1 && p.2 == q.2
def meetV (a b c d : Int × Int) : Int := bif okQ a && okQ b && okQ c && okQ d && !(eqQ a b) && !(eqQ c d) then meetI a b c d else 0

theorem on_left (a b : Int × Int) : onP a b a = true := by
  have h : crossI a.1 a.2 b.1 b.2 a.1 a.2 = 0 := by simp [crossI]
  simp [onP, onI, h, boxB, inB]
  omega
theorem on_right (a b : Int × Int) : onP a b b = true := by
  have h : crossI a.1 a.2 b.1 b.2 b.1 b.2 = 0 := by simp [crossI, Int.mul_comm]
  simp [onP, onI, h, boxB, inB]
  omega
/-- Each point once. -/
def ddS (E : List (Int × Int)) (p : Int × Int) : List (Int × Int) := bif hasP E p.1 p.2 then E else E ++ [p]
theorem ends_dd (a b c d : Int × Int) : endsE a b c d = (sharedS a b c d).foldl ddS [] := by
  have e1 : ∀ E, addE a b c d E a = bif onP c d a then ddS E a else E := fun E => by
    simp only [addE, ddS, on_left, Bool.true_and]; cases onP c d a <;> cases hasP E a.1 a.2 <;> rfl
  have e2 : ∀ E, addE a b c d E b = bif onP c d b then ddS E b else E := fun E => by
    simp only [addE, ddS, on_right, Bool.true_and]; cases onP c d b <;> cases hasP E b.1 b.2 <;> rfl
  have e3 : ∀ E, addE a b c d E c = bif onP a b c then ddS E c else E := fun E => by
    simp only [addE, ddS, on_left, Bool.and_true]; cases onP a b c <;> cases hasP E c.1 c.2 <;> rfl
  have e4 : ∀ E, addE a b c d E d = bif onP a b d then ddS E d else E := fun E => by
    simp only [addE, ddS, on_right, Bool.and_true]; cases onP a b d <;> cases hasP E d.1 d.2 <;> rfl
  simp only [endsE, sharedS, List.foldl_cons, List.foldl_nil, e1, e2, e3, e4, List.filter_cons, List.filter_nil]
  cases onP c d a <;> cases onP c d b <;> cases onP a b c <;> cases onP a b d <;> rfl
theorem dd_grows (S : List (Int × Int)) : ∀ E, E.length ≤ (S.foldl ddS E).length := by
  induction S with
  | nil => intro E; exact Nat.le_refl _
  | cons p S ih =>
    intro E
    refine Nat.le_trans ?_ (ih (ddS E p))
    unfold ddS
    cases hasP E p.1 p.2 <;> simp
theorem dd_one (x : Int × Int) : ∀ t : List (Int × Int), (t.all (fun y => y.1 == x.1 && y.2 == x.2) = true → t.foldl ddS [x] = [x]) ∧ (t.all (fun y => y.1 == x.1 && y.2 == x.2) = false → 2 ≤ (t.foldl ddS [x]).length) := by
  intro t
  induction t with
  | nil => exact ⟨fun _ => rfl, fun h => by simp at h⟩
  | cons y t ih =>
    rw [List.all_cons, List.foldl_cons]
    have hh : hasP [x] y.1 y.2 = (y.1 == x.1 && y.2 == x.2) := by
      simp only [hasP, List.any_cons, List.any_nil, Bool.or_false]
      rw [Bool.beq_comm (a := x.1), Bool.beq_comm (a := x.2)]
    cases h : (y.1 == x.1 && y.2 == x.2)
    · refine ⟨fun h => by simp at h, fun _ => ?_⟩
      have : ddS [x] y = [x, y] := by rw [ddS, hh, h]; rfl
      rw [this]
      exact dd_grows t [x, y]
    · have : ddS [x] y = [x] := by rw [ddS, hh, h]; rfl
      rw [this, Bool.true_and]
      exact ih
theorem dd_first (x : Int × Int) : ddS [] x = [x] := rfl
theorem opp_none {a b c d : Int × Int} (h : (opp a b c d && opp c d a b) = true) : sharedS a b c d = [] := by
  simp only [Bool.and_eq_true, opp, decide_eq_true_eq] at h
  obtain ⟨h1, h2⟩ := h
  have z : ∀ a b p : Int × Int, onP a b p = true → sgn (crossP a b p) = 0 := fun a b p h => by
    simp only [onP, onI, Bool.and_eq_true, beq_iff_eq] at h
    rw [crossP, h.1]; rfl
  have f1 : onP c d a = false := by
    cases hq : onP c d a
    · rfl
    · rw [z _ _ _ hq] at h2; simp at h2
  have f2 : onP c d b = false := by
    cases hq : onP c d b
    · rfl
    · rw [z _ _ _ hq] at h2; simp at h2
  have f3 : onP a b c = false := by
    cases hq : onP a b c
    · rfl
    · rw [z _ _ _ hq] at h1; simp at h1
  have f4 : onP a b d = false := by
    cases hq : onP a b d
    · rfl
    · rw [z _ _ _ hq] at h1; simp at h1
  simp [sharedS, f1, f2, f3, f4]
theorem ends_zero {a b c d : Int × Int} (h : (endsE a b c d).length = 0) : meetI a b c d = bif opp a b c d && opp c d a b then 2 else 0 := by
  rw [ends_dd] at h
  cases hS : sharedS a b c d with
  | nil => rw [meetI, hS]; cases opp a b c d && opp c d a b <;> rfl
  | cons x t =>
    rw [hS, List.foldl_cons, dd_first] at h
    have := dd_grows t [x]
    simp at this; omega
theorem ends_some {a b c d : Int × Int} (h : 1 ≤ (endsE a b c d).length) : meetI a b c d = if (endsE a b c d).length = 1 then 1 else 3 := by
  rw [ends_dd] at h ⊢
  cases ho : (opp a b c d && opp c d a b)
  · cases hS : sharedS a b c d with
    | nil => rw [hS] at h; simp at h
    | cons x t =>
      have hd := dd_one x t
      rw [meetI, ho, hS, List.foldl_cons, dd_first]
      show (bif sameAll (x :: t) then 1 else 3 : Int) = _
      rw [sameAll]
      cases hq : t.all (fun y => y.1 == x.1 && y.2 == x.2)
      · have := hd.2 hq
        rw [if_neg (by omega)]; rfl
      · rw [hd.1 hq]; rfl
  · rw [opp_none ho] at h; simp at h
theorem ends_le (a b c d : Int × Int) : (endsE a b c d).length ≤ 4 := by
  have : ∀ E p, (addE a b c d E p).length ≤ E.length + 1 := fun E p => by
    unfold addE
    cases onP a b p && onP c d p && !(hasP E p.1 p.2) <;> simp
  simp only [endsE, List.foldl_cons, List.foldl_nil]
  have h1 := this [] a
  have h2 := this (addE a b c d [] a) b
  have h3 := this (addE a b c d (addE a b c d [] a) b) c
  have h4 := this (addE a b c d (addE a b c d (addE a b c d [] a) b) c) d
  simp at h1
  omega
end Go.Proofs.Ytnkehfhedjdhaaa

/-! Meet -/
namespace Go.Proofs.Ytnkehfhedjdhaaa
open Go.RowKit

/-- What a filter has let by of the first k. -/
def tillF (f : Int × Int → Bool) (L : List (Int × Int)) (k : Nat) : List (Int × Int) := (L.take k).filter f
theorem tillF_step {f : Int × Int → Bool} {L : List (Int × Int)} {p : Int × Int} {k : Nat} (h : L[k]? = some p) : tillF f L (k + 1) = bif f p then tillF f L k ++ [p] else tillF f L k := by
  have hk : k < L.length := (List.getElem?_eq_some_iff.1 h).1
  have hp : L[k] = p := (List.getElem?_eq_some_iff.1 h).2
  rw [tillF, List.take_succ_eq_append_getElem hk, List.filter_append, hp]
  cases hf : f p <;> simp [tillF, hf]
theorem tillF_len (f : Int × Int → Bool) (L : List (Int × Int)) (k : Nat) : (tillF f L k).length ≤ L.length := by
  unfold tillF
  exact Nat.le_trans (List.length_filter_le _ _) (by rw [List.length_take]; omega)
theorem same_iff (M : List (Int × Int)) (h0 : 0 < M.length) : sameAll M = true ↔ ∀ j (hj : j < M.length), M[j].1 = (M[0]).1 ∧ M[j].2 = (M[0]).2 := by
  cases M with
  | nil => simp at h0
  | cons p t =>
    simp only [sameAll, List.all_eq_true, Bool.and_eq_true, beq_iff_eq]
    constructor
    · intro h j hj
      cases j with
      | zero => exact ⟨rfl, rfl⟩
      | succ j => exact h _ (List.getElem_mem (by simpa using hj))
    · intro h y hy
      obtain ⟨j, hj, rfl⟩ := List.getElem_of_mem hy
      exact h (j + 1) (by simpa using hj)
end Go.Proofs.Ytnkehfhedjdhaaa

/-! Gcd -/
namespace Go.Proofs.Ytnkehfhedjdhaaa
open Go.RowKit

theorem tmod_nat (m n : Nat) : Int.tmod (m : Int) (n : Int) = ((m % n : Nat) : Int) := by
  rw [Int.tmod_eq_emod_of_nonneg (by omega)]; simp
theorem gcd_round {m n : Nat} (_ : 0 < n) : Nat.gcd n (m % n) = Nat.gcd m n := by
  rw [Nat.gcd_comm m n, Nat.gcd_rec n m, Nat.gcd_comm]
theorem gcdI_any (m n : Nat) (w : World) (hm : m ≤ 1000000) (hn : n ≤ 1000000) :
    Calls Try.prog 153 #[.int .i64 m, .int .i64 n] w fun e w' => e = .returned (.int .i64 (Nat.gcd m n : Nat)) ∧ Below w.heap.size w w' := by
  go_enter Try.func153, Try.ntmps153
  go_wp2_with fail
  go_loopw [0, 1] (fun x y w' => ∃ p q : Nat, x = .int .i64 p ∧ y = .int .i64 q ∧ p ≤ 1000000 ∧ q ≤ 1000000 ∧ Hid (Nat.gcd p q = Nat.gcd m n) ∧ Below w.heap.size w w') (fun _ y _ => (intOf y).toNat)
  case atStart => exact ⟨m, n, rfl, rfl, hm, hn, rfl, Below.refl _ _⟩
  case round =>
    obtain ⟨wo, rfl⟩ : ∃ wo : World, wo = wr := ⟨_, rfl⟩
    obtain ⟨p, q, rfl, rfl, hp, hq, HG, hb⟩ := hrel
    by_cases hlt : 0 < q
    · have HG2 : Hid (Nat.gcd q (p % q) = Nat.gcd m n) := (gcd_round hlt).trans HG.out
      have hlt' := Nat.mod_lt p hlt
      have hle := Nat.mod_le p q
      obtain ⟨r, hr⟩ : ∃ r : Nat, r = p % q := ⟨_, rfl⟩
      have hmod : Int.tmod (p : Int) (q : Int) = (r : Int) := by rw [tmod_nat, hr]
      rw [← hr] at HG2 hlt' hle
      clear hr
      go_wp2_with fail
      go_quiet (fail)
      go_wp2_with fail
      go_roundw
      case rel => exact ⟨q, r, rfl, rfl, by omega, by omega, HG2, ⟨hb.os, hb.tape, hb.output, hb.size, hb.block⟩⟩
      case measure => simp [intOf]; omega
    · obtain rfl : q = 0 := by omega
      go_wp2_with fail
      go_ret
      exact ⟨ret_int (by rw [← HG.out]; simp), hb⟩
theorem ab (a : Int) : ∃ m : Nat, a.natAbs = m ∧ ((0 < a ∧ a = m) ∨ (a = 0 ∧ (m : Int) = 0) ∨ (a < 0 ∧ -a = m)) := ⟨_, rfl, by omega⟩
end Go.Proofs.Ytnkehfhedjdhaaa

/-! Poly -/
namespace Go.Proofs.Ytnkehfhedjdhaaa
open Go.RowKit

def gt (L : List (Int × Int)) (i : Nat) : Int × Int := L.getD i (0, 0)
theorem gt_at {L : List (Int × Int)} {i : Nat} (h : i < L.length) : gt L i = L[i] := by simp [gt, h]
/-- Two sides, by their first corners' indexes i < k, meet as those of a polygon. -/
def adjB (n i k : Nat) : Bool := (k == i + 1) || (i == 0 && k == n - 1)
def pairM (L : List (Int × Int)) (i k : Nat) : Int := meetI (gt L i) (gt L ((i + 1) % L.length)) (gt L k) (gt L ((k + 1) % L.length))
def pairOk (L : List (Int × Int)) (i k : Nat) : Bool := bif adjB L.length i k then pairM L i k == 1 else pairM L i k == 0
def nbB (L : List (Int × Int)) : Bool := (List.range L.length).all fun i => !(eqQ (gt L i) (gt L ((i + 1) % L.length)))
def pairsB (L : List (Int × Int)) : Bool := (List.range L.length).all fun i => (List.range L.length).all fun k => decide (k ≤ i) || pairOk L i k
def polyB (L : List (Int × Int)) : Bool := inB L.length 3 10 && allOk L && nbB L && pairsB L
theorem nb_true {L : List (Int × Int)} (h : ∀ j, j < L.length → eqQ (gt L j) (gt L ((j + 1) % L.length)) = false) : nbB L = true := by
  simp only [nbB, List.all_eq_true, List.mem_range]
  intro j hj; rw [h j hj]; rfl
theorem nb_false {L : List (Int × Int)} {j : Nat} (hj : j < L.length) (h : eqQ (gt L j) (gt L ((j + 1) % L.length)) = true) : nbB L = false := by
  cases hb : nbB L
  · rfl
  · simp only [nbB, List.all_eq_true, List.mem_range] at hb
    have := hb j hj
    rw [h] at this; simp at this
theorem pairs_true {L : List (Int × Int)} (h : ∀ i, i < L.length → ∀ k, i < k → k < L.length → pairOk L i k = true) : pairsB L = true := by
  simp only [pairsB, List.all_eq_true, List.mem_range, Bool.or_eq_true, decide_eq_true_eq]
  intro i hi k hk
  rcases Nat.lt_or_ge i k with h1 | h1
  · exact .inr (h i hi k h1 hk)
  · exact .inl h1
theorem pairs_false {L : List (Int × Int)} {i k : Nat} (hi : i < k) (hk : k < L.length) (h : pairOk L i k = false) : pairsB L = false := by
  cases hb : pairsB L
  · rfl
  · simp only [pairsB, List.all_eq_true, List.mem_range, Bool.or_eq_true, decide_eq_true_eq] at hb
    rcases hb i (by omega) k hk with h1 | h1
    · omega
    · rw [h] at h1; cases h1
theorem all_at {L : List (Int × Int)} (h : allOk L = true) {i : Nat} (hi : i < L.length) : okP (gt L i).1 (gt L i).2 = true := by
  rw [gt_at hi]
  simp only [allOk, List.all_eq_true] at h
  exact h _ (List.getElem_mem hi)
theorem gt_cells {w : World} {g : Nat} {L : List (Int × Int)} (h : PtsA w (some ⟨g, 0, none⟩) L) {i : Nat} (hi : i < L.length) : w.cell? ⟨g, i * 2, none⟩ = some (.int .i64 (gt L i).1) ∧ w.cell? ⟨g, i * 2 + 1, none⟩ = some (.int .i64 (gt L i).2) := by
  obtain ⟨g', hg, h1, h2⟩ := h i hi
  simp only [Option.some.injEq, Addr.mk.injEq, and_true] at hg
  subst hg
  rw [gt_at hi]
  exact ⟨h1, h2⟩
theorem next_int {i n : Nat} (hn : 0 < n) : Int.tmod ((i : Int) + 1) (n : Int) = (((i + 1) % n : Nat) : Int) ∧ (i + 1) % n < n := by
  refine ⟨?_, Nat.mod_lt _ hn⟩
  have : (i : Int) + 1 = ((i + 1 : Nat) : Int) := by omega
  rw [this, tmod_nat]

end Go.Proofs.Ytnkehfhedjdhaaa

/-! Square -/
namespace Go.Proofs.Ytnkehfhedjdhaaa
open Go.RowKit

def squareI (ax ay bx by' : Int) : Int := (ax - bx) * (ax - bx) + (ay - by') * (ay - by')
def squareV (ax ay bx by' : Int) : Int := bif okP ax ay && okP bx by' then squareI ax ay bx by' else -1
theorem squareI_flip (ax ay bx by' : Int) : squareI bx by' ax ay = squareI ax ay bx by' := by
  unfold squareI
  rw [← Int.neg_mul_neg (bx - ax), ← Int.neg_mul_neg (by' - ay), Int.neg_sub, Int.neg_sub]
theorem square_wrap {ax ay bx by' : Int} (ha : okP ax ay = true) (hb : okP bx by' = true) :
    wrap64 (wrap64 (wrap64 (ax - bx) * wrap64 (ax - bx)) + wrap64 (wrap64 (ay - by') * wrap64 (ay - by'))) = squareI ax ay bx by' := by
  have := okP_bounds ha; have := okP_bounds hb
  rw [wrap_id (x := ax - bx) (by omega), wrap_id (x := ay - by') (by omega)]
  have h1 := abs_mul (x := ax - bx) (y := ax - bx) (m := 40) (n := 40) (by omega) (by omega)
  have h2 := abs_mul (x := ay - by') (y := ay - by') (m := 40) (n := 40) (by omega) (by omega)
  rw [wrap_id (x := (ax - bx) * (ax - bx)) (by omega), wrap_id (x := (ay - by') * (ay - by')) (by omega)]
  unfold squareI
  generalize (ax - bx) * (ax - bx) = u at *
  generalize (ay - by') * (ay - by') = v at *
  exact wrap_id (by omega)
end Go.Proofs.Ytnkehfhedjdhaaa

/-! Steps -/
namespace Go.Proofs.Ytnkehfhedjdhaaa
open Go.RowKit

theorem gcd_le {dx dy : Int} (hx : dx.natAbs ≤ 40) (hy : dy.natAbs ≤ 40) : Nat.gcd dx.natAbs dy.natAbs ≤ 40 := by
  rcases Nat.eq_zero_or_pos dx.natAbs with h | h
  · rw [h, Nat.gcd_zero_left]; exact hy
  · exact Nat.le_trans (Nat.gcd_le_left _ h) hx
def stepsN (ax ay bx by' : Int) : Nat := Nat.gcd (bx - ax).natAbs (by' - ay).natAbs
def stepsV (ax ay bx by' : Int) : Int := bif okP ax ay && okP bx by' then (stepsN ax ay bx by' : Int) else -1
theorem impl_steps (ax ay bx by' : Int) (w : World) :
    Calls Try.prog 151 #[(.agg #[.int .i64 ax, .int .i64 ay]), (.agg #[.int .i64 bx, .int .i64 by'])] w fun e w' => e = .returned (.int .i64 (stepsV ax ay bx by')) ∧ Below w.heap.size w w' := by
  have HP := Lib.hid (pts2 w ax ay bx by')
  go_enter Try.func151, Try.ntmps151
  go_wp2_with fail
  refine (all_any _ _ [(ax, ay), (bx, by')] _ HP.out (by simp) (by simp)).mono ?_
  rintro e w1 ⟨rfl, hb1⟩
  have t1 := ((two0 w ax ay bx by' 46).alloc _).step hb1
  have b1 := below_on (below3 w _ _ _) hb1
  clear hb1 HP
  have HO := Lib.hid (all2 ax ay bx by')
  cases hok : allOk [(ax, ay), (bx, by')]
  · go_wp2_with fail
    go_ret
    exact ⟨ret_int (by rw [stepsV, ← HO.out, hok]; rfl), b1⟩
  have hok2 := HO.out.symm
  rw [hok] at hok2
  simp only [Bool.and_eq_true] at hok2
  obtain ⟨ha, hb⟩ := hok2
  have c1 := t1.1.c0; have c2 := t1.1.c1; have c3 := t1.2.c0; have c4 := t1.2.c1
  go_wp2_with fail
  refine (minus_any _ _ _ _ _).mono ?_
  rintro e w2 ⟨rfl, hb2⟩
  have b2 := below_on b1 hb2
  clear hb2 t1 b1 c1 c2 c3 c4
  have h1 := okP_bounds ha; have h2 := okP_bounds hb
  rw [wrap_id (x := bx - ax) (by omega), wrap_id (x := by' - ay) (by omega)]
  obtain ⟨m, em, hm⟩ := ab (bx - ax)
  obtain ⟨n, en, hn⟩ := ab (by' - ay)
  have HN : Hid (stepsV ax ay bx by' = (Nat.gcd m n : Nat)) := by rw [← em, ← en]; show _ = _; rw [stepsV, ha, hb]; rfl
  have hm1 : m ≤ 1000000 := by omega
  have hn1 : n ≤ 1000000 := by omega
  have hdx : -100 ≤ bx - ax ∧ bx - ax ≤ 100 := by omega
  have hdy : -100 ≤ by' - ay ∧ by' - ay ≤ 100 := by omega
  obtain ⟨dx, hdx0⟩ : ∃ d, d = bx - ax := ⟨_, rfl⟩
  obtain ⟨dy, hdy0⟩ : ∃ d, d = by' - ay := ⟨_, rfl⟩
  rw [← hdx0] at hm hdx ⊢
  rw [← hdy0] at hn hdy ⊢
  clear ha hb h1 h2 em en hok HO hdx0 hdy0
  have HG := Lib.hid (fun w => gcdI_any m n w hm1 hn1)
  rcases hm with ⟨hm, hm'⟩ | ⟨rfl, hm'⟩ | ⟨hm, hm'⟩ <;> rcases hn with ⟨hn, hn'⟩ | ⟨rfl, hn'⟩ | ⟨hn, hn'⟩
  all_goals (
    go_wp2_with fail
    refine (show Calls _ _ _ _ _ from by
      have := HG.out
      try simp only [hm', hn'] at this
      exact this _).mono ?_
    rintro e w3 ⟨rfl, hb3⟩
    have b3 := below_on (b2.alloc b2.size _) hb3
    clear hb3
    go_wp2_with fail
    go_ret
    exact ⟨ret_int HN.out.symm, b3⟩)
end Go.Proofs.Ytnkehfhedjdhaaa

/-! Area -/
namespace Go.Proofs.Ytnkehfhedjdhaaa
open Go.RowKit

/-- The sum of the first k terms. -/
def sumT (f : Nat → Int) : Nat → Int
  | 0 => 0
  | k + 1 => sumT f k + f k
theorem sumT_abs {f : Nat → Int} {m : Nat} (n : Nat) (h : ∀ i, i < n → (f i).natAbs ≤ m) : ∀ k, k ≤ n → (sumT f k).natAbs ≤ k * m
  | 0, _ => by simp [sumT]
  | k + 1, hk => by
    have h1 := sumT_abs n h k (by omega)
    have h2 := h k (by omega)
    simp only [sumT]
    have e : (k + 1) * m = k * m + m := Nat.succ_mul k m
    rw [e]
    generalize k * m = a at *
    omega
def nx (L : List (Int × Int)) (i : Nat) : Nat := (i + 1) % L.length
def twiceT (L : List (Int × Int)) (i : Nat) : Int := (gt L i).1 * (gt L (nx L i)).2 - (gt L i).2 * (gt L (nx L i)).1
def twiceI (L : List (Int × Int)) : Int := sumT (twiceT L) L.length
def rimT (L : List (Int × Int)) (i : Nat) : Int := (stepsN (gt L i).1 (gt L i).2 (gt L (nx L i)).1 (gt L (nx L i)).2 : Int)
def rimI (L : List (Int × Int)) : Int := sumT (rimT L) L.length
theorem polyB_all {L : List (Int × Int)} (h : polyB L = true) : 3 ≤ L.length ∧ L.length ≤ 10 ∧ allOk L = true := by
  simp only [polyB, Bool.and_eq_true, inB_spec] at h
  exact ⟨by omega, by omega, h.1.1.2⟩
end Go.Proofs.Ytnkehfhedjdhaaa

/-! Round -/
namespace Go.Proofs.Ytnkehfhedjdhaaa
open Go.Sort Go.RowKit

/-- A fence that lets everything by. -/
structure IsWide (F : Fence) : Prop where
  fn : ∀ f, F.fn f
  depth : F.depth = none
  calls : ∀ {n : Nat} {P : Program} {f : FuncId} {args : Array Value} {w : World} {R : Ending → World → Prop}, Calls P f args w R → CallsIn F n P f args w R
theorem wide0 : IsWide Fence.wide := ⟨fun _ => trivial, rfl, fun h => callsIn_wide.2 h⟩
theorem wideR (l : Nat) : IsWide (Fence.wide.inRound l) := ⟨fun _ => trivial, rfl, fun h => CallsIn.inRound l (callsIn_wide.2 h)⟩

def noDeferB (ops : Array Oper) : Bool := ops.all fun o => match o.op with
  | .defer _ => false
  | _ => true
theorem noDefer_at {ops : Array Oper} (h : noDeferB ops = true) {i : Nat} {o : Oper} (ho : ops[i]? = some o) : ∀ c, o.op ≠ .defer c := by
  intro c hc
  have h1 := Array.all_eq_true'.1 h o (Array.mem_of_getElem? ho)
  rw [hc] at h1
  cases h1
theorem semAt_any {ro : Option Nat} {o : Oper} (h : ∀ c, o.op ≠ .defer c) (ρ : Operand → Value) : o.semAt ro ρ = execOp ρ o := by
  cases ro with
  | none => exact Oper.semAt_none _ _
  | some l => exact Oper.semAt_some _ _ _ h

section
variable {F : Fence} {n : Nat} {P : Program} {ops : Array Oper} {md : Region.Mode} {C : World → Prop}

theorem wpOpIn_of_qOp {i : Nat} {a : Act} {K : Act → Prop} {K' : Act → World → Prop} {Q' : Exit → Act → World → Prop} {w : World} (hF : IsWide F) (hd : noDeferB ops = true) (hC : C w)
    (h : ∀ a w', C w' → K a → K' a w') (hh : qOp P ops C i K a) : wpOpIn F n P ops Q' i K' a w := by
  unfold qOp at hh
  unfold wpOpIn
  split
  · rename_i ho
    simp only [ho] at hh
    exact h _ _ hC hh
  · rename_i o ho
    simp only [ho] at hh
    split
    · rename_i hw
      simp only [hw, if_true] at hh
      obtain ⟨v, h1, h2⟩ := hh
      have h3 := h1 w hC
      refine ⟨fun f _ => hF.fn f, ?_⟩
      rw [semAt_any (noDefer_at hd ho)]
      unfold Oper.quietAt at h3
      generalize (execOp a.eval o).run P w = r at *
      cases r with
      | ok nx w' =>
        cases nx <;> simp only [Oper.quietUpon] at h3 <;> simp only [Oper.uponIn]
        case value u =>
          obtain ⟨rfl, rfl⟩ := h3
          exact h _ _ hC h2
        case skip =>
          obtain ⟨rfl, rfl⟩ := h3
          exact h _ _ hC h2
        case enter f args =>
          obtain ⟨rfl, hc⟩ := h3
          refine ⟨fun e => (by rw [hF.depth] at e; cases e), (hF.calls hc).mono ?_⟩
          rintro e w'' ⟨rfl, hw''⟩
          exact h _ _ hw'' h2
      | halt x w' => simp only [Oper.quietUpon] at h3
    · rename_i hw
      simp only [hw] at hh
      exact ⟨fun f _ => hF.fn f, h _ _ hC hh⟩

/-! ### The whole region quiet -/
theorem wpAnyIn_of_quietP {Q : Act → Prop} {Q' : Exit → Act → World → Prop} (hF : IsWide F) (hd : noDeferB ops = true) (hQ : ∀ a w, C w → Q a → Q' .normal a w) : ∀ (fuel : Nat) (listed : Array Bool) (a : Act) (w : World), C w →
    wpAnyQ P md ops C Q fuel listed a → wpAnyIn F n P md ops Q' fuel listed a w
  | 0, _, _, _, hw, h => ⟨h.1, hQ _ _ hw h.2⟩
  | fuel + 1, _, _, _, hw, h => ⟨fun h0 => hQ _ _ hw (h.1 h0), fun i hi => wpOpIn_of_qOp hF hd hw (fun a' w' hw' => wpAnyIn_of_quietP hF hd hQ fuel _ a' w' hw') (h.2 i hi)⟩

theorem region_quiet_in {id : Nat} {Q : Exit → Act → World → Prop} {a : Act} {w : World} {l : List Oper} (hF : IsWide F) (hd : noDeferB l.toArray = true) (hm : P.follows .mixedOrders = true) (hB : Region.lexB .any l.toArray = true)
    (h : wpQuiet P l.toArray (fun w' => ∃ p : Regrown, w' = grow (redrawn w p.d) p.os) (fun a' => ∀ w', (∃ p : Regrown, w' = grow (redrawn w p.d) p.os) → Q .normal a' w') l a) : (Code.region id l.toArray true).wpIn F n P Q a w := by
  simp only [Region.lexB, Bool.and_eq_true] at hB
  have hC : ∃ p : Regrown, ({ w with drawn := w.drawn + 1 } : World) = grow (redrawn w p.d) p.os := ⟨⟨w.drawn + 1, #[]⟩, by rw [grow_empty]; rfl⟩
  refine wpIn_region_any hm (wpAnyIn_of_quietP (Q := fun a' => ∀ w', (∃ p : Regrown, w' = grow (redrawn w p.d) p.os) → Q .normal a' w') hF hd (fun _ w' hw' h => h w' hw') _ _ _ _ hC ?_)
  have := wpAnyQ_lex (P := P) (C := fun w' => ∃ p : Regrown, w' = grow (redrawn w p.d) p.os) (md := .any) hB.1 l 0 (Array.replicate l.toArray.size false) a (by simp) (by simpa using hB.2) h
  simpa using this

/-! ### A quiet head, then a tail -/
def wpAnyQL (P : Program) (md : Region.Mode) (ops : Array Oper) (C : World → Prop) (m : Nat) (L : Array Bool → Act → Prop) : Nat → Array Bool → Act → Prop
  | 0, listed, a => L listed a
  | f + 1, listed, a =>
    Region.ready md ops listed ≠ [] ∧ ∀ i ∈ Region.ready md ops listed, i < m ∧ qOp P ops C i (wpAnyQL P md ops C m L f (listed.setIfInBounds i true)) a

theorem wpAnyIn_of_headQ {m g : Nat} {L : Array Bool → Act → Prop} {Q' : Exit → Act → World → Prop} (hF : IsWide F) (hd : noDeferB ops = true) (hL : ∀ listed a w, C w → L listed a → wpAnyIn F n P md ops Q' g listed a w) :
    ∀ (f : Nat) (listed : Array Bool) (a : Act) (w : World), C w → wpAnyQL P md ops C m L f listed a → wpAnyIn F n P md ops Q' (f + g) listed a w
  | 0, listed, a, w, hw, h => by rw [Nat.zero_add]; exact hL _ _ _ hw h
  | f + 1, listed, a, w, hw, h => by
    rw [show f + 1 + g = (f + g) + 1 by omega]
    exact ⟨fun h0 => absurd h0 h.1, fun i hi => wpOpIn_of_qOp hF hd hw (fun a' w' hw' h' => wpAnyIn_of_headQ hF hd hL f _ a' w' hw' h') (h.2 i hi).2⟩

theorem wpAnyQL_first {m i : Nat} {oi : Oper} {v : Value} {L : Array Bool → Act → Prop} (hi : ops[i]? = some oi) (hsel : ∀ (j : Nat) (o : Oper) cs b, ops[j]? = some o → o.op ≠ .select cs b)
    (hs : Region.sinkB md ops m = true) (hc : Region.chainB md ops m = true) (hn : m < ops.size) (hin : i < m)
    (hdone : ∀ listed a, L listed a → ∀ j ∈ Region.ready md ops listed, m ≤ j) :
    ∀ (f : Nat) (listed : Array Bool) (a : Act), HeadInv md ops m listed →
      (∀ j oj, ops[j]? = some oj → j ≠ i → listed.getD j true = false → (∀ e ∈ oj.after, Region.binds md e = true → e.on ≠ i) → oi.apart ops oj = true) →
      i ∈ Region.ready md ops listed → YieldsIn P ops C oi v a →
      wpAnyQL P md ops C m L f (listed.setIfInBounds i true) (a.put oi.dst v) → wpAnyQL P md ops C m L (f + 1) listed a := by
  intro f
  induction f with
  | zero =>
    intro listed a inv _ hr hy H
    have hun := (mem_ready.1 hr).1
    refine ⟨fun h => (by rw [h] at hr; cases hr), fun j hj => ?_⟩
    have hjn : j < m := by
      rcases Nat.lt_or_ge j m with h | h
      · exact h
      · exact absurd hj (tail_waits hs hc hn inv _ i rfl hin hun j h)
    refine ⟨hjn, ?_⟩
    by_cases hji : j = i
    · subst hji; exact hy.qOp hi H
    · have := hdone _ _ H j (ready_mono hj hji)
      omega
  | succ f ih =>
    intro listed a inv hfree hr hy H
    have hun := (mem_ready.1 hr).1
    refine ⟨fun h => (by rw [h] at hr; cases hr), fun j hj => ?_⟩
    have hjn : j < m := by
      rcases Nat.lt_or_ge j m with h | h
      · exact h
      · exact absurd hj (tail_waits hs hc hn inv _ i rfl hin hun j h)
    refine ⟨hjn, ?_⟩
    by_cases hji : j = i
    · subst hji; exact hy.qOp hi H
    · have h1 := (H.2 j (ready_mono hj hji)).2
      obtain ⟨hjun, oj, hoj, hall⟩ := mem_ready.1 hj
      have hnot : ∀ e ∈ oj.after, Region.binds md e = true → e.on ≠ i := fun e he hb heq => by
        have h1 := hall e he hb
        rw [heq, getD_both hun] at h1
        cases h1
      have h2 := qOp_put hoj (hfree j oj hoj hji hjun hnot) (fun cs b => hsel i oi cs b hi) (fun cs b => hsel j oj cs b hoj) hy h1
      have hfree' : ∀ k ok, ops[k]? = some ok → k ≠ i → (listed.setIfInBounds j true).getD k true = false →
          (∀ e ∈ ok.after, Region.binds md e = true → e.on ≠ i) → oi.apart ops ok = true := fun k ok hk hki hun hno => by
        refine hfree k ok hk hki ?_ hno
        by_cases hjk : j = k
        · subst hjk; exact hjun
        · rw [getD_set_ne true hjk] at hun; exact hun
      refine qOp_mono (fun a' h3 => ih (listed.setIfInBounds j true) a' (inv.set hj hjn) hfree' (ready_mono hr (Ne.symm hji)) h3.1 ?_) h2
      rw [Array.setIfInBounds_comm _ _ hji]
      exact h3.2

theorem wpAnyQL_lex {m g : Nat} {Lq : Act → Prop} (hsel : Region.noSelect ops = true) (hs : Region.sinkB md ops m = true) (hc : Region.chainB md ops m = true) (hn : m < ops.size) :
    ∀ (l : List Oper) (k : Nat) (listed : Array Bool) (a : Act), (∀ j, j < l.length → l[j]? = ops[k + j]?) → k + l.length = m → HeadInv md ops m listed →
    Region.lexHead md ops g l.length k listed = true → wpQuiet P ops C Lq l a →
    wpAnyQL P md ops C m (fun listed' a' => Region.seqB md ops g m listed' = true ∧ Lq a') l.length listed a
  | [], k, listed, a, _, hk, _, hB, h => by
    have : k = m := by simpa using hk
    subst this
    exact ⟨by simpa [Region.lexHead] using hB, h⟩
  | o :: l, k, listed, a, hl, hk, inv, hB, h => by
    have h0 : ops[k]? = some o := by simpa using (hl 0 (by simp)).symm
    simp only [List.length_cons, Region.lexHead, Bool.and_eq_true] at hB
    obtain ⟨⟨hr, hf⟩, hB'⟩ := hB
    have hkn : k < m := by simp only [List.length_cons] at hk; omega
    have hr' : k ∈ Region.ready md ops listed := by simpa using hr
    have hst : qOp P ops C k (wpQuiet P ops C Lq l) a := by unfold qOp; simp only [h0]; exact h
    obtain ⟨v, hy, hK⟩ := yieldsIn_of_qOp h0 hst
    exact wpAnyQL_first h0 (Region.noSelect_spec hsel) hs hc hn hkn (fun listed' a' hL => seqB_ready hL.1) l.length listed a inv (Region.free_spec h0 hf) hr' hy
      (wpAnyQL_lex hsel hs hc hn l (k + 1) _ _ (fun j hj => by have := hl (j + 1) (by simp; omega); simpa [Nat.add_assoc, Nat.add_comm 1 j] using this) (by simp only [List.length_cons] at hk; omega) (inv.set hr' hkn) hB' hK)

theorem wpAnyIn_of_seqP {Q' : Exit → Act → World → Prop} : ∀ (l : List Oper) (k : Nat) (listed : Array Bool) (a : Act) (w : World), (∀ j, l[j]? = ops[k + j]?) →
    Region.seqB md ops l.length k listed = true → wpListIn F n P ops Q' l a w → wpAnyIn F n P md ops Q' l.length listed a w
  | [], _, _, _, _, _, hB, h => ⟨by simpa [Region.seqB] using hB, h⟩
  | o :: l, k, listed, a, w, hl, hB, h => by
    have h0 : ops[k]? = some o := by simpa using (hl 0).symm
    simp only [List.length_cons, Region.seqB, Bool.and_eq_true, decide_eq_true_eq] at hB
    refine ⟨fun h1 => (by rw [hB.1] at h1; cases h1), fun i hi => ?_⟩
    rw [hB.1] at hi
    have hik : i = k := by simpa using hi
    subst hik
    have hw : wpOpIn F n P ops Q' i (wpListIn F n P ops Q' l) a w := by unfold wpOpIn; simp only [h0]; exact h
    exact wpOpIn_mono (fun a' w' h' => wpAnyIn_of_seqP l (i + 1) _ a' w' (fun j => by have := hl (j + 1); simpa [Nat.add_assoc, Nat.add_comm 1 j] using this) hB.2 h') hw

/-- **A quiet head of m operations, then a tail in sequence.** -/
theorem region_tail_in {id : Nat} {Q : Exit → Act → World → Prop} {a : Act} {w : World} {l : List Oper} (m : Nat) (hF : IsWide F) (hd : noDeferB l.toArray = true) (hm : P.follows .mixedOrders = true) (hB : Region.lexTailB .any l.toArray m = true)
    (h : wpQuiet P l.toArray (fun w' => ∃ p : Regrown, w' = grow (redrawn w p.d) p.os) (fun a' => ∀ w', (∃ p : Regrown, w' = grow (redrawn w p.d) p.os) → wpListIn F n P l.toArray Q (l.drop m) a' w') (l.take m) a) :
    (Code.region id l.toArray true).wpIn F n P Q a w := by
  simp only [Region.lexTailB, Bool.and_eq_true, decide_eq_true_eq] at hB
  obtain ⟨⟨⟨⟨hsel, hn⟩, hs⟩, hc⟩, hlex⟩ := hB
  have hn' : m < l.length := by simpa using hn
  have htl : (l.take m).length = m := by simp; omega
  have hdl : (l.drop m).length = l.toArray.size - m := by simp
  have inv0 : HeadInv .any l.toArray m (Array.replicate l.toArray.size false) :=
    ⟨by simp, fun j oj _ hl => (by rw [getD_replicate_false] at hl; cases hl), fun t _ ht => getD_in (by simpa using ht) (getD_replicate_false _ _)⟩
  have H := wpAnyQL_lex (md := .any) (P := P) (C := fun w' => ∃ p : Regrown, w' = grow (redrawn w p.d) p.os) (g := l.toArray.size - m) hsel hs hc hn (l.take m) 0 _ a (fun j hj => by
    have hj' : j < m := by rw [htl] at hj; exact hj
    simp [hj']) (by simpa using htl) inv0 (by rw [htl]; exact hlex) h
  have hC : ∃ p : Regrown, ({ w with drawn := w.drawn + 1 } : World) = grow (redrawn w p.d) p.os := ⟨⟨w.drawn + 1, #[]⟩, by rw [grow_empty]; rfl⟩
  refine wpIn_region_any hm ?_
  have := wpAnyIn_of_headQ (F := F) (n := n) (Q' := Q) (g := l.toArray.size - m) hF hd (fun listed a' w' hw' hL => by
    have := wpAnyIn_of_seqP (F := F) (n := n) (P := P) (md := .any) (Q' := Q) (l.drop m) m listed a' w' (fun j => by simp [List.getElem?_drop]) (by rw [hdl]; exact hL.1) (hL.2 w' hw')
    rwa [hdl] at this) _ _ _ _ hC H
  rw [htl, show m + (l.toArray.size - m) = l.toArray.size by omega] at this
  exact this
end
end Go.Proofs.Ytnkehfhedjdhaaa

/-! Sides -/
namespace Go.Proofs.Ytnkehfhedjdhaaa
open Go.RowKit Go.Shelf Go.Sort
attribute [local go_sem] Oper.semAt_some

def sideV (L : List (Int × Int)) (i : Nat) : Value := .agg #[.int .i64 (gt L i).1, .int .i64 (gt L i).2, .int .i64 (gt L (nx L i)).1, .int .i64 (gt L (nx L i)).2]

/-- What lay below m and block B lie as they lay. -/
def KeepP (m B : Nat) (W W' : World) : Prop := Below m W W' ∧ W'.heap[B]? = W.heap[B]?
theorem KeepP.refl (m B : Nat) (W : World) : KeepP m B W W := ⟨Below.refl _ _, rfl⟩
theorem keepP_t {m B : Nat} {X Y Z : World} (h : KeepP m B X Y) (k : KeepP m B Y Z) : KeepP m B X Z := ⟨h.1.trans k.1, k.2.trans h.2⟩
theorem keepP_b {m B : Nat} {w : World} (hn : m ≤ w.heap.size) (hB : B < w.heap.size) (W : World) (l : Nat) (o o' : Obj) (hl : w.heap.size ≤ l) (h : W.heap[l]? = some o) (h1 : o.isCells = false) (h2 : o.isWalk = false) : KeepP m B W (W.putObj l o') :=
  ⟨belowK_b hn W l o o' hl h h1 h2, World.putObj_heap_other (by omega)⟩
theorem KeepP.of_below {m B : Nat} {W W' : World} (h : Below W.heap.size W W') (hm : m ≤ W.heap.size) (hB : B < W.heap.size) : KeepP m B W W' := ⟨h.mono hm, h.block B hB⟩
theorem KeepP.setCell {m B : Nat} {W W' : World} (h : KeepP m B W W') {b : Nat} (hm : m ≤ b) (hB : B ≠ b) (o : Nat) (v : Value) : KeepP m B W (W'.setCell ⟨b, o, none⟩ v) :=
  ⟨h.1.setCell (p := ⟨b, o, none⟩) hm v, (Below.heap_setCell W' ⟨b, o, none⟩ v B hB).trans h.2⟩
theorem grown_of_below {W W' : World} (h : Below W.heap.size W W') : W.grownBy W' none := ⟨h.os, h.tape, h.output, h.size, fun k hk _ => h.block k hk⟩
theorem keepsFrom_below {B : Nat} {W W' : World} (h : Below W.heap.size W W') : KeepsFrom B W W' := ⟨h.size, fun k _ _ h0 _ => (h.block k (Array.getElem?_eq_some_iff.1 h0).1).trans h0⟩

theorem cell_same {X Y : World} {B o : Nat} {v : Value} (h : Y.heap[B]? = X.heap[B]?) (hc : X.cell? ⟨B, o, none⟩ = some v) : Y.cell? ⟨B, o, none⟩ = some v := by
  have : Y.cell? ⟨B, o, none⟩ = X.cell? ⟨B, o, none⟩ := by simp only [World.cell?, h]
  rw [this]; exact hc

theorem sides_any (A : Option Addr) (n c : Nat) (w : World) :
    Calls Try.prog 78 #[.slice A n c] w fun e w' => e = .returned (.func (.func 118) #[] #[.pointer (some ⟨w.heap.size, 0, none⟩)]) ∧ w.alloc (.cells #[.slice A n c] 39) = w' := by
  go_enter Try.func78, Try.ntmps78
  go_wp2_with fail
  go_ret
  exact ⟨rfl, rfl⟩

set_option maxRecDepth 100000 in
set_option maxHeartbeats 4000000 in
theorem sides1 (n l Bs : Nat) (A : Option Addr) (c : Nat) (L : List (Int × Int)) (w0 : World) (h1 : 1 ≤ L.length) (h2 : L.length ≤ 1048576) (hA : PtsA w0 A L) (J Jx : List Nat → World → Prop) (W : World) (hJ : AbidesFrom W.heap.size J)
    (hY : ∀ (pre : List Nat) (x : Nat) (W1 : World), J pre W1 → pre.length < L.length → YieldAt Fence.wide (n - 1) Try.prog l #[.int .i64 (x : Int), sideV L x] W1 fun e W' =>
      (e = .returned (.bool true) ∧ J (pre ++ [x]) W' ∧ KeepP w0.heap.size Bs W1 W') ∨ (e = .returned (.bool false) ∧ Jx (pre ++ [x]) W'))
    (hBl : Bs < W.heap.size) (hBs : W.cell? ⟨Bs, 0, none⟩ = some (.slice A L.length c)) (hW : Below w0.heap.size w0 W) (h0 : J [] W) :
    CallsIn Fence.wide n Try.prog 118 #[.func (.yield l) #[] #[], .pointer (some ⟨Bs, 0, none⟩)] W fun e W' => (∃ v, e = .returned v) ∧
      ((∃ ys, ys = List.range L.length ∧ J ys W') ∨ (∃ pre, (∃ k, k ≤ L.length ∧ pre = List.range k) ∧ Jx pre W')) := by
  obtain ⟨g, rfl, -⟩ := hA 0 h1
  have HA := Lib.hid hA; clear hA
  refine callsIn_of_wp Try.func118 rfl trivial ?_ rfl
  simp only [Try.ntmps118, List.size_toArray, List.length_cons, List.length_nil, Nat.reduceAdd, Nat.reduceSub, Array.replicate_succ, Array.replicate_zero, List.push_toArray, List.append_toArray, List.nil_append, List.cons_append]
  gi_wp2
  gi_loopw [7] (fun i wr => ∃ k : Nat, k ≤ L.length ∧ i = .int .i64 k ∧ J (List.range k) wr ∧ KeepP w0.heap.size Bs W wr)
    (fun i _ => L.length - (intOf i).toNat)
  case atStart => exact ⟨0, Nat.zero_le _, rfl, h0, KeepP.refl _ _ _⟩
  case round =>
    obtain ⟨k, hk, rfl, hJs, hnx⟩ := hrel
    have hsz : W.heap.size ≤ wr.heap.size := hnx.1.size
    have hbox : wr.cell? ⟨Bs, 0, none⟩ = some (.slice (some ⟨g, 0, none⟩) L.length c) := cell_same hnx.2 hBs
    by_cases hlt : k < L.length
    · obtain ⟨c1, c2⟩ := gt_cells (ptsA_on HA.out (hW.trans hnx.1)) hlt
      obtain ⟨m, hm⟩ : ∃ m, m = nx L k := ⟨_, rfl⟩
      have hml : m < L.length := by rw [hm]; exact (next_int (i := k) h1).2
      have e2 : ((k : Int) + 1) % (L.length : Int) = (m : Int) := by rw [hm]; unfold nx; exact (Int.natCast_emod (k + 1) L.length).symm
      obtain ⟨d1, d2⟩ := gt_cells (ptsA_on HA.out (hW.trans hnx.1)) hml
      obtain ⟨x, hx⟩ : ∃ x, x = (gt L k).1 := ⟨_, rfl⟩
      obtain ⟨y, hy⟩ : ∃ y, y = (gt L k).2 := ⟨_, rfl⟩
      obtain ⟨x', hx'⟩ : ∃ x', x' = (gt L m).1 := ⟨_, rfl⟩
      obtain ⟨y', hy'⟩ : ∃ y', y' = (gt L m).2 := ⟨_, rfl⟩
      rw [← hx] at c1; rw [← hy] at c2; rw [← hx'] at d1; rw [← hy'] at d2
      have HV : Hid (sideV L k = .agg #[.int .i64 x, .int .i64 y, .int .i64 x', .int .i64 y']) := by
        show _ = _
        rw [hx, hy, hx', hy', hm]; rfl
      clear hx hy hx' hy' hm
      have hb0 := below1 wr (.cells #[.int .i64 x, .int .i64 y] 46)
      have A0 := at_new wr x y 46
      have k1 := cell_regrown A0.c0
      have k2 := cell_regrown A0.c1
      have k3 := cell_regrown (cell_on hb0 rfl d1)
      have k4 := cell_regrown (cell_on hb0 rfl d2)
      have k5 := cell_regrown (cell_on hb0 rfl hbox)
      have hJ1 : J (List.range k) (wr.alloc (.cells #[.int .i64 x, .int .i64 y] 46)) := hJ _ _ _ none hJs (grown_of_below hb0) (fun r e => by cases e)
      gi_wp2
      refine region_tail_in 12 wide0 (by kernel_rfl) (by kernel_rfl) (by kernel_rfl) ?_
      simp only [List.take_succ_cons, List.take_zero, List.drop_succ_cons, List.drop_zero]
      repeat (first
        | go_big_quiet_step (fail)
        | quiet_step (fail))
      refine wpQuiet_nil ?_
      rintro _ ⟨⟨dq, osq⟩, rfl⟩
      have hb1 := hb0.trans ((below_regrown _ dq osq).mono (by simp))
      have hJ2 : J (List.range k) (grow (redrawn (wr.alloc (.cells #[.int .i64 x, .int .i64 y] 46)) dq) osq) := hJ _ _ _ none hJs (grown_of_below hb1) (fun r e => by cases e)
      clear k1 k2 k3 k4 k5 c1 c2 d1 d2 hJ1 A0
      generalize grow (redrawn (wr.alloc (.cells #[.int .i64 x, .int .i64 y] 46)) dq) osq = w2 at *
      obtain ⟨fn, tmps, assign, body, hy, hR⟩ := hY _ k w2 hJ2 (by rw [List.length_range]; exact hlt)
      rw [HV.out] at hy
      gi_wp2
      refine ⟨fun e => (by cases e), hR.mono ?_⟩
      have hk2 : KeepP w0.heap.size Bs W w2 := keepP_t hnx (KeepP.of_below hb1 (Nat.le_trans hW.size hsz) (by omega))
      rintro e W3 (⟨rfl, hJ3, hk3⟩ | ⟨rfl, hJx3⟩)
      · gi_wp2
        go_roundw
        case rel => exact ⟨k + 1, by omega, by go_num, by rw [List.range_succ]; exact hJ3, keepP_t hk2 hk3⟩
        case measure => simp [intOf]; omega
      · gi_wp2
        refine bodyPost_ret (results_none rfl _ _ _) rfl ?_
        exact ⟨⟨_, rfl⟩, .inr ⟨_, ⟨k + 1, by omega, List.range_succ.symm⟩, hJx3⟩⟩
    · obtain rfl : k = L.length := by omega
      gi_wp2
      go_end0
      exact ⟨⟨_, rfl⟩, .inl ⟨_, rfl, hJs⟩⟩

/-- **The iterator of the sides.** -/
theorem sides_stops (n Bs : Nat) (A : Option Addr) (c : Nat) (L : List (Int × Int)) (w0 w : World) (h1 : 1 ≤ L.length) (h2 : L.length ≤ 1048576) (hA : PtsA w0 A L) (hB : Below w0.heap.size w0 w) (hBl : Bs < w.heap.size) (hBs : w.cell? ⟨Bs, 0, none⟩ = some (.slice A L.length c)) :
    SeqStopsK Fence.wide n Try.prog 118 #[.pointer (some ⟨Bs, 0, none⟩)] (fun i : Nat => #[.int .i64 (i : Int), sideV L i]) (KeepP w0.heap.size Bs) (fun ys => ys = List.range L.length) (fun pre => ∃ k, k ≤ L.length ∧ pre = List.range k) L.length w := fun l J Jx W hW hJ _ hY h0 =>
  sides1 n l Bs A c L w0 h1 h2 hA J Jx W hJ hY (Nat.lt_of_lt_of_le hBl hW.size) ((hW.cell (p := ⟨Bs, 0, none⟩) hBl).trans hBs) (hB.trans (hW.mono hB.size)) h0
/-- Block g holds a side. -/
def SideAt (W : World) (g : Nat) (L : List (Int × Int)) (i : Nat) : Prop := W.heap[g]? = some (.cells #[.int .i64 (gt L i).1, .int .i64 (gt L i).2, .int .i64 (gt L (nx L i)).1, .int .i64 (gt L (nx L i)).2] 100 (0, 0))
theorem sideAt_new (W : World) (L : List (Int × Int)) (i : Nat) : SideAt (W.alloc (.cells #[.int .i64 (gt L i).1, .int .i64 (gt L i).2, .int .i64 (gt L (nx L i)).1, .int .i64 (gt L (nx L i)).2] 100)) W.heap.size L i := heap_alloc_new W _
theorem SideAt.lt {W : World} {g : Nat} {L : List (Int × Int)} {i : Nat} (h : SideAt W g L i) : g < W.heap.size := (Array.getElem?_eq_some_iff.1 h).1
theorem sideAt_own (g : Nat) (L : List (Int × Int)) (i B : Nat) : OwnFrom B (fun (_ : Unit) W => SideAt W g L i) := fun _ X Y row hs hg hr =>
  (hg.block g hs.lt (fun e => by
    obtain ⟨_, o, ho, hc⟩ := hr g e.symm
    rw [show X.heap[g]? = _ from hs] at ho
    cases ho; cases hc)).trans hs
theorem SideAt.cells {W : World} {g : Nat} {L : List (Int × Int)} {i : Nat} (h : SideAt W g L i) :
    W.cell? ⟨g, 0, none⟩ = some (.int .i64 (gt L i).1) ∧ W.cell? ⟨g, 1, none⟩ = some (.int .i64 (gt L i).2) ∧ W.cell? ⟨g, 2, none⟩ = some (.int .i64 (gt L (nx L i)).1) ∧ W.cell? ⟨g, 3, none⟩ = some (.int .i64 (gt L (nx L i)).2) :=
  ⟨cell_of_row W g 0 _ _ _ h, cell_of_row W g 1 _ _ _ h, cell_of_row W g 2 _ _ _ h, cell_of_row W g 3 _ _ _ h⟩

theorem boxed_on {W W' : World} {B : Nat} {t : TypeId} {v : Value} (h : Boxed W B t v) (hb : Below W.heap.size W W') : Boxed W' B t v := (hb.block B h.lt).trans h

theorem gt_ok {L : List (Int × Int)} (h : allOk L = true) (i : Nat) : okP (gt L i).1 (gt L i).2 = true := by
  by_cases hi : i < L.length
  · exact all_at h hi
  · have : gt L i = (0, 0) := by simp [gt, List.getElem?_eq_none (Nat.le_of_not_lt hi)]
    rw [this]; rfl
end Go.Proofs.Ytnkehfhedjdhaaa

/-! Ends -/
namespace Go.Proofs.Ytnkehfhedjdhaaa
open Go.RowKit

def tillE (a b c d : Int × Int) (k : Nat) : List (Int × Int) := ([a, b, c, d].take k).foldl (addE a b c d) []
theorem tillE_step {a b c d p : Int × Int} {k : Nat} (h : [a, b, c, d][k]? = some p) : tillE a b c d (k + 1) = addE a b c d (tillE a b c d k) p := by
  have hk : k < [a, b, c, d].length := (List.getElem?_eq_some_iff.1 h).1
  have hp : [a, b, c, d][k] = p := (List.getElem?_eq_some_iff.1 h).2
  rw [tillE, List.take_succ_eq_append_getElem hk, List.foldl_append, hp]; rfl
theorem idx4 (ax ay bx by' cx cy dx dy x y : Int) : ∀ (k : Nat) (_ : [(ax, ay), (bx, by'), (cx, cy), (dx, dy)][k]? = some (x, y)) (w : World),
    (Instr.index 84 (.agg #[.int .i64 ax, .int .i64 ay, .int .i64 bx, .int .i64 by', .int .i64 cx, .int .i64 cy, .int .i64 dx, .int .i64 dy]) (.int .i64 (k : Int))).run Try.prog w = .ok (.agg #[.int .i64 x, .int .i64 y]) w
  | 0, h, w => by
    obtain ⟨rfl, rfl⟩ : ax = x ∧ ay = y := by simpa using h
    simp [go_sem, Instr.index]
  | 1, h, w => by
    obtain ⟨rfl, rfl⟩ : bx = x ∧ by' = y := by simpa using h
    simp [go_sem, Instr.index]
  | 2, h, w => by
    obtain ⟨rfl, rfl⟩ : cx = x ∧ cy = y := by simpa using h
    simp [go_sem, Instr.index]
  | 3, h, w => by
    obtain ⟨rfl, rfl⟩ : dx = x ∧ dy = y := by simpa using h
    simp [go_sem, Instr.index]
  | k + 4, h, w => by simp at h
theorem tillE_len (a b c d : Int × Int) (k : Nat) : (tillE a b c d k).length ≤ 4 := by
  have : ∀ (l : List (Int × Int)) E, (l.foldl (addE a b c d) E).length ≤ E.length + l.length := by
    intro l
    induction l with
    | nil => intro E; simp
    | cons p l ih =>
      intro E
      have h1 := ih (addE a b c d E p)
      have h2 : (addE a b c d E p).length ≤ E.length + 1 := by
        unfold addE
        cases onP a b p && onP c d p && !(hasP E p.1 p.2) <;> simp
      simp only [List.foldl_cons, List.length_cons]
      omega
  have h := this ([a, b, c, d].take k) []
  have h2 : ([a, b, c, d].take k).length ≤ 4 := by rw [List.length_take]; simp; omega
  unfold tillE
  simp only [List.length_nil] at h
  omega
theorem onV_on {ax ay bx by' px py : Int} (ha : okP ax ay = true) (hb : okP bx by' = true) (hp : okP px py = true) : onV ax ay bx by' px py = onP (ax, ay) (bx, by') (px, py) := by
  rw [onV, ha, hb, hp]; rfl
set_option maxHeartbeats 4000000 in
set_option maxRecDepth 100000 in
theorem count_any (ax ay bx by' cx cy dx dy : Int) (w : World) (ha : okP ax ay = true) (hb : okP bx by' = true) (hc : okP cx cy = true) (hd : okP dx dy = true) :
    Calls Try.prog 139 #[(.agg #[.int .i64 ax, .int .i64 ay]), (.agg #[.int .i64 bx, .int .i64 by']), (.agg #[.int .i64 cx, .int .i64 cy]), (.agg #[.int .i64 dx, .int .i64 dy])] w fun e w' => e = .returned (.int .i64 (endsE (ax, ay) (bx, by') (cx, cy) (dx, dy)).length) ∧ Below w.heap.size w w' := by
  have t0 := four0 w ax ay bx by' cx cy dx dy 46
  have b0 := below4 w (.cells #[.int .i64 ax, .int .i64 ay] 46) (.cells #[.int .i64 bx, .int .i64 by'] 46) (.cells #[.int .i64 cx, .int .i64 cy] 46) (.cells #[.int .i64 dx, .int .i64 dy] 46)
  obtain ⟨i0, hi0, hz0, hz1, hz2⟩ := info_parts infoPt
  go_enter Try.func139, Try.ntmps139
  go_wp2_with fail
  generalize (((w.alloc (.cells #[.int .i64 ax, .int .i64 ay] 46)).alloc (.cells #[.int .i64 bx, .int .i64 by'] 46)).alloc (.cells #[.int .i64 cx, .int .i64 cy] 46)).alloc (.cells #[.int .i64 dx, .int .i64 dy] 46) = w1 at *
  have HT := Lib.hid t0; have HB := Lib.hid b0
  clear t0 b0
  go_loopw [9, 11, 17] (fun s _ i wr => ∃ k : Nat, k ≤ 4 ∧ i = .int .i64 k ∧ wr.ownsRow (w.heap.size + 1 + 1 + 1 + 1) 46 2 s (tillE (ax, ay) (bx, by') (cx, cy) (dx, dy) k).length (flat (tillE (ax, ay) (bx, by') (cx, cy) (dx, dy) k)) ∧
      Four wr w.heap.size ax ay bx by' cx cy dx dy 46 ∧ Below w.heap.size w wr) (fun _ _ i _ => 4 - (intOf i).toNat)
  case atStart => exact ⟨0, by omega, rfl, World.ownsRow_nil _ _ _ _, HT.out, HB.out⟩
  case round =>
    obtain ⟨wo, rfl⟩ : ∃ wo : World, wo = wr := ⟨_, rfl⟩
    obtain ⟨k, hk, rfl, hown, t1, b1⟩ := hrel
    by_cases hlt : k < 4
    · obtain ⟨x, y, hxy⟩ : ∃ x y, [(ax, ay), (bx, by'), (cx, cy), (dx, dy)][k]? = some (x, y) := ⟨_, _, List.getElem?_eq_getElem (by simpa using hlt)⟩
      have hok : okP x y = true := by
        have := List.mem_of_getElem? hxy
        simp only [List.mem_cons, Prod.mk.injEq, List.not_mem_nil, or_false] at this
        rcases this with ⟨rfl, rfl⟩ | ⟨rfl, rfl⟩ | ⟨rfl, rfl⟩ | ⟨rfl, rfl⟩ <;> assumption
      have hs := tillE_step hxy
      have hidx := fun w => idx4 ax ay bx by' cx cy dx dy x y k hxy w
      have V1 := Lib.hid (onV_on ha hb hok); have V2 := Lib.hid (onV_on hc hd hok)
      have HS := Lib.hid hs
      have hE4 := tillE_len (ax, ay) (bx, by') (cx, cy) (dx, dy) k
      generalize tillE (ax, ay) (bx, by') (cx, cy) (dx, dy) k = E at *
      clear hxy hs hok
      have u1 := t1.alloc (.cells #[.int .i64 x, .int .i64 y] 46)
      have n1 := at_new wo x y 46
      have c1 := u1.1.c0; have c2 := u1.1.c1; have c3 := u1.2.1.c0; have c4 := u1.2.1.c1
      obtain ⟨_, A, cp, rfl, _⟩ := own_pts hown
      go_wp2_with fail
      refine (impl_on _ _ _ _ _ _ _).mono ?_
      rintro e w2 ⟨rfl, hb2⟩
      have t2 := u1.step hb2
      have n2 := n1.step hb2
      have b2 := below_on (b1.alloc b1.size _) hb2
      have own2 := own_below (hown.alloc _) hb2
      clear u1 n1 t1 b1 hown hb2 c1 c2 c3 c4 hidx
      rw [V1.out]
      cases ho1 : onP (ax, ay) (bx, by') (x, y)
      · have HE : Hid (tillE (ax, ay) (bx, by') (cx, cy) (dx, dy) (k + 1) = E) := by
          show _ = _
          rw [HS.out, addE, ho1]; rfl
        have R := Lib.hid (And.intro own2 (And.intro t2 b2))
        clear own2 t2 b2 n2
        go_wp2_with fail
        go_roundw
        case rel => exact ⟨k + 1, by omega, by go_num, by rw [HE.out]; exact R.out.1, R.out.2.1, R.out.2.2⟩
        case measure => simp [intOf]; omega
      have c1 := t2.2.2.1.c0; have c2 := t2.2.2.1.c1; have c3 := t2.2.2.2.c0; have c4 := t2.2.2.2.c1; have c5 := n2.c0; have c6 := n2.c1
      go_wp2_with fail
      refine (impl_on _ _ _ _ _ _ _).mono ?_
      rintro e w3 ⟨rfl, hb3⟩
      have t3 := t2.step hb3
      have n3 := n2.step hb3
      have b3 := below_on b2 hb3
      have own3 := own_below own2 hb3
      clear t2 n2 b2 own2 hb3 c1 c2 c3 c4 c5 c6
      rw [V2.out]
      cases ho2 : onP (cx, cy) (dx, dy) (x, y)
      · have HE : Hid (tillE (ax, ay) (bx, by') (cx, cy) (dx, dy) (k + 1) = E) := by
          show _ = _
          rw [HS.out, addE, ho1, ho2]; rfl
        have R := Lib.hid (And.intro own3 (And.intro t3 b3))
        clear own3 t3 b3 n3
        go_wp2_with fail
        go_roundw
        case rel => exact ⟨k + 1, by omega, by go_num, by rw [HE.out]; exact R.out.1, R.out.2.1, R.out.2.2⟩
        case measure => simp [intOf]; omega
      have c5 := n3.c0; have c6 := n3.c1
      have HH := Lib.hid (has_any A cp E x y w3 (ptsA_of own3) (by omega))
      go_wp2_with fail
      refine HH.out.mono ?_
      rintro e w4 ⟨rfl, hb4⟩
      have t4 := t3.step hb4
      have n4 := n3.step hb4
      have b4 := below_on b3 hb4
      have own4 := own_below own3 hb4
      clear t3 n3 b3 own3 hb4 c5 c6 HH
      cases ho3 : hasP E x y
      · have HE : Hid (tillE (ax, ay) (bx, by') (cx, cy) (dx, dy) (k + 1) = E ++ [(x, y)]) := by
          show _ = _
          rw [HS.out, addE, ho1, ho2]
          show (bif true && true && !(hasP E x y) then _ else _) = _
          rw [ho3]; rfl
        have c5 := n4.c0; have c6 := n4.c1
        have hB := t4.2.2.2.lt
        go_wp2_with (at_builtin; refine wpList_append_own _ rfl _ _ 39 rfl (w.heap.size + 1 + 1 + 1 + 1) 46 i0 (.agg #[.int .i64 0, .int .i64 0]) 2 16 Try.underlying39 hi0 hz0 hz1 hz2 rfl (by decide) _ _ _ rfl (own4.alloc _) ⟨w4.heap.size, 0, none⟩ 1 1 [.int .i64 x, .int .i64 y] rfl rfl ?d1 ?d2 ?d3 ?d4 ?d5 ?_)
        case d1 => exact World.news_of_block (cs := #[.int .i64 x, .int .i64 y]) (t := 46) (fr := (0, 0)) (heap_alloc_new w4 _)
        case d2 => simp [Value.oneCell']
        case d3 => unfold maxLen; omega
        case d4 => omega
        case d5 => simp; omega
        intro v' w5 own5 hgrow _
        have hr := fun k hk => (own4.lt k hk).1
        have R : Hid (w5.ownsRow (w.heap.size + 1 + 1 + 1 + 1) 46 2 v' (E ++ [(x, y)]).length (flat (E ++ [(x, y)])) ∧ Four w5 w.heap.size ax ay bx by' cx cy dx dy 46 ∧ Below w.heap.size w w5) :=
          ⟨by rw [flat_append, List.length_append]; exact own5, (t4.alloc _).grown hgrow hr, (b4.alloc b4.size _).grown hgrow (by have := b4.size; simp; omega) (fun q hq => by have := hr q hq; omega)⟩
        clear own4 own5 hgrow t4 b4 n4 c5 c6
        go_wp2_with fail
        exact ⟨⟨k + 1, by omega, by go_num, by rw [HE.out]; exact R.out.1, R.out.2.1, R.out.2.2⟩, by simp [intOf]; omega⟩
      · have HE : Hid (tillE (ax, ay) (bx, by') (cx, cy) (dx, dy) (k + 1) = E) := by
          show _ = _
          rw [HS.out, addE, ho1, ho2]
          show (bif true && true && !(hasP E x y) then _ else _) = _
          rw [ho3]; rfl
        have R := Lib.hid (And.intro own4 (And.intro t4 b4))
        clear own4 t4 b4 n4
        go_wp2_with fail
        go_roundw
        case rel => exact ⟨k + 1, by omega, by go_num, by rw [HE.out]; exact R.out.1, R.out.2.1, R.out.2.2⟩
        case measure => simp [intOf]; omega
    · obtain rfl : k = 4 := by omega
      obtain ⟨_, A, c, rfl, _⟩ := own_pts hown
      go_wp2_with fail
      go_ret
      exact ⟨rfl, b1⟩
theorem crossV_on {ax ay bx by' px py : Int} (ha : okP ax ay = true) (hb : okP bx by' = true) (hp : okP px py = true) : crossV ax ay bx by' px py = crossP (ax, ay) (bx, by') (px, py) := by
  rw [crossV, ha, hb, hp]; rfl
set_option maxRecDepth 100000 in
set_option maxHeartbeats 1000000 in
theorem parts_any (ax ay bx by' cx cy dx dy : Int) (w : World) (ha : okP ax ay = true) (hb : okP bx by' = true) (hc : okP cx cy = true) (hd : okP dx dy = true) :
    Calls Try.prog 140 #[(.agg #[.int .i64 ax, .int .i64 ay]), (.agg #[.int .i64 bx, .int .i64 by']), (.agg #[.int .i64 cx, .int .i64 cy]), (.agg #[.int .i64 dx, .int .i64 dy])] w fun e w' => e = .returned (.bool (opp (ax, ay) (bx, by') (cx, cy) (dx, dy))) ∧ Below w.heap.size w w' := by
  have m1 := sgn_abs (crossV ax ay bx by' cx cy)
  have m2 := sgn_abs (crossV ax ay bx by' dx dy)
  have HO : Hid (opp (ax, ay) (bx, by') (cx, cy) (dx, dy) = decide (sgn (crossV ax ay bx by' cx cy) * sgn (crossV ax ay bx by' dx dy) < 0)) := by
    show _ = _
    rw [crossV_on ha hb hc, crossV_on ha hb hd]; rfl
  have hm := abs_mul m1 m2
  obtain ⟨m, em⟩ : ∃ m, m = sgn (crossV ax ay bx by' cx cy) * sgn (crossV ax ay bx by' dx dy) := ⟨_, rfl⟩
  rw [← em] at hm HO
  have e1 : sgn (crossV ax ay bx by' cx cy) * sgn (crossV ax ay bx by' dx dy) = m := em.symm
  have e2 : IntKind.i64.wrap m = m := IntWalk.i64_in _ (by omega)
  have e3 : wrap64 m = m := wrap_id (by omega)
  clear m1 m2 hm em ha hb hc hd
  go_enter Try.func140, Try.ntmps140
  go_wp2_with fail
  obtain ⟨w1, t1, b1, h1⟩ : ∃ w1, Four w1 w.heap.size ax ay bx by' cx cy dx dy 46 ∧ Below w.heap.size w w1 ∧ w1 = _ := ⟨_, four0 w ax ay bx by' cx cy dx dy 46, below4 w _ _ _ _, rfl⟩
  rw [← h1]
  clear h1
  have c1 := t1.1.c0; have c2 := t1.1.c1; have c3 := t1.2.1.c0; have c4 := t1.2.1.c1; have c5 := t1.2.2.1.c0; have c6 := t1.2.2.1.c1; have c7 := t1.2.2.2.c0; have c8 := t1.2.2.2.c1
  have k1 := cell_regrown c1; have k2 := cell_regrown c2; have k3 := cell_regrown c3; have k4 := cell_regrown c4; have k5 := cell_regrown c5; have k6 := cell_regrown c6; have k7 := cell_regrown c7; have k8 := cell_regrown c8
  refine wp_region_quiet_below (by kernel_rfl) (by kernel_rfl) ?_
  repeat (first
    | go_big_quiet_step (first | exact Calls.regrown_of (impl_side _ _ _ _ _ _ _))
    | quiet_step (first | exact Calls.regrown_of (impl_side _ _ _ _ _ _ _)))
  refine wpQuiet_nil ?_
  rintro _ ⟨⟨dq, osq⟩, rfl⟩
  have b2 := b1.trans ((below_regrown w1 dq osq).mono b1.size)
  clear k1 k2 k3 k4 k5 k6 k7 k8 c1 c2 c3 c4 c5 c6 c7 c8 t1 b1
  go_wp2_with fail
  go_ret
  exact ⟨ret_bool (by rw [HO.out]), b2⟩
theorem okQ_pair (x y : Int) : okQ (x, y) = okP x y := rfl
set_option maxRecDepth 100000 in
set_option maxHeartbeats 4000000 in
theorem impl_meet (ax ay bx by' cx cy dx dy : Int) (w : World) :
    Calls Try.prog 116 #[(.agg #[.int .i64 ax, .int .i64 ay]), (.agg #[.int .i64 bx, .int .i64 by']), (.agg #[.int .i64 cx, .int .i64 cy]), (.agg #[.int .i64 dx, .int .i64 dy])] w fun e w' => e = .returned (.int .i64 (meetV (ax, ay) (bx, by') (cx, cy) (dx, dy))) ∧ Below w.heap.size w w' := by
  have HP := Lib.hid (pts4 w ax ay bx by' cx cy dx dy)
  have GP := guard_pt
  have EP := fun w x y x' y' => eql_pt w x y x' y'
  go_enter Try.func116, Try.ntmps116
  go_wp2_with fail
  refine (all_any _ _ [(ax, ay), (bx, by'), (cx, cy), (dx, dy)] _ HP.out (by simp) (by simp)).mono ?_
  rintro e w1 ⟨rfl, hb1⟩
  have t1 := ((four0 w ax ay bx by' cx cy dx dy 46).alloc _).step hb1
  have b1 := below_on ((below4 w _ _ _ _).alloc (by simp; omega) _) hb1
  clear hb1 HP
  have HO := Lib.hid (all4 ax ay bx by' cx cy dx dy)
  cases hok : allOk [(ax, ay), (bx, by'), (cx, cy), (dx, dy)]
  · go_wp2_with fail
    go_ret
    exact ⟨ret_int (by simp only [meetV, okQ_pair]; rw [← HO.out, hok]; rfl), b1⟩
  have hok2 := HO.out.symm
  rw [hok] at hok2
  simp only [Bool.and_eq_true] at hok2
  obtain ⟨⟨⟨ha, hb⟩, hc⟩, hd⟩ := hok2
  have c1 := t1.1.c0; have c2 := t1.1.c1; have c3 := t1.2.1.c0; have c4 := t1.2.1.c1; have c5 := t1.2.2.1.c0; have c6 := t1.2.2.1.c1; have c7 := t1.2.2.2.c0; have c8 := t1.2.2.2.c1
  cases hab : (ax == bx && ay == by')
  case true =>
    go_wp2_with fail
    go_ret
    exact ⟨ret_int (by simp only [meetV, okQ_pair, eqQ]; rw [← HO.out, hok, hab]; rfl), b1⟩
  cases hcd : (cx == dx && cy == dy)
  case true =>
    go_wp2_with fail
    go_ret
    exact ⟨ret_int (by simp only [meetV, okQ_pair, eqQ]; rw [← HO.out, hok, hab, hcd]; rfl), b1⟩
  have HM : Hid (meetV (ax, ay) (bx, by') (cx, cy) (dx, dy) = meetI (ax, ay) (bx, by') (cx, cy) (dx, dy)) := by
    show _ = _
    simp only [meetV, okQ_pair, eqQ]; rw [← HO.out, hok, hab, hcd]; rfl
  have HC := Lib.hid (fun w => count_any ax ay bx by' cx cy dx dy w ha hb hc hd)
  have H1 := Lib.hid (fun w => parts_any ax ay bx by' cx cy dx dy w ha hb hc hd)
  have H2 := Lib.hid (fun w => parts_any cx cy dx dy ax ay bx by' w hc hd ha hb)
  clear ha hb hc hd
  go_wp2_with fail
  refine (HC.out _).mono ?_
  rintro e w2 ⟨rfl, hb2⟩
  have t2 := t1.step hb2
  have b2 := below_on b1 hb2
  clear hb2 t1 b1 c1 c2 c3 c4 c5 c6 c7 c8 hok hab hcd HO
  have hz := fun h => ends_zero (a := (ax, ay)) (b := (bx, by')) (c := (cx, cy)) (d := (dx, dy)) h
  have hs := fun h => ends_some (a := (ax, ay)) (b := (bx, by')) (c := (cx, cy)) (d := (dx, dy)) h
  generalize (endsE (ax, ay) (bx, by') (cx, cy) (dx, dy)).length = m at *
  have HZ := Lib.hid hz; have HS := Lib.hid hs
  clear hz hs
  rcases Nat.lt_or_ge m 1 with hm | hm
  · obtain rfl : m = 0 := by omega
    have HV := Lib.hid (HZ.out rfl)
    have c1 := t2.1.c0; have c2 := t2.1.c1; have c3 := t2.2.1.c0; have c4 := t2.2.1.c1; have c5 := t2.2.2.1.c0; have c6 := t2.2.2.1.c1; have c7 := t2.2.2.2.c0; have c8 := t2.2.2.2.c1
    clear hm
    go_wp2_with fail
    refine (H1.out _).mono ?_
    rintro e w3 ⟨rfl, hb3⟩
    have t3 := t2.step hb3
    have b3 := below_on b2 hb3
    clear hb3 t2 b2 c1 c2 c3 c4 c5 c6 c7 c8
    cases ho : opp (ax, ay) (bx, by') (cx, cy) (dx, dy)
    · go_wp2_with fail
      go_ret
      exact ⟨ret_int (by rw [HM.out, HV.out, ho]; rfl), b3⟩
    have c1 := t3.1.c0; have c2 := t3.1.c1; have c3 := t3.2.1.c0; have c4 := t3.2.1.c1; have c5 := t3.2.2.1.c0; have c6 := t3.2.2.1.c1; have c7 := t3.2.2.2.c0; have c8 := t3.2.2.2.c1
    go_wp2_with fail
    refine (H2.out _).mono ?_
    rintro e w4 ⟨rfl, hb4⟩
    have b4 := below_on b3 hb4
    clear hb4 t3 b3 c1 c2 c3 c4 c5 c6 c7 c8
    cases ho2 : opp (cx, cy) (dx, dy) (ax, ay) (bx, by')
    · go_wp2_with fail
      go_ret
      exact ⟨ret_int (by rw [HM.out, HV.out, ho, ho2]; rfl), b4⟩
    · go_wp2_with fail
      go_ret
      exact ⟨ret_int (by rw [HM.out, HV.out, ho, ho2]; rfl), b4⟩
  · have HV := Lib.hid (HS.out hm)
    by_cases h1 : m = 1
    · subst h1
      clear hm
      go_wp2_with fail
      go_ret
      exact ⟨ret_int (by rw [HM.out, HV.out]; rfl), b2⟩
    · have e0 : ((m : Int) == 0) = false := by simp; omega
      have e1 : ((m : Int) == 1) = false := by simp; omega
      have HV2 : Hid (meetI (ax, ay) (bx, by') (cx, cy) (dx, dy) = 3) := by
        show _ = _
        rw [HV.out, if_neg h1]
      clear hm h1
      go_wp2_with fail
      go_ret
      exact ⟨ret_int (by rw [HM.out, HV2.out]), b2⟩
end Go.Proofs.Ytnkehfhedjdhaaa

/-! Keep -/
namespace Go.Proofs.Ytnkehfhedjdhaaa
open Go.RowKit Go.Shelf Go.Sort
attribute [local go_sem] Oper.semAt_some

theorem ownFrom_keepP {β : Type} {m B M : Nat} {W0 : World} (hm : m ≤ W0.heap.size) (hB : B < W0.heap.size) (hM : W0.heap.size ≤ M) : OwnFrom M (fun (_ : β) W => KeepP m B W0 W) :=
  fun _ X Y row hs hg hr => by
    have hX : B < X.heap.size := Nat.lt_of_lt_of_le hB hs.1.size
    refine keepP_t hs ⟨(Below.refl m X).grown hg (Nat.le_trans hm hs.1.size) (fun k e => by have := (hr k e).1; omega), hg.block B hX (fun e => by have := (hr _ e.symm).1; omega)⟩
theorem boxed_side {W W' : World} {B : Nat} {L : List (Int × Int)} {i : Nat} (h : SideAt W B L i) (hb : Below W.heap.size W W') : SideAt W' B L i := (hb.block B h.lt).trans h
theorem boxed_same {W W' : World} {B : Nat} {t : TypeId} {v : Value} (h : Boxed W B t v) (hb : W'.heap[B]? = W.heap[B]?) : Boxed W' B t v := hb.trans h

/-- How the sides i < k of n have to meet. -/
def needI (i k n : Int) : Int := bif wrap64 (k - i) == 1 || wrap64 (k - i) == n - 1 then 1 else 0
theorem need_any (i k n : Int) (w : World) (hn : 0 ≤ n ∧ n ≤ 100) :
    Calls Try.prog 117 #[.int .i64 i, .int .i64 k, .int .i64 n] w fun e w' => e = .returned (.int .i64 (needI i k n)) ∧ w' = w := by
  obtain ⟨d, hd⟩ : ∃ d, d = wrap64 (k - i) := ⟨_, rfl⟩
  have HV : Hid (needI i k n = bif d == 1 || d == n - 1 then 1 else 0) := by
    show _ = _
    rw [hd]; rfl
  have hd2 : wrap64 (k - i) = d := hd.symm
  clear hd
  cases h1 : (d == 1)
  · cases h2 : (d == n - 1)
    all_goals
      rw [h1, h2] at HV
      go_enter Try.func117, Try.ntmps117
      go_wp2_with fail
      go_ret
      exact ⟨ret_int (by rw [HV.out]; rfl), rfl⟩
  · rw [h1] at HV
    go_enter Try.func117, Try.ntmps117
    go_wp2_with fail
    go_ret
    exact ⟨ret_int (by rw [HV.out]; rfl), rfl⟩

theorem need_below (i k n : Int) (w : World) (hn : 0 ≤ n ∧ n ≤ 100) :
    Calls Try.prog 117 #[.int .i64 i, .int .i64 k, .int .i64 n] w fun e w' => e = .returned (.int .i64 (needI i k n)) ∧ Below w.heap.size w w' :=
  (need_any i k n w hn).mono fun _ _ ⟨he, hw⟩ => ⟨he, by rw [hw]; exact Below.refl _ _⟩
theorem meet_pt (a b c d : Int × Int) (w : World) :
    Calls Try.prog 116 #[(.agg #[.int .i64 a.1, .int .i64 a.2]), (.agg #[.int .i64 b.1, .int .i64 b.2]), (.agg #[.int .i64 c.1, .int .i64 c.2]), (.agg #[.int .i64 d.1, .int .i64 d.2])] w fun e w' => e = .returned (.int .i64 (meetV a b c d)) ∧ Below w.heap.size w w' :=
  impl_meet a.1 a.2 b.1 b.2 c.1 c.2 d.1 d.2 w

theorem pts_of {w : World} {g : Nat} {L : List (Int × Int)} (h : PtsA w (some ⟨g, 0, none⟩) L) : Pts w g L := fun k hk => by
  have := gt_cells h hk
  rw [gt_at hk] at this
  exact this

def cellB (L : List (Int × Int)) (i k : Nat) : Bool := !(decide (i < k)) || (meetV (gt L i) (gt L (nx L i)) (gt L k) (gt L (nx L k)) == needI i k L.length)
def rowB (L : List (Int × Int)) (i : Nat) : Bool := (List.range L.length).all (cellB L i)
def keepB (L : List (Int × Int)) : Bool := (List.range L.length).all (rowB L)

set_option maxRecDepth 100000 in
set_option maxHeartbeats 8000000 in
theorem keep_any (A : Option Addr) (c : Nat) (L : List (Int × Int)) (w : World) (hA : PtsA w A L) (h1 : 1 ≤ L.length) (h2 : L.length ≤ 100) :
    Calls Try.prog 77 #[.slice A L.length c] w fun e w' => e = .returned (.bool (keepB L)) ∧ Below w.heap.size w w' := by
  refine (callsIn_wide (n := 9)).1 ?_
  refine callsIn_of_wp_marks Try.func77 rfl trivial ?_ rfl
  simp only [Try.ntmps77, List.size_toArray, List.length_cons, List.length_nil, Nat.reduceAdd, Nat.reduceSub, Array.replicate_succ, Array.replicate_zero, List.push_toArray, List.append_toArray, List.nil_append, List.cons_append]
  gi_wp2
  refine ⟨trivial, (wide0.calls (sides_any A L.length c _)).mono ?_⟩
  rintro e w2 ⟨rfl, rfl⟩
  gi_wp2
  have bP := ((Boxed.new w 39 (.slice A L.length c)).alloc (.cells #[.bool false] 4)).alloc (.cells #[.slice A L.length c] 39)
  have bR := (Boxed.new (w.alloc (.cells #[.slice A L.length c] 39)) 4 (.bool false)).alloc (.cells #[.slice A L.length c] 39)
  have bS := Boxed.new ((w.alloc (.cells #[.slice A L.length c] 39)).alloc (.cells #[.bool false] 4)) 39 (.slice A L.length c)
  simp only [World.size_alloc] at bR bS
  have hB0 : Below w.heap.size w (((w.alloc (.cells #[.slice A L.length c] 39)).alloc (.cells #[.bool false] 4)).alloc (.cells #[.slice A L.length c] 39)) := below3 _ _ _ _
  have hsz : (((w.alloc (.cells #[.slice A L.length c] 39)).alloc (.cells #[.bool false] 4)).alloc (.cells #[.slice A L.length c] 39)).heap.size = w.heap.size + 3 := by simp
  obtain ⟨W0, hW0⟩ : ∃ W0, ((w.alloc (.cells #[.slice A L.length c] 39)).alloc (.cells #[.bool false] 4)).alloc (.cells #[.slice A L.length c] 39) = W0 := ⟨_, rfl⟩
  rw [hW0] at bP bR bS hB0 hsz ⊢
  clear hW0
  refine wpIn_rangeFunc_ownH rfl (by decide) (gf := 118) (lb := #[.pointer (some ⟨w.heap.size + 1 + 1, 0, none⟩)]) rfl trivial (enters_of Try.func118 (by kernel_rfl) rfl)
    (sides_stops 8 (w.heap.size + 1 + 1) A c L w W0 (by omega) (by omega) hA hB0 (by omega) bS.cell) keepP_t (keepP_b (by omega) (by omega)) (Below.refl _ _) (fun _ => rfl)
    (fun pre W => ((((∀ i ∈ pre, rowB L i = true) ∧ Boxed W (w.heap.size + 1) 4 (.bool false)) ∧ Boxed W w.heap.size 39 (.slice A L.length c)) ∧ Boxed W (w.heap.size + 1 + 1) 39 (.slice A L.length c)) ∧ Below w.heap.size w W)
    (fun co pre W => ((co = .ret ∧ ∃ i ∈ pre, rowB L i = false) ∧ Boxed W (w.heap.size + 1) 4 (.bool false)) ∧ Below w.heap.size w W)
    (OwnFrom.and (OwnFrom.and (OwnFrom.and (OwnFrom.and (ownFrom_pure _ _) (Own.from (boxed_own _ _ _) _)) (Own.from (boxed_own _ _ _) _)) (Own.from (boxed_own _ _ _) _)) (ownFrom_below (Nat.le_refl _) (by omega)))
    (fun co => OwnFrom.and (OwnFrom.and (ownFrom_pure _ _) (Own.from (boxed_own _ _ _) _)) (ownFrom_below (Nat.le_refl _) (by omega)))
    ⟨⟨⟨⟨by simp, bR⟩, bP⟩, bS⟩, hB0⟩
    (fun x a' W => ∃ Bi Bs, (w.heap.size + 1 + 1 < Bi ∧ Bi < Bs) ∧ Boxed W Bi 3 (.int .i64 (x : Int)) ∧ SideAt W Bs L x ∧ a' = { tmps := #[.slice A L.length c, .pointer (some ⟨w.heap.size, 0, none⟩), .pointer (some ⟨w.heap.size + 1, 0, none⟩), .pointer (some ⟨Bi, 0, none⟩), .pointer (some ⟨Bs, 0, none⟩), undef, undef, .slice A L.length c, .func (.func 118) #[] #[.pointer (some ⟨w.heap.size + 1 + 1, 0, none⟩)], .int .i64 (x : Int), .agg #[.int .i64 (gt L x).1, .int .i64 (gt L x).2, .int .i64 (gt L (nx L x)).1, .int .i64 (gt L (nx L x)).2], undef, undef, undef, undef, undef, undef, undef, undef, undef, undef, undef, undef, undef, undef, undef, undef, undef, undef, undef, undef, undef, undef, undef, undef], defers := [] })
    (fun x a' _ X Y row hs hg hr => by obtain ⟨Bi, Bs, e1, e2, e3, e4⟩ := hs; exact ⟨Bi, Bs, e1, boxed_own Bi 3 (fun (_ : Unit) => Value.int .i64 (x : Int)) () X Y row e2 hg (fun r e => (hr r e).2), sideAt_own Bs L x _ () X Y row e3 hg hr, e4⟩)
    ?assign ?body ?done ?stop
  case assign =>
    rintro l pre x W K ⟨⟨⟨⟨hp, bR1⟩, bP1⟩, bS1⟩, hB1⟩ hK
    simp only [sideV]
    gi_wp2
    have hs2 := hB1.size
    have hb2 := below2 W (.cells #[.int .i64 (x : Int)] 3) (.cells #[.int .i64 (gt L x).1, .int .i64 (gt L x).2, .int .i64 (gt L (nx L x)).1, .int .i64 (gt L (nx L x)).2] 100)
    exact hK _ _ (keepsFrom_below hb2) (KeepP.of_below hb2 hs2 bS1.lt) ⟨⟨⟨⟨hp, boxed_on bR1 hb2⟩, boxed_on bP1 hb2⟩, boxed_on bS1 hb2⟩, hB1.trans (hb2.mono hs2)⟩
      ⟨W.heap.size, W.heap.size + 1, ⟨bS1.lt, by omega⟩, (Boxed.new W 3 _).alloc _, by have := sideAt_new (W.alloc (.cells #[.int .i64 (x : Int)] 3)) L x; rwa [World.size_alloc] at this, rfl⟩
  case body =>
    rintro l pre x a' W hl ⟨r, hr⟩ ⟨⟨⟨⟨hp, bR1⟩, bP1⟩, bS1⟩, hB1⟩ ⟨Bi, Bs, ⟨hBi, hBs⟩, bI, sX, rfl⟩ hlt
    have cP := bP1.cell
    gi_wp2
    refine ⟨trivial, ((wideR l).calls (sides_any A L.length c _)).mono ?_⟩
    rintro e w' ⟨rfl, rfl⟩
    gi_wp2
    have hsW := hB1.size
    have bN := Boxed.new W 39 (.slice A L.length c)
    have hr' : (W.alloc (.cells #[.slice A L.length c] 39)).heap[l]? = some (.loop r) := (Below.heap_alloc W _ l (Array.getElem?_eq_some_iff.1 hr).1).trans hr
    have hS1 := bS1.lt
    have hW1 := below1 W (.cells #[.slice A L.length c] 39)
    refine wpIn_rangeFunc_ownN (l₀ := l) (r₀ := r) rfl hr' (by decide) (gf := 118) (lb := #[.pointer (some ⟨W.heap.size, 0, none⟩)]) rfl trivial (enters_of Try.func118 (by kernel_rfl) rfl)
      ((sides_stops 6 W.heap.size A c L w _ (by omega) (by omega) hA (hB1.trans (hW1.mono hsW)) (by simp) bN.cell).inRound l) keepP_t (keepP_b (by simp; omega) (by simp)) (Below.refl _ _) (fun _ => rfl)
      (fun pre' W' => (((((∀ k ∈ pre', cellB L x k = true) ∧ Boxed W' (w.heap.size + 1) 4 (.bool false)) ∧ Boxed W' w.heap.size 39 (.slice A L.length c)) ∧ Boxed W' Bi 3 (.int .i64 (x : Int))) ∧ (Boxed W' W.heap.size 39 (.slice A L.length c) ∧ SideAt W' Bs L x)) ∧ (KeepP w.heap.size (w.heap.size + 1 + 1) W W' ∧ KeepsFrom W0.heap.size W W'))
      (fun co pre' W' => ((co = .ret ∧ ∃ k ∈ pre', cellB L x k = false) ∧ Boxed W' (w.heap.size + 1) 4 (.bool false)) ∧ (KeepP w.heap.size (w.heap.size + 1 + 1) W W' ∧ KeepsFrom W0.heap.size W W'))
      (OwnFrom.and (OwnFrom.and (OwnFrom.and (OwnFrom.and (OwnFrom.and (ownFrom_pure _ _) (Own.from (boxed_own _ _ _) _)) (Own.from (boxed_own _ _ _) _)) (Own.from (boxed_own _ _ _) _)) (OwnFrom.and (Own.from (boxed_own _ _ _) _) (fun s X Y row hs hg hr => sideAt_own Bs L x _ () X Y row hs hg hr))) (OwnFrom.and (ownFrom_keepP hsW hS1 (by simp)) (ownFrom_keepsFrom (by simp))))
      (fun co => OwnFrom.and (OwnFrom.and (ownFrom_pure _ _) (Own.from (boxed_own _ _ _) _)) (OwnFrom.and (ownFrom_keepP hsW hS1 (by simp)) (ownFrom_keepsFrom (by simp))))
      ⟨⟨⟨⟨⟨by simp, bR1.alloc _⟩, bP1.alloc _⟩, bI.alloc _⟩, bN, boxed_side sX hW1⟩, KeepP.of_below hW1 hsW hS1, keepsFrom_below hW1⟩
      (fun y a'' W' => ∃ Bt, W.heap.size < Bt ∧ SideAt W' Bt L y ∧ a'' = { tmps := #[.slice A L.length c, .pointer (some ⟨w.heap.size, 0, none⟩), .pointer (some ⟨w.heap.size + 1, 0, none⟩), .pointer (some ⟨Bi, 0, none⟩), .pointer (some ⟨Bs, 0, none⟩), .int .i64 (y : Int), .pointer (some ⟨Bt, 0, none⟩), .slice A L.length c, .func (.func 118) #[] #[.pointer (some ⟨w.heap.size + 1 + 1, 0, none⟩)], .int .i64 (x : Int), .agg #[.int .i64 (gt L x).1, .int .i64 (gt L x).2, .int .i64 (gt L (nx L x)).1, .int .i64 (gt L (nx L x)).2], .slice A L.length c, .func (.func 118) #[] #[.pointer (some ⟨W.heap.size, 0, none⟩)], .int .i64 (y : Int), .agg #[.int .i64 (gt L y).1, .int .i64 (gt L y).2, .int .i64 (gt L (nx L y)).1, .int .i64 (gt L (nx L y)).2], undef, undef, undef, undef, undef, undef, undef, undef, undef, undef, undef, undef, undef, undef, undef, undef, undef, undef, undef, undef], defers := [] })
      (fun y a'' _ X Y row hs hg hr => by obtain ⟨Bt, e1, e2, e3⟩ := hs; exact ⟨Bt, e1, sideAt_own Bt L y _ () X Y row e2 hg hr, e3⟩)
      ?assign2 ?body2 ?done2 ?stop2
    case assign2 =>
      rintro l2 pre' y W' K ⟨⟨⟨⟨⟨hq, bR2⟩, bP2⟩, bI2⟩, bN2, sX2⟩, hKP, hKF⟩ hK
      simp only [sideV]
      gi_wp2
      have hb2 := below1 W' (.cells #[.int .i64 (gt L y).1, .int .i64 (gt L y).2, .int .i64 (gt L (nx L y)).1, .int .i64 (gt L (nx L y)).2] 100)
      have hs2 := hKP.1.size
      exact hK _ _ (keepsFrom_below hb2) (KeepP.of_below hb2 (by omega) bN2.lt) ⟨⟨⟨⟨⟨hq, bR2.alloc _⟩, bP2.alloc _⟩, bI2.alloc _⟩, bN2.alloc _, boxed_side sX2 hb2⟩, keepP_t hKP (KeepP.of_below hb2 (by omega) (by omega)), hKF.trans (keepsFrom_below hb2)⟩
        ⟨W'.heap.size, bN2.lt, sideAt_new W' L y, rfl⟩
    case body2 =>
      rintro l2 pre' y a'' W' - - ⟨⟨⟨⟨⟨hq, bR2⟩, bP2⟩, bI2⟩, bN2, sX2⟩, hKP, hKF⟩ ⟨Bt, hBt, sY2, rfl⟩ -
      have cR := bR2.cell
      have fR := bR2.frozen
      have cI := bI2.cell
      have cP2 := bP2.cell
      obtain ⟨x0, x1, x2, x3⟩ := sX2.cells
      obtain ⟨y0, y1, y2, y3⟩ := sY2.cells
      have HC : Hid (cellB L x y = (!(decide (x < y)) || (meetV (gt L x) (gt L (nx L x)) (gt L y) (gt L (nx L y)) == needI x y L.length))) := rfl
      obtain ⟨mv, hmv⟩ : ∃ mv, mv = meetV (gt L x) (gt L (nx L x)) (gt L y) (gt L (nx L y)) := ⟨_, rfl⟩
      obtain ⟨nv, hnv⟩ : ∃ nv, nv = needI x y L.length := ⟨_, rfl⟩
      have HM := Lib.hid (fun W => meet_pt (gt L x) (gt L (nx L x)) (gt L y) (gt L (nx L y)) W)
      have HN := Lib.hid (fun W => need_below (x : Int) (y : Int) (L.length : Int) W (by omega))
      rw [← hmv] at HC HM
      rw [← hnv] at HC HN
      clear hmv hnv
      have k0 := cell_regrown x0; have k1 := cell_regrown x1; have k2 := cell_regrown x2; have k3 := cell_regrown x3
      have k4 := cell_regrown y0; have k5 := cell_regrown y1; have k6 := cell_regrown y2; have k7 := cell_regrown y3
      have k8 := cell_regrown cI; have k9 := cell_regrown cP2
      by_cases hxy : x < y
      · have dxy : decide ((x : Int) < (y : Int)) = true := by simpa using hxy
        rw [decide_eq_true hxy, Bool.not_true, Bool.false_or] at HC
        by_cases hmn : mv = nv
        · subst hmn
          have HT : Hid (cellB L x y = true) := by
            show _ = _
            rw [HC.out]; simp
          clear HC
          gi_wp2
          refine region_quiet_in (wideR l2) (by kernel_rfl) (by kernel_rfl) (by kernel_rfl) ?_
          repeat (first
            | go_big_quiet_step (first | exact Calls.regrown_of (HM.out _) | exact Calls.regrown_of (HN.out _))
            | quiet_step (first | exact Calls.regrown_of (HM.out _) | exact Calls.regrown_of (HN.out _)))
          refine wpQuiet_nil ?_
          rintro _ ⟨⟨dq, osq⟩, rfl⟩
          have hg := below_regrown W' dq osq
          have hs2 := hKP.1.size
          clear k0 k1 k2 k3 k4 k5 k6 k7 k8 k9
          generalize grow (redrawn W' dq) osq = W2 at *
          gi_wp2
          exact ⟨keepsFrom_below hg, KeepP.of_below hg (by omega) bN2.lt, ⟨⟨⟨⟨fun z hz => (List.mem_append.1 hz).elim (hq z) (fun e => by simp at e; subst e; exact HT.out), boxed_on bR2 hg⟩, boxed_on bP2 hg⟩, boxed_on bI2 hg⟩, boxed_on bN2 hg, boxed_side sX2 hg⟩,
            keepP_t hKP (KeepP.of_below hg (by omega) (by omega)), hKF.trans (keepsFrom_below hg)⟩
        · have HT : Hid (cellB L x y = false) := by
            show _ = _
            rw [HC.out]; simpa using hmn
          have dmn : (mv != nv) = true := by simpa using hmn
          clear HC
          gi_wp2
          refine region_quiet_in (wideR l2) (by kernel_rfl) (by kernel_rfl) (by kernel_rfl) ?_
          repeat (first
            | go_big_quiet_step (first | exact Calls.regrown_of (HM.out _) | exact Calls.regrown_of (HN.out _))
            | quiet_step (first | exact Calls.regrown_of (HM.out _) | exact Calls.regrown_of (HN.out _)))
          refine wpQuiet_nil ?_
          rintro _ ⟨⟨dq, osq⟩, rfl⟩
          have hg := below_regrown W' dq osq
          have hs2 := hKP.1.size
          clear k0 k1 k2 k3 k4 k5 k6 k7 k8 k9
          have bR3 := boxed_on bR2 hg
          generalize grow (redrawn W' dq) osq = W2 at *
          have cR3 := bR3.cell
          have fR3 := bR3.frozen
          gi_wp2
          exact ⟨(keepsFrom_below hg).trans ((KeepsOthers.setCell _ _ _).from _), ⟨⟨rfl, y, List.mem_append.2 (.inr (by simp)), HT.out⟩, bR3.set _⟩,
            keepP_t hKP ((KeepP.of_below hg (by omega) (by omega)).setCell (by omega) (by omega) _ _), hKF.trans ((keepsFrom_below hg).trans ((KeepsOthers.setCell _ _ _).from _))⟩
      · have dxy : decide ((x : Int) < (y : Int)) = false := by simpa using hxy
        have HT : Hid (cellB L x y = true) := by
          show _ = _
          rw [HC.out, decide_eq_false hxy]; rfl
        clear HC
        gi_wp2
        refine region_quiet_in (wideR l2) (by kernel_rfl) (by kernel_rfl) (by kernel_rfl) ?_
        repeat (first
          | go_big_quiet_step (first | exact Calls.regrown_of (HM.out _) | exact Calls.regrown_of (HN.out _))
          | quiet_step (first | exact Calls.regrown_of (HM.out _) | exact Calls.regrown_of (HN.out _)))
        refine wpQuiet_nil ?_
        rintro _ ⟨⟨dq, osq⟩, rfl⟩
        have hg := below_regrown W' dq osq
        have hs2 := hKP.1.size
        clear k0 k1 k2 k3 k4 k5 k6 k7 k8 k9
        generalize grow (redrawn W' dq) osq = W2 at *
        gi_wp2
        exact ⟨keepsFrom_below hg, KeepP.of_below hg (by omega) bN2.lt, ⟨⟨⟨⟨fun z hz => (List.mem_append.1 hz).elim (hq z) (fun e => by simp at e; subst e; exact HT.out), boxed_on bR2 hg⟩, boxed_on bP2 hg⟩, boxed_on bI2 hg⟩, boxed_on bN2 hg, boxed_side sX2 hg⟩,
          keepP_t hKP (KeepP.of_below hg (by omega) (by omega)), hKF.trans (keepsFrom_below hg)⟩
    case done2 =>
      rintro ys' W' rfl ⟨⟨⟨⟨⟨hq, bR2⟩, bP2⟩, bI2⟩, bN2, sX2⟩, hKP, hKF⟩
      gi_wp2
      have hrow : rowB L x = true := by
        simp only [rowB, List.all_eq_true]
        exact hq
      exact ⟨hKF, hKP, ⟨⟨⟨⟨fun z hz => (List.mem_append.1 hz).elim (hp z) (fun e => by simp at e; subst e; exact hrow), bR2⟩, bP2⟩, boxed_same bS1 hKP.2⟩, hB1.trans hKP.1⟩⟩
    case stop2 =>
      rintro co pre' W' ⟨k, hk, rfl⟩ ⟨⟨⟨rfl, j, hj, hjb⟩, bR2⟩, hKP, hKF⟩
      gi_wp2
      have hrow : rowB L x = false := by
        simp only [rowB, List.all_eq_false]
        exact ⟨j, by simp only [List.mem_range] at hj ⊢; omega, by rw [hjb]; exact Bool.false_ne_true⟩
      exact ⟨hKF, ⟨⟨rfl, x, List.mem_append.2 (.inr (by simp)), hrow⟩, bR2⟩, hB1.trans hKP.1⟩
  case done =>
    rintro D zs W hD rfl ⟨⟨⟨⟨hp, bR1⟩, bP1⟩, bS1⟩, hB1⟩ hK
    have cR := bR1.cell
    have fR := bR1.frozen
    gi_wp2
    have hK' := (KeepsOthers.setCell W ⟨w.heap.size + 1, 0, none⟩ (.bool true)).same D _ hK rfl
    refine ⟨by simp, .inl ⟨_, _, rfl, run_takeDeferred hK', ?_⟩⟩
    have hc5 := cell_kept (bR1.set (.bool true)).cell (grownBy_putObj' _ D (.deferred none)) (fun r e => by cases e; exact ⟨_, hK', rfl⟩)
    have hkeep : keepB L = true := by
      simp only [keepB, List.all_eq_true]
      exact hp
    refine ⟨.bool true, ?_, by rw [hkeep], (hB1.setCell (p := ⟨w.heap.size + 1, 0, none⟩) (by simp) _).trans (belowK_b (w := w) (Nat.le_refl _) _ D _ _ (by omega) hK' rfl rfl)⟩
    simp [results, Try.f77, go_sem, hc5]
  case stop =>
    rintro D co pre W hD ⟨k, hk, rfl⟩ ⟨⟨⟨rfl, j, hj, hjb⟩, bR1⟩, hB1⟩ hK
    gi_wp2
    refine ⟨by simp, .inl ⟨_, _, rfl, run_takeDeferred hK, ?_⟩⟩
    have hc5 := cell_kept bR1.cell (grownBy_putObj' _ D (.deferred none)) (fun r e => by cases e; exact ⟨_, hK, rfl⟩)
    have hkeep : keepB L = false := by
      simp only [keepB, List.all_eq_false]
      exact ⟨j, by simp only [List.mem_range] at hj ⊢; omega, by rw [hjb]; exact Bool.false_ne_true⟩
    refine ⟨.bool false, ?_, by rw [hkeep], hB1.trans (belowK_b (w := w) (Nat.le_refl _) _ D _ _ (by omega) hK rfl rfl)⟩
    simp [results, Try.f77, go_sem, hc5]

theorem need_adj {i k n : Nat} (h1 : i < k) (h2 : k < n) (hn : n ≤ 100) : needI i k n = bif adjB n i k then 1 else 0 := by
  have e : wrap64 ((k : Int) - i) = (k : Int) - i := IntWalk.wrap64_in _ (by omega)
  have e1 : ((k : Int) - i == 1 || (k : Int) - i == n - 1) = adjB n i k := by
    rw [Bool.eq_iff_iff]
    simp only [adjB, Bool.or_eq_true, Bool.and_eq_true, beq_iff_eq]
    omega
  rw [needI, e, e1]
theorem meetV_ok {L : List (Int × Int)} (hok : allOk L = true) (i k : Nat) :
    meetV (gt L i) (gt L (nx L i)) (gt L k) (gt L (nx L k)) = bif !(eqQ (gt L i) (gt L (nx L i))) && !(eqQ (gt L k) (gt L (nx L k))) then pairM L i k else 0 := by
  have h := fun j => gt_ok hok j
  unfold meetV okQ
  rw [h i, h (nx L i), h k, h (nx L k)]
  rfl
theorem keep_eq {L : List (Int × Int)} (hin : inB (L.length : Int) 3 10 = true) (hok : allOk L = true) : keepB L = (nbB L && pairsB L) := by
  have hn := inB_spec.1 hin
  rw [Bool.eq_iff_iff]
  simp only [Bool.and_eq_true]
  constructor
  · intro hk
    have hc : ∀ i k, i < k → k < L.length → meetV (gt L i) (gt L (nx L i)) (gt L k) (gt L (nx L k)) = bif adjB L.length i k then 1 else 0 := fun i k h1 h2 => by
      have h3 := List.all_eq_true.1 hk i (List.mem_range.2 (by omega))
      have h4 := List.all_eq_true.1 h3 k (List.mem_range.2 h2)
      unfold cellB at h4
      rw [decide_eq_true h1, Bool.not_true, Bool.false_or, beq_iff_eq, need_adj h1 h2 (by omega)] at h4
      exact h4
    have hnb : ∀ i, i < L.length → eqQ (gt L i) (gt L (nx L i)) = false := fun i hi => by
      cases he : eqQ (gt L i) (gt L (nx L i))
      · rfl
      · rcases Nat.lt_or_ge (i + 1) L.length with h | h
        · have := hc i (i + 1) (by omega) h
          rw [meetV_ok hok, he] at this
          simp [adjB] at this
        · have h0 : i = L.length - 1 := by omega
          have := hc 0 i (by omega) hi
          rw [meetV_ok hok, he] at this
          simp [adjB, h0] at this
    refine ⟨nb_true hnb, pairs_true fun i hi k hik hk => ?_⟩
    have := hc i k hik hk
    rw [meetV_ok hok, hnb i hi, hnb k hk] at this
    simp only [Bool.not_false, Bool.and_self, cond_true] at this
    unfold pairOk
    rw [this]
    cases adjB L.length i k <;> rfl
  · rintro ⟨h1, h2⟩
    have hnb : ∀ i, i < L.length → eqQ (gt L i) (gt L (nx L i)) = false := fun i hi => by
      have := List.all_eq_true.1 h1 i (List.mem_range.2 hi)
      show eqQ (gt L i) (gt L ((i + 1) % L.length)) = false
      simpa using this
    simp only [keepB, List.all_eq_true, List.mem_range]
    intro i hi
    simp only [rowB, List.all_eq_true, List.mem_range]
    intro k hk
    unfold cellB
    by_cases hik : i < k
    · rw [decide_eq_true hik, Bool.not_true, Bool.false_or, beq_iff_eq, need_adj hik hk (by omega), meetV_ok hok, hnb i hi, hnb k hk]
      simp only [Bool.not_false, Bool.and_self, cond_true]
      have h3 := List.all_eq_true.1 (List.all_eq_true.1 h2 i (List.mem_range.2 hi)) k (List.mem_range.2 hk)
      simp only [Bool.or_eq_true, decide_eq_true_eq] at h3
      rcases h3 with h3 | h3
      · omega
      · unfold pairOk at h3
        cases ha : adjB L.length i k
        · rw [ha] at h3; simpa using h3
        · rw [ha] at h3; simpa using h3
    · rw [decide_eq_false hik]; rfl

set_option maxRecDepth 100000 in
set_option maxHeartbeats 800000 in
theorem impl_poly (A : Option Addr) (c : Nat) (L : List (Int × Int)) (w : World) (hA : PtsA w A L) (hL : L.length ≤ 1048576) :
    Calls Try.prog 31 #[.slice A L.length c] w fun e w' => e = .returned (.bool (polyB L)) ∧ Below w.heap.size w w' := by
  cases hin : inB (L.length : Int) 3 10
  · have HV : Hid (polyB L = false) := by
      show _ = _
      rw [polyB, hin]; rfl
    go_enter Try.func31, Try.ntmps31
    go_wp2_with fail
    refine (from_any _ _ _ _).mono ?_
    rintro e w1 ⟨rfl, rfl⟩
    go_wp2_with fail
    go_ret
    exact ⟨ret_bool HV.out.symm, Below.refl _ _⟩
  have hn := inB_spec.1 hin
  obtain ⟨g, rfl, -⟩ := hA 0 (by omega)
  have hg : g < w.heap.size := by
    obtain ⟨g', hg', h1, -⟩ := hA 0 (by omega)
    cases hg'
    exact World.block_lt_of_cell? w _ h1
  have HP := Lib.hid (fun (W : World) (hb : Below w.heap.size w W) => all_any g c L W (pts_of (ptsA_on hA hb)) (Nat.lt_of_lt_of_le hg hb.size) hL)
  have HK := Lib.hid (fun (W : World) (hb : Below w.heap.size w W) => keep_any (some ⟨g, 0, none⟩) c L W (ptsA_on hA hb) (by omega) (by omega))
  cases hok : allOk L
  · have HV : Hid (polyB L = false) := by
      show _ = _
      rw [polyB, hin, hok]; rfl
    rw [hok] at HP
    clear hA HK
    go_enter Try.func31, Try.ntmps31
    go_wp2_with fail
    refine (from_any _ _ _ _).mono ?_
    rintro e w1 ⟨rfl, rfl⟩
    go_wp2_with fail
    refine (HP.out _ (Below.refl _ _)).mono ?_
    rintro e w2 ⟨rfl, hb2⟩
    go_wp2_with fail
    go_ret
    exact ⟨ret_bool HV.out.symm, hb2⟩
  · have HV : Hid (polyB L = keepB L) := by
      show _ = _
      rw [keep_eq hin hok, polyB, hin, hok]
      simp only [Bool.true_and]
    rw [hok] at HP
    clear hA
    go_enter Try.func31, Try.ntmps31
    go_wp2_with fail
    refine (from_any _ _ _ _).mono ?_
    rintro e w1 ⟨rfl, rfl⟩
    go_wp2_with fail
    refine (HP.out _ (Below.refl _ _)).mono ?_
    rintro e w2 ⟨rfl, hb2⟩
    go_wp2_with fail
    refine (HK.out _ hb2).mono ?_
    rintro e w3 ⟨rfl, hb3⟩
    go_wp2_with fail
    go_ret
    exact ⟨ret_bool HV.out.symm, hb2.trans (hb3.mono hb2.size)⟩
end Go.Proofs.Ytnkehfhedjdhaaa

/-! Rim -/
namespace Go.Proofs.Ytnkehfhedjdhaaa
open Go.RowKit

def onRim (L : List (Int × Int)) (p : Int × Int) : Bool := (List.range L.length).any fun i => onP (gt L i) (gt L (nx L i)) p
theorem onRim_true {L : List (Int × Int)} {p : Int × Int} {i : Nat} (hi : i < L.length) (h : onP (gt L i) (gt L (nx L i)) p = true) : onRim L p = true := by
  simp only [onRim, List.any_eq_true, List.mem_range]
  exact ⟨i, hi, h⟩
theorem onRim_false {L : List (Int × Int)} {p : Int × Int} (h : ∀ i, i < L.length → onP (gt L i) (gt L (nx L i)) p = false) : onRim L p = false := by
  cases hb : onRim L p
  · rfl
  · simp only [onRim, List.any_eq_true, List.mem_range] at hb
    obtain ⟨i, hi, h2⟩ := hb
    rw [h i hi] at h2; cases h2
/-- Does the side from corner i on flip what is inside at p? -/
def flipT (L : List (Int × Int)) (p : Int × Int) (i : Nat) : Bool :=
  (decide (p.2 < (gt L i).2) != decide (p.2 < (gt L (nx L i)).2)) && ((decide ((gt L i).2 < (gt L (nx L i)).2) && decide (0 < crossP (gt L i) (gt L (nx L i)) p)) || (decide ((gt L (nx L i)).2 < (gt L i).2) && decide (crossP (gt L i) (gt L (nx L i)) p < 0)))
def insT (f : Nat → Bool) : Nat → Bool
  | 0 => false
  | k + 1 => bif f k then !(insT f k) else insT f k
def insideB (L : List (Int × Int)) (p : Int × Int) : Bool := onRim L p || insT (flipT L p) L.length
end Go.Proofs.Ytnkehfhedjdhaaa

/-! Turn -/
namespace Go.Proofs.Ytnkehfhedjdhaaa
open Go.RowKit

/-- The first corner and then m of the others, from the last one back. -/
def turnTill (L : List (Int × Int)) (m : Nat) : List (Int × Int) := gt L 0 :: (List.range m).map fun (j : Nat) => gt L (L.length - 1 - j)
def turnL (L : List (Int × Int)) : List (Int × Int) := turnTill L (L.length - 1)
theorem turn_step (L : List (Int × Int)) (m : Nat) : turnTill L (m + 1) = turnTill L m ++ [gt L (L.length - 1 - m)] := by
  simp [turnTill, List.range_succ]
theorem turn_len (L : List (Int × Int)) (m : Nat) : (turnTill L m).length = m + 1 := by simp [turnTill]
def turnV (L : List (Int × Int)) : List (Int × Int) := bif polyB L then turnL L else []
/-- A function that hands back a new list of points. -/
def Lists (w : World) (M : List (Int × Int)) (e : Ending) (w' : World) : Prop := ∃ v, e = .returned v ∧ w'.ownsRow w.heap.size 46 2 v M.length (flat M) ∧ Below w.heap.size w w'
end Go.Proofs.Ytnkehfhedjdhaaa

/-! In -/
namespace Go.Proofs.Ytnkehfhedjdhaaa
open Go.RowKit

def insideV (L : List (Int × Int)) (p : Int × Int) : Bool := polyB L && okQ p && insideB L p
/-- The corner before. -/
def pv (L : List (Int × Int)) (i : Nat) : Nat := (i + L.length - 1) % L.length
def bentB (L : List (Int × Int)) (i : Nat) : Bool := !(crossP (gt L (pv L i)) (gt L i) (gt L (nx L i)) == 0)
def straightTill (L : List (Int × Int)) : Nat → List (Int × Int)
  | 0 => []
  | k + 1 => bif bentB L k then straightTill L k ++ [gt L k] else straightTill L k
def straightL (L : List (Int × Int)) : List (Int × Int) := straightTill L L.length
theorem straight_len (L : List (Int × Int)) : ∀ k, (straightTill L k).length ≤ k
  | 0 => Nat.le_refl _
  | k + 1 => by
    have := straight_len L k
    simp only [straightTill]
    cases bentB L k <;> simp <;> omega
def straightV (L : List (Int × Int)) : List (Int × Int) := bif polyB L then straightL L else []
end Go.Proofs.Ytnkehfhedjdhaaa

/-! Around -/
namespace Go.Proofs.Ytnkehfhedjdhaaa
open Go.RowKit Go.Shelf Go.Sort
attribute [local go_sem] Oper.semAt_some

theorem at_own (g : Nat) (x y : Int) (t : TypeId) (B : Nat) : OwnFrom B (fun (_ : Unit) W => At W g x y t) := fun _ X Y row hs hg hr =>
  (hg.block g hs.lt (fun e => by
    obtain ⟨_, o, ho, hc⟩ := hr g e.symm
    rw [show X.heap[g]? = _ from hs] at ho
    cases ho; cases hc)).trans hs
def flipL (L : List (Int × Int)) (p : Int × Int) (l : List Nat) : Bool := l.foldl (fun b i => bif rightB (gt L i) (gt L (nx L i)) p then !b else b) false
theorem flipL_snoc (L : List (Int × Int)) (p : Int × Int) (l : List Nat) (x : Nat) : flipL L p (l ++ [x]) = bif rightB (gt L x) (gt L (nx L x)) p then !(flipL L p l) else flipL L p l := by simp [flipL]
theorem crossI_swap (ax ay bx by' px py : Int) : crossI bx by' ax ay px py = -(crossI ax ay bx by' px py) := by
  unfold crossI
  simp only [Int.sub_mul, Int.mul_sub, Int.neg_sub]
  simp only [Int.mul_comm]
  omega
theorem sgn_gt (n : Int) : decide (0 < sgn n) = decide (0 < n) := by
  unfold sgn
  by_cases h : 0 < n
  · simp [h]
  · by_cases h2 : n < 0 <;> simp [h, h2]
theorem right_flip (L : List (Int × Int)) (p : Int × Int) (i : Nat) : rightB (gt L i) (gt L (nx L i)) p = flipT L p i := by
  unfold rightB flipT loB crossP
  rw [crossI_swap (gt L i).1 (gt L i).2]
  generalize crossI (gt L i).1 (gt L i).2 (gt L (nx L i)).1 (gt L (nx L i)).2 p.1 p.2 = s
  generalize (gt L i).2 = ay
  generalize (gt L (nx L i)).2 = by'
  generalize p.2 = py
  rw [Bool.eq_iff_iff]
  by_cases h : by' < ay
  · have e1 : decide (by' < ay) = true := decide_eq_true h
    have e2 : decide (ay < by') = false := decide_eq_false (by omega)
    rw [e1, e2]
    simp only [cond_true, Bool.false_and, Bool.false_or, Bool.true_and, Bool.and_eq_true, decide_eq_true_eq, bne_iff_ne, ne_eq, decide_eq_decide]
    omega
  · have e1 : decide (by' < ay) = false := decide_eq_false h
    rw [e1]
    simp only [cond_false, Bool.false_and, Bool.or_false, Bool.and_eq_true, decide_eq_true_eq, bne_iff_ne, ne_eq, decide_eq_decide]
    omega
theorem flipL_range (L : List (Int × Int)) (p : Int × Int) (n : Nat) : flipL L p (List.range n) = insT (flipT L p) n := by
  induction n with
  | zero => rfl
  | succ n ih => rw [List.range_succ, flipL_snoc, ih, right_flip]; rfl
/-- Whether a ray to the right passes through an odd number of sides. -/
def aroundB (L : List (Int × Int)) (p : Int × Int) : Bool := insT (flipT L p) L.length
theorem right_pt (a b p : Int × Int) (w : World) (ha : smP a.1 a.2 = true) (hb : smP b.1 b.2 = true) (hp : smP p.1 p.2 = true) :
    Calls Try.prog 130 #[.agg #[.int .i64 a.1, .int .i64 a.2, .int .i64 b.1, .int .i64 b.2], (.agg #[.int .i64 p.1, .int .i64 p.2])] w fun e w' => e = .returned (.bool (rightB a b p)) ∧ Below w.heap.size w w' := right_sm a.1 a.2 b.1 b.2 p.1 p.2 w ha hb hp

set_option maxRecDepth 100000 in
set_option maxHeartbeats 4000000 in
theorem around_sm (A : Option Addr) (c : Nat) (L : List (Int × Int)) (p : Int × Int) (w : World) (hA : PtsA w A L) (h1 : 1 ≤ L.length) (h2 : L.length ≤ 10) (hok : ∀ i, smP (gt L i).1 (gt L i).2 = true) (hq : smP p.1 p.2 = true) :
    Calls Try.prog 84 #[.slice A L.length c, (.agg #[.int .i64 p.1, .int .i64 p.2])] w fun e w' => e = .returned (.bool (aroundB L p)) ∧ Below w.heap.size w w' := by
  refine (callsIn_wide (n := 6)).1 ?_
  refine callsIn_of_wp_marks Try.func84 rfl trivial ?_ rfl
  simp only [Try.ntmps84, List.size_toArray, List.length_cons, List.length_nil, Nat.reduceAdd, Nat.reduceSub, Array.replicate_succ, Array.replicate_zero, List.push_toArray, List.append_toArray, List.nil_append, List.cons_append]
  gi_wp2
  refine ⟨trivial, (wide0.calls (sides_any A L.length c _)).mono ?_⟩
  rintro e w3 ⟨rfl, rfl⟩
  gi_wp2
  have bX3 := ((at_new w p.1 p.2 46).alloc (.cells #[.bool false] 4)).alloc (.cells #[.slice A L.length c] 39)
  have bI := (Boxed.new (w.alloc (.cells #[.int .i64 p.1, .int .i64 p.2] 46)) 4 (.bool false)).alloc (.cells #[.slice A L.length c] 39)
  have bN := Boxed.new ((w.alloc (.cells #[.int .i64 p.1, .int .i64 p.2] 46)).alloc (.cells #[.bool false] 4)) 39 (.slice A L.length c)
  simp only [World.size_alloc] at bI bN
  have hB0 : Below w.heap.size w (((w.alloc (.cells #[.int .i64 p.1, .int .i64 p.2] 46)).alloc (.cells #[.bool false] 4)).alloc (.cells #[.slice A L.length c] 39)) := below3 _ _ _ _
  have hsz : (((w.alloc (.cells #[.int .i64 p.1, .int .i64 p.2] 46)).alloc (.cells #[.bool false] 4)).alloc (.cells #[.slice A L.length c] 39)).heap.size = w.heap.size + 3 := by simp
  obtain ⟨W0, hW0⟩ : ∃ W0, ((w.alloc (.cells #[.int .i64 p.1, .int .i64 p.2] 46)).alloc (.cells #[.bool false] 4)).alloc (.cells #[.slice A L.length c] 39) = W0 := ⟨_, rfl⟩
  rw [hW0] at bX3 bI bN hB0 hsz ⊢
  clear hW0
  refine wpIn_rangeFunc_ownH rfl (by decide) (gf := 118) (lb := #[.pointer (some ⟨w.heap.size + 1 + 1, 0, none⟩)]) rfl trivial (enters_of Try.func118 (by kernel_rfl) rfl)
    (sides_stops 5 (w.heap.size + 1 + 1) A c L w W0 (by omega) (by omega) hA hB0 (by omega) bN.cell) keepP_t (keepP_b (by omega) (by omega)) (Below.refl _ _) (fun _ => rfl)
    (fun pre W => ((Boxed W (w.heap.size + 1) 4 (.bool (flipL L p pre)) ∧ Boxed W (w.heap.size + 1 + 1) 39 (.slice A L.length c)) ∧ At W w.heap.size p.1 p.2 46) ∧ Below w.heap.size w W)
    (fun _ _ _ => False)
    (OwnFrom.and (OwnFrom.and (OwnFrom.and (Own.from (boxed_own _ _ _) _) (Own.from (boxed_own _ _ _) _)) (fun s X Y row hs hg hr => at_own _ _ _ _ _ () X Y row hs hg hr)) (ownFrom_below (Nat.le_refl _) (by omega)))
    (fun _ => ownFrom_pure _ (fun _ => False))
    ⟨⟨⟨bI, bN⟩, bX3⟩, hB0⟩
    (fun x a' W => ∃ Bx, w.heap.size + 1 + 1 < Bx ∧ SideAt W Bx L x ∧ a' = { tmps := #[.slice A L.length c, .agg #[.int .i64 p.1, .int .i64 p.2], undef, .pointer (some ⟨w.heap.size, 0, none⟩), .bool false, .pointer (some ⟨w.heap.size + 1, 0, none⟩), undef, .pointer (some ⟨Bx, 0, none⟩), .slice A L.length c, .func (.func 118) #[] #[.pointer (some ⟨w.heap.size + 1 + 1, 0, none⟩)], .int .i64 (x : Int), .agg #[.int .i64 (gt L x).1, .int .i64 (gt L x).2, .int .i64 (gt L (nx L x)).1, .int .i64 (gt L (nx L x)).2], undef, undef, undef, undef, undef, undef], defers := [] })
    (fun x a' _ X Y row hs hg hr => by obtain ⟨Bx, e1, e2, e3⟩ := hs; exact ⟨Bx, e1, sideAt_own Bx L x _ () X Y row e2 hg hr, e3⟩)
    ?assign ?body ?done ?stop
  case assign =>
    rintro l pre x W K ⟨⟨⟨bI4, bN4⟩, bX4⟩, hB4⟩ hK
    simp only [sideV]
    gi_wp2
    have hs4 := hB4.size
    have hb := below1 W (.cells #[.int .i64 (gt L x).1, .int .i64 (gt L x).2, .int .i64 (gt L (nx L x)).1, .int .i64 (gt L (nx L x)).2] 100)
    exact hK _ _ (keepsFrom_below hb) (KeepP.of_below hb hs4 bN4.lt) ⟨⟨⟨boxed_on bI4 hb, boxed_on bN4 hb⟩, bX4.step hb⟩, hB4.trans (hb.mono hs4)⟩ ⟨W.heap.size, bN4.lt, sideAt_new W L x, rfl⟩
  case body =>
    rintro l pre x a' W hl - ⟨⟨⟨bI5, bN5⟩, bX5⟩, hB5⟩ ⟨Bx, hBx, sX, rfl⟩ hlt
    have hs5 := hB5.size
    have HR := Lib.hid (fun W => right_pt (gt L x) (gt L (nx L x)) p W (hok _) (hok _) hq)
    have HF := Lib.hid (flipL_snoc L p pre x)
    obtain ⟨x0, x1, x2, x3⟩ := sX.cells
    have c0 := bX5.c0; have c1 := bX5.c1
    gi_wp2
    refine ⟨trivial, ((wideR l).calls (HR.out _)).mono ?_⟩
    rintro e W6 ⟨rfl, hb6⟩
    have hB6 := hB5.trans (hb6.mono hs5)
    have bI6 := boxed_on bI5 hb6
    have bN6 := boxed_on bN5 hb6
    have bX6 := bX5.step hb6
    have hK6 := KeepP.of_below hb6 hs5 bN5.lt
    have hF6 := keepsFrom_below (B := W0.heap.size) hb6
    clear hb6 hB5 bI5 bN5 bX5 sX x0 x1 x2 x3 c0 c1
    have cI := bI6.cell
    have fI := bI6.frozen
    generalize flipL L p pre = fb at *
    cases hr : rightB (gt L x) (gt L (nx L x)) p
    · rw [hr] at HF
      gi_wp2
      exact ⟨hF6, hK6, ⟨⟨by rw [HF.out]; exact bI6, bN6⟩, bX6⟩, hB6⟩
    · rw [hr] at HF
      gi_wp2
      exact ⟨hF6.trans ((KeepsOthers.setCell _ _ _).from _), hK6.setCell (by omega) (by omega) _ _, ⟨⟨by rw [HF.out]; exact bI6.set _, bN6.other (by omega) _⟩, at_set bX6 (by omega) _ _⟩, hB6.setCell (p := ⟨w.heap.size + 1, 0, none⟩) (by simp) _⟩
  case done =>
    rintro D zs W hD rfl ⟨⟨⟨bI4, bN4⟩, bX4⟩, hB4⟩ hK
    have cI := bI4.cell
    have HF := Lib.hid (flipL_range L p L.length)
    gi_wp2
    refine ⟨by simp, .inl ⟨_, _, rfl, run_takeDeferred hK, ?_⟩⟩
    exact ⟨_, results_tmp rfl _ _ _, by rw [HF.out]; rfl, hB4.trans (belowK_b (w := w) (Nat.le_refl _) W D _ _ (by omega) hK rfl rfl)⟩
  case stop =>
    rintro D k pre W hD hpre h hK
    exact h.elim
end Go.Proofs.Ytnkehfhedjdhaaa

/-! Inside -/
namespace Go.Proofs.Ytnkehfhedjdhaaa
open Go.RowKit Go.Shelf Go.Sort
attribute [local go_sem] Oper.semAt_some

def onQ (a b p : Int × Int) : Bool := onV a.1 a.2 b.1 b.2 p.1 p.2
theorem onQ_ok {a b p : Int × Int} (ha : okP a.1 a.2 = true) (hb : okP b.1 b.2 = true) (hp : okP p.1 p.2 = true) : onQ a b p = onP a b p := by
  unfold onQ onV onP
  rw [ha, hb, hp]; rfl
theorem crossV_ok {ax ay bx by' px py : Int} (ha : okP ax ay = true) (hb : okP bx by' = true) (hp : okP px py = true) : crossV ax ay bx by' px py = crossI ax ay bx by' px py := by
  unfold crossV
  rw [ha, hb, hp]; rfl
theorem on_pt (a b p : Int × Int) (w : World) :
    Calls Try.prog 83 #[(.agg #[.int .i64 a.1, .int .i64 a.2]), (.agg #[.int .i64 b.1, .int .i64 b.2]), (.agg #[.int .i64 p.1, .int .i64 p.2])] w fun e w' => e = .returned (.bool (onQ a b p)) ∧ Below w.heap.size w w' := impl_on a.1 a.2 b.1 b.2 p.1 p.2 w
set_option maxRecDepth 100000 in
set_option maxHeartbeats 4000000 in
theorem impl_inside_yes (A : Option Addr) (c : Nat) (L : List (Int × Int)) (p : Int × Int) (w : World) (hA : PtsA w A L) (hp : polyB L = true) (hq : okP p.1 p.2 = true) :
    Calls Try.prog 36 #[.slice A L.length c, (.agg #[.int .i64 p.1, .int .i64 p.2])] w fun e w' => e = .returned (.bool (insideB L p)) ∧ Below w.heap.size w w' := by
  obtain ⟨h3, h10, hok⟩ := polyB_all hp
  refine (callsIn_wide (n := 6)).1 ?_
  refine callsIn_of_wp_marks Try.func36 rfl trivial ?_ rfl
  simp only [Try.ntmps36, List.size_toArray, List.length_cons, List.length_nil, Nat.reduceAdd, Nat.reduceSub, Array.replicate_succ, Array.replicate_zero, List.push_toArray, List.append_toArray, List.nil_append, List.cons_append]
  have PC := Lib.hid (fun (W : World) (hb : Below w.heap.size w W) => impl_poly A c L W (ptsA_on hA hb) (by omega))
  rw [hp] at PC
  have bX := at_new w p.1 p.2 46
  have hB0 := below2 w (.cells #[.int .i64 p.1, .int .i64 p.2] 46) (.cells #[.bool false] 4)
  gi_wp2
  refine ⟨trivial, (wide0.calls (PC.out _ hB0)).mono ?_⟩
  rintro e w1 ⟨rfl, hb1⟩
  have hB1 := hB0.trans (hb1.mono hB0.size)
  have bX1 := (bX.alloc (.cells #[.bool false] 4)).step hb1
  have bR1 := boxed_on (Boxed.new (w.alloc (.cells #[.int .i64 p.1, .int .i64 p.2] 46)) 4 (.bool false)) hb1
  simp only [size_alloc] at bR1
  have hs1 : w.heap.size + 2 ≤ w1.heap.size := by have := hb1.size; simp at this; omega
  have c0 := bX1.c0; have c1 := bX1.c1
  clear hb1 bX hB0
  gi_wp2
  refine ⟨trivial, (wide0.calls (impl_ok p.1 p.2 w1)).mono ?_⟩
  rintro e w2 ⟨rfl, hb2⟩
  rw [hq]
  have hB2 := hB1.trans (hb2.mono hB1.size)
  have bX2 := bX1.step hb2
  have bR2 := boxed_on bR1 hb2
  have hs2 : w.heap.size + 2 ≤ w2.heap.size := by have := hb2.size; omega
  have c0 := bX2.c0; have c1 := bX2.c1
  clear hb2 hB1 bX1 bR1 hs1
  gi_wp2
  refine ⟨trivial, (wide0.calls (sides_any A L.length c _)).mono ?_⟩
  rintro e w3 ⟨rfl, rfl⟩
  gi_wp2
  have bX3 := bX2.alloc (.cells #[.slice A L.length c] 39)
  have bR3 := bR2.alloc (.cells #[.slice A L.length c] 39)
  have bN := Boxed.new w2 39 (.slice A L.length c)
  have hB0 : Below w.heap.size w (w2.alloc (.cells #[.slice A L.length c] 39)) := hB2.alloc (by omega) _
  have hsz : (w2.alloc (.cells #[.slice A L.length c] 39)).heap.size = w2.heap.size + 1 := by simp
  obtain ⟨W0, hW0⟩ : ∃ W0, w2.alloc (.cells #[.slice A L.length c] 39) = W0 := ⟨_, rfl⟩
  rw [hW0] at bX3 bR3 bN hB0 hsz ⊢
  clear hW0 c0 c1
  refine wpIn_rangeFunc_ownH rfl (by decide) (gf := 118) (lb := #[.pointer (some ⟨w2.heap.size, 0, none⟩)]) rfl trivial (enters_of Try.func118 (by kernel_rfl) rfl)
    (sides_stops 5 w2.heap.size A c L w W0 (by omega) (by omega) hA hB0 (by omega) bN.cell) keepP_t (keepP_b (by omega) (by omega)) (Below.refl _ _) (fun _ => rfl)
    (fun pre W => ((((∀ i ∈ pre, onQ (gt L i) (gt L (nx L i)) p = false) ∧ Boxed W (w.heap.size + 1) 4 (.bool false)) ∧ Boxed W w2.heap.size 39 (.slice A L.length c)) ∧ At W w.heap.size p.1 p.2 46) ∧ Below w.heap.size w W)
    (fun co pre W => ((co = .ret ∧ ∃ i ∈ pre, onQ (gt L i) (gt L (nx L i)) p = true) ∧ Boxed W (w.heap.size + 1) 4 (.bool true)) ∧ Below w.heap.size w W)
    (OwnFrom.and (OwnFrom.and (OwnFrom.and (OwnFrom.and (ownFrom_pure _ _) (Own.from (boxed_own _ _ _) _)) (Own.from (boxed_own _ _ _) _)) (fun s X Y row hs hg hr => at_own _ _ _ _ _ () X Y row hs hg hr)) (ownFrom_below (Nat.le_refl _) (by omega)))
    (fun co => OwnFrom.and (OwnFrom.and (ownFrom_pure _ _) (Own.from (boxed_own _ _ _) _)) (ownFrom_below (Nat.le_refl _) (by omega)))
    ⟨⟨⟨⟨by simp, bR3⟩, bN⟩, bX3⟩, hB0⟩
    (fun x a' W => ∃ Bx, w2.heap.size < Bx ∧ SideAt W Bx L x ∧ a' = { tmps := #[.slice A L.length c, .agg #[.int .i64 p.1, .int .i64 p.2], undef, .pointer (some ⟨w.heap.size, 0, none⟩), .pointer (some ⟨w.heap.size + 1, 0, none⟩), undef, .pointer (some ⟨Bx, 0, none⟩), .slice A L.length c, .bool true, .bool false, .bool false, .agg #[.int .i64 p.1, .int .i64 p.2], .bool true, .bool false, .bool false, .slice A L.length c, .func (.func 118) #[] #[.pointer (some ⟨w2.heap.size, 0, none⟩)], .int .i64 (x : Int), .agg #[.int .i64 (gt L x).1, .int .i64 (gt L x).2, .int .i64 (gt L (nx L x)).1, .int .i64 (gt L (nx L x)).2], undef, undef, undef, undef, undef, undef, undef, undef, undef], defers := [] })
    (fun x a' _ X Y row hs hg hr => by obtain ⟨Bx, e1, e2, e3⟩ := hs; exact ⟨Bx, e1, sideAt_own Bx L x _ () X Y row e2 hg hr, e3⟩)
    ?assign ?body ?done ?stop
  case assign =>
    rintro l pre x W K ⟨⟨⟨⟨hq1, bR4⟩, bN4⟩, bX4⟩, hB4⟩ hK
    simp only [sideV]
    gi_wp2
    have hs4 := hB4.size
    have hb := below1 W (.cells #[.int .i64 (gt L x).1, .int .i64 (gt L x).2, .int .i64 (gt L (nx L x)).1, .int .i64 (gt L (nx L x)).2] 100)
    exact hK _ _ (keepsFrom_below hb) (KeepP.of_below hb hs4 bN4.lt) ⟨⟨⟨⟨hq1, boxed_on bR4 hb⟩, boxed_on bN4 hb⟩, bX4.step hb⟩, hB4.trans (hb.mono hs4)⟩ ⟨W.heap.size, bN4.lt, sideAt_new W L x, rfl⟩
  case body =>
    rintro l pre x a' W hl - ⟨⟨⟨⟨hq1, bR4⟩, bN4⟩, bX4⟩, hB4⟩ ⟨Bx, hBx, sX, rfl⟩ hlt
    have hs4 := hB4.size
    have HO := Lib.hid (fun W => on_pt (gt L x) (gt L (nx L x)) p W)
    obtain ⟨x0, x1, x2, x3⟩ := sX.cells
    have c0 := bX4.c0; have c1 := bX4.c1
    cases hon : onQ (gt L x) (gt L (nx L x)) p
    · rw [hon] at HO
      have HN : Hid (∀ i ∈ pre ++ [x], onQ (gt L i) (gt L (nx L i)) p = false) := fun z hz => (List.mem_append.1 hz).elim (hq1 z) (fun e => by simp at e; subst e; exact hon)
      clear hon hq1
      gi_wp2
      refine ⟨trivial, ((wideR l).calls (HO.out _)).mono ?_⟩
      rintro e W5 ⟨rfl, hb5⟩
      gi_wp2
      exact ⟨keepsFrom_below (B := W0.heap.size) hb5, KeepP.of_below hb5 hs4 bN4.lt, ⟨⟨⟨HN.out, boxed_on bR4 hb5⟩, boxed_on bN4 hb5⟩, bX4.step hb5⟩, hB4.trans (hb5.mono hs4)⟩
    · rw [hon] at HO
      gi_wp2
      refine ⟨trivial, ((wideR l).calls (HO.out _)).mono ?_⟩
      rintro e W5 ⟨rfl, hb5⟩
      have hB5 := hB4.trans (hb5.mono hs4)
      have bR5 := boxed_on bR4 hb5
      have cR := bR5.cell
      have fR := bR5.frozen
      gi_wp2
      exact ⟨(keepsFrom_below hb5).trans ((KeepsOthers.setCell _ _ _).from _), ⟨⟨rfl, x, List.mem_append.2 (.inr (by simp)), hon⟩, bR5.set _⟩, hB5.setCell (p := ⟨w.heap.size + 1, 0, none⟩) (by simp) _⟩
  case done =>
    rintro D zs W hD rfl ⟨⟨⟨⟨hq1, bR4⟩, bN4⟩, bX4⟩, hB4⟩ hK
    have c0 := bX4.c0; have c1 := bX4.c1
    have HR := Lib.hid (around_sm A c L p W (ptsA_on hA hB4) (by omega) h10 (fun i => smP_ok (gt_ok hok i)) (smP_ok hq))
    have hv : insideB L p = aroundB L p := by
      rw [insideB, onRim_false (fun i hi => by rw [← onQ_ok (gt_ok hok i) (gt_ok hok (nx L i)) hq]; exact hq1 i (List.mem_range.2 hi)), Bool.false_or]; rfl
    generalize aroundB L p = fb at *
    gi_wp2
    refine ⟨trivial, (wide0.calls HR.out).mono ?_⟩
    rintro e W5 ⟨rfl, hb5⟩
    have hB5 := hB4.trans (hb5.mono hB4.size)
    have bR5 := boxed_on bR4 hb5
    have cR := bR5.cell
    have fR := bR5.frozen
    have hK5 := (hb5.block D (Array.getElem?_eq_some_iff.1 hK).1).trans hK
    gi_wp2
    have hK' := (KeepsOthers.setCell W5 ⟨w.heap.size + 1, 0, none⟩ (.bool fb)).same D _ hK5 rfl
    refine ⟨by simp, .inl ⟨_, _, rfl, run_takeDeferred hK', ?_⟩⟩
    have hc5 := cell_kept (bR5.set (.bool fb)).cell (grownBy_putObj' _ D (.deferred none)) (fun r e => by cases e; exact ⟨_, hK', rfl⟩)
    refine ⟨.bool fb, ?_, by rw [hv], (hB5.setCell (p := ⟨w.heap.size + 1, 0, none⟩) (by simp) _).trans (belowK_b (w := w) (Nat.le_refl _) _ D _ _ (by omega) hK' rfl rfl)⟩
    simp [results, Try.f36, go_sem, hc5]
  case stop =>
    rintro D co pre W hD ⟨k, hk, rfl⟩ ⟨⟨⟨rfl, j, hj, hjb⟩, bR1⟩, hB1⟩ hK
    gi_wp2
    refine ⟨by simp, .inl ⟨_, _, rfl, run_takeDeferred hK, ?_⟩⟩
    have hc5 := cell_kept bR1.cell (grownBy_putObj' _ D (.deferred none)) (fun r e => by cases e; exact ⟨_, hK, rfl⟩)
    refine ⟨.bool true, ?_, ?_, hB1.trans (belowK_b (w := w) (Nat.le_refl _) _ D _ _ (by omega) hK rfl rfl)⟩
    · simp [results, Try.f36, go_sem, hc5]
    · rw [onQ_ok (gt_ok hok j) (gt_ok hok (nx L j)) hq] at hjb
      rw [insideB, onRim_true (i := j) (by simp only [List.mem_range] at hj; omega) hjb]; rfl

theorem impl_inside (A : Option Addr) (c : Nat) (L : List (Int × Int)) (px py : Int) (w : World) (hA : PtsA w A L) (hL : L.length ≤ 1048576) :
    Calls Try.prog 36 #[.slice A L.length c, (.agg #[.int .i64 px, .int .i64 py])] w fun e w' => e = .returned (.bool (insideV L (px, py))) ∧ Below w.heap.size w w' := by
  cases hp : polyB L
  · have HV : Hid (insideV L (px, py) = false) := by
      show _ = _
      rw [insideV, hp]; rfl
    have PC := Lib.hid (fun (W : World) (hb : Below w.heap.size w W) => impl_poly A c L W (ptsA_on hA hb) hL)
    rw [hp] at PC
    have hB0 := below2 w (.cells #[.int .i64 px, .int .i64 py] 46) (.cells #[.bool false] 4)
    go_enter Try.func36, Try.ntmps36
    go_wp2_with fail
    refine (PC.out _ hB0).mono ?_
    rintro e w1 ⟨rfl, hb1⟩
    have bR1 := boxed_on (Boxed.new (w.alloc (.cells #[.int .i64 px, .int .i64 py] 46)) 4 (.bool false)) hb1
    simp only [size_alloc] at bR1
    have hB1 := hB0.trans (hb1.mono hB0.size)
    have cR := bR1.cell
    have fR := bR1.frozen
    clear hb1 hB0
    go_wp2_with fail
    have cR' := (bR1.set (.bool false)).cell
    refine bodyPost_ret (v := .bool false) (by simp [results, Try.results36, go_sem, cR']) rfl ⟨ret_bool HV.out.symm, hB1.setCell (p := ⟨w.heap.size + 1, 0, none⟩) (by simp) _⟩
  · cases hq : okP px py
    · have HV : Hid (insideV L (px, py) = false) := by
        show _ = _
        rw [insideV, hp, okQ_pair, hq]; rfl
      have PC := Lib.hid (fun (W : World) (hb : Below w.heap.size w W) => impl_poly A c L W (ptsA_on hA hb) hL)
      rw [hp] at PC
      have hB0 := below2 w (.cells #[.int .i64 px, .int .i64 py] 46) (.cells #[.bool false] 4)
      have bX := at_new w px py 46
      go_enter Try.func36, Try.ntmps36
      go_wp2_with fail
      refine (PC.out _ hB0).mono ?_
      rintro e w1 ⟨rfl, hb1⟩
      have bX1 := (bX.alloc (.cells #[.bool false] 4)).step hb1
      have bR1 := boxed_on (Boxed.new (w.alloc (.cells #[.int .i64 px, .int .i64 py] 46)) 4 (.bool false)) hb1
      simp only [size_alloc] at bR1
      have hB1 := hB0.trans (hb1.mono hB0.size)
      have c0 := bX1.c0; have c1 := bX1.c1
      clear hb1 hB0 bX
      go_wp2_with fail
      refine (impl_ok px py w1).mono ?_
      rintro e w2 ⟨rfl, hb2⟩
      rw [hq]
      have bR2 := boxed_on bR1 hb2
      have hB2 := hB1.trans (hb2.mono hB1.size)
      have cR := bR2.cell
      have fR := bR2.frozen
      clear hb2 hB1 bR1
      go_wp2_with fail
      have cR' := (bR2.set (.bool false)).cell
      refine bodyPost_ret (v := .bool false) (by simp [results, Try.results36, go_sem, cR']) rfl ⟨ret_bool HV.out.symm, hB2.setCell (p := ⟨w.heap.size + 1, 0, none⟩) (by simp) _⟩
    · have hv : insideV L (px, py) = insideB L (px, py) := by rw [insideV, hp, okQ_pair, hq]; rfl
      rw [hv]
      exact impl_inside_yes A c L (px, py) w hA hp hq
end Go.Proofs.Ytnkehfhedjdhaaa

/-! Straight -/
namespace Go.Proofs.Ytnkehfhedjdhaaa
open Go.RowKit Go.Shelf Go.Sort
attribute [local go_sem] Oper.semAt_some

theorem at_frozen {W : World} {g : Nat} {x y : Int} {t : TypeId} (h : At W g x y t) (o : Nat) : W.frozen? ⟨g, o, none⟩ = false := by simp [World.frozen?, show W.heap[g]? = _ from h]
theorem side_kept {W W' : World} {g B k : Nat} {L : List (Int × Int)} {i : Nat} {v : Value} {xs : List Value} (h : SideAt W g L i) (hg : W.grownBy W' v.ownBlock) (hr : W.ownsRow B 46 2 v k xs) : SideAt W' g L i := by
  refine (hg.block g h.lt ?_).trans h
  rcases hr.2 with ⟨rfl, _⟩ | ⟨g', cap, cur, rfl, _, hgb, _⟩
  · simp [Value.ownBlock]
  · intro e
    obtain rfl : g = g' := by simpa [Value.ownBlock] using e
    have := (show W.heap[g]? = _ from h).symm.trans hgb
    simp at this
theorem side_set {W : World} {b G : Nat} {L : List (Int × Int)} {i : Nat} (h : SideAt W G L i) (hne : G ≠ b) (o : Nat) (v : Value) : SideAt (W.setCell ⟨b, o, none⟩ v) G L i := (Below.heap_setCell W ⟨b, o, none⟩ v G hne).trans h
theorem hrow_other {W : World} {B b k : Nat} {e : TypeId} {size : Nat} {v : Value} {xs : List Value} (h : W.ownsRow B e size v k xs) (o : Nat) (hb : b < B) (u : Value) : (W.setCell ⟨b, o, none⟩ u).ownsRow B e size v k xs :=
  h.kept (only_set (World.grownBy.refl W (some b)) o u) (by
    cases hv : v.ownBlock with
    | none => exact .inl rfl
    | some q => exact .inr (fun e => by simp only [Option.some.injEq] at e; have := (h.lt q hv).1; omega))
theorem box_set {W : World} {B b : Nat} {t : TypeId} {v : Value} (h : Boxed W B t v) (o : Nat) (hne : B ≠ b) (u : Value) : Boxed (W.setCell ⟨b, o, none⟩ u) B t v := (Below.heap_setCell W ⟨b, o, none⟩ u B hne).trans h
theorem at_store {W : World} {g : Nat} {x y : Int} {t : TypeId} (h : At W g x y t) (a : Int) (o : Nat) (ho : o = 0 := by rfl) : At (W.setCell ⟨g, o, none⟩ (.int .i64 a)) g a y t := by
  subst ho
  obtain ⟨hlt, hk⟩ := Array.getElem?_eq_some_iff.1 h
  show (W.heap.modify g _)[g]? = _
  rw [Array.getElem?_eq_getElem (by rw [Array.size_modify]; exact hlt), Array.getElem_modify_self, hk]
  rfl
theorem at_store1 {W : World} {g : Nat} {x y : Int} {t : TypeId} (h : At W g x y t) (a : Int) : At (W.setCell ⟨g, 1, none⟩ (.int .i64 a)) g x a t := by
  obtain ⟨hlt, hk⟩ := Array.getElem?_eq_some_iff.1 h
  show (W.heap.modify g _)[g]? = _
  rw [Array.getElem?_eq_getElem (by rw [Array.size_modify]; exact hlt), Array.getElem_modify_self, hk]
  rfl
def stStep (L : List (Int × Int)) (s : Nat × List (Int × Int)) (i : Nat) : Nat × List (Int × Int) := (i, bif onQ (gt L s.1) (gt L (nx L i)) (gt L i) then s.2 else s.2 ++ [gt L i])
def stP (L : List (Int × Int)) (l : List Nat) : Nat × List (Int × Int) := l.foldl (stStep L) (L.length - 1, [])
theorem stP_snoc (L : List (Int × Int)) (l : List Nat) (x : Nat) : stP L (l ++ [x]) = stStep L (stP L l) x := by simp [stP]
theorem stP_len (L : List (Int × Int)) (l : List Nat) : (stP L l).2.length ≤ l.length := by
  have key : ∀ (l : List Nat) (s : Nat × List (Int × Int)), (l.foldl (stStep L) s).2.length ≤ s.2.length + l.length := by
    intro l
    induction l with
    | nil => intro s; simp
    | cons x l ih =>
      intro s
      have h1 := ih (stStep L s x)
      have h2 : (stStep L s x).2.length ≤ s.2.length + 1 := by
        unfold stStep
        cases onQ (gt L s.1) (gt L (nx L x)) (gt L x) <;> simp
      rw [List.foldl_cons, List.length_cons]
      omega
  have := key l (L.length - 1, [])
  simpa [stP] using this

set_option maxRecDepth 100000 in
set_option maxHeartbeats 8000000 in
theorem impl_straight_yes (A : Option Addr) (c : Nat) (L : List (Int × Int)) (w : World) (hA : PtsA w A L) (hp : polyB L = true) :
    Calls Try.prog 119 #[.slice A L.length c] w (Lists w (stP L (List.range L.length)).2) := by
  obtain ⟨i0, hi0, hz0, hz1, hz2⟩ := info_parts infoPt
  obtain ⟨h3, h10, hok⟩ := polyB_all hp
  obtain ⟨g, rfl, -⟩ := hA 0 (by omega)
  have HU : Hid (Lists w (stP L (List.range L.length)).2 = fun e w' => ∃ v, e = .returned v ∧ w'.ownsRow w.heap.size 46 2 v (stP L (List.range L.length)).2.length (flat (stP L (List.range L.length)).2) ∧ Below w.heap.size w w') := rfl
  refine (callsIn_wide (n := 6)).1 ?_
  refine callsIn_of_wp_marks Try.func119 rfl trivial ?_ rfl
  simp only [Try.ntmps119, List.size_toArray, List.length_cons, List.length_nil, Nat.reduceAdd, Nat.reduceSub, Array.replicate_succ, Array.replicate_zero, List.push_toArray, List.append_toArray, List.nil_append, List.cons_append]
  have PC := Lib.hid (impl_poly _ c L w hA (by omega))
  rw [hp] at PC
  gi_wp2
  refine ⟨trivial, (wide0.calls PC.out).mono ?_⟩
  rintro e w1 ⟨rfl, hb1⟩
  have hA1 := ptsA_on hA hb1
  obtain ⟨m, hm⟩ : ∃ m, m = L.length - 1 := ⟨_, rfl⟩
  obtain ⟨c0, c1⟩ := gt_cells hA1 (i := m) (by omega)
  have hm1 : (L.length : Int) - 1 = (m : Int) := by omega
  have HM := Lib.hid hm
  have hn1 := below1 w1 (.cells #[.slice none 0 0] 39)
  have d0 := cell_on hn1 rfl c0
  have d1 := cell_on hn1 rfl c1
  obtain ⟨bx, hbx⟩ : ∃ bx, bx = (gt L m).1 := ⟨_, rfl⟩
  obtain ⟨by', hby⟩ : ∃ by', by' = (gt L m).2 := ⟨_, rfl⟩
  have HBX := Lib.hid hbx
  have HBY := Lib.hid hby
  rw [← hbx] at d0
  rw [← hby] at d1
  have hm3 : (m : Int) < (L.length : Int) := by omega
  clear hm c0 c1 hn1 hbx hby
  gi_wp2
  refine ⟨trivial, (wide0.calls (sides_any _ L.length c _)).mono ?_⟩
  rintro e w3 ⟨rfl, rfl⟩
  gi_wp2
  have hs1 := hb1.size
  have bB := ((Boxed.new w1 39 (.slice none 0 0)).alloc (.cells #[.int .i64 bx, .int .i64 by'] 46)).alloc (.cells #[.slice (some ⟨g, 0, none⟩) L.length c] 39)
  have bF := (at_new (w1.alloc (.cells #[.slice none 0 0] 39)) bx by' 46).alloc (.cells #[.slice (some ⟨g, 0, none⟩) L.length c] 39)
  have bN := Boxed.new ((w1.alloc (.cells #[.slice none 0 0] 39)).alloc (.cells #[.int .i64 bx, .int .i64 by'] 46)) 39 (.slice (some ⟨g, 0, none⟩) L.length c)
  simp only [World.size_alloc] at bF bN
  have hB0 : Below w.heap.size w (((w1.alloc (.cells #[.slice none 0 0] 39)).alloc (.cells #[.int .i64 bx, .int .i64 by'] 46)).alloc (.cells #[.slice (some ⟨g, 0, none⟩) L.length c] 39)) := hb1.trans ((below3 w1 _ _ _).mono hs1)
  have hsz : (((w1.alloc (.cells #[.slice none 0 0] 39)).alloc (.cells #[.int .i64 bx, .int .i64 by'] 46)).alloc (.cells #[.slice (some ⟨g, 0, none⟩) L.length c] 39)).heap.size = w1.heap.size + 3 := by simp
  obtain ⟨W0, hW0⟩ : ∃ W0, ((w1.alloc (.cells #[.slice none 0 0] 39)).alloc (.cells #[.int .i64 bx, .int .i64 by'] 46)).alloc (.cells #[.slice (some ⟨g, 0, none⟩) L.length c] 39) = W0 := ⟨_, rfl⟩
  rw [hW0] at bB bF bN hB0 hsz ⊢
  have bF0 : At W0 (w1.heap.size + 1) (gt L (stP L []).1).1 (gt L (stP L []).1).2 46 := by
    have e1 : (stP L []).1 = m := HM.out.symm
    rw [e1, ← HBX.out, ← HBY.out]; exact bF
  clear hW0 bF
  refine wpIn_rangeFunc_ownH rfl (by decide) (gf := 118) (lb := #[.pointer (some ⟨w1.heap.size + 1 + 1, 0, none⟩)]) rfl trivial (enters_of Try.func118 (by kernel_rfl) rfl)
    (sides_stops 5 (w1.heap.size + 1 + 1) _ c L w W0 (by omega) (by omega) hA hB0 (by omega) bN.cell) keepP_t (keepP_b (by omega) (by omega)) (Below.refl _ _) (fun _ => rfl)
    (fun pre W => (((∃ v, Boxed W w1.heap.size 39 v ∧ W.ownsRow (w1.heap.size + 3) 46 2 v (stP L pre).2.length (flat (stP L pre).2) ∧ True) ∧ At W (w1.heap.size + 1) (gt L (stP L pre).1).1 (gt L (stP L pre).1).2 46) ∧ Boxed W (w1.heap.size + 1 + 1) 39 (.slice (some ⟨g, 0, none⟩) L.length c)) ∧ Below w.heap.size w W)
    (fun _ _ _ => False)
    (OwnFrom.and (OwnFrom.and (OwnFrom.and (Own.from (holdsRow_own (w1.heap.size + 3) w1.heap.size 39 46 2 (fun pre => (stP L pre).2.length) (fun pre => flat (stP L pre).2) (fun _ _ => True)) _) (fun s X Y row hs hg hr => at_own _ _ _ _ _ () X Y row hs hg hr)) (Own.from (boxed_own _ _ _) _)) (ownFrom_below (Nat.le_refl _) (by omega)))
    (fun _ => ownFrom_pure _ (fun _ => False))
    ⟨⟨⟨⟨_, bB, World.ownsRow_nil _ _ _ _, trivial⟩, bF0⟩, bN⟩, hB0⟩
    (fun x a' W => ∃ Bx, w1.heap.size + 1 + 1 < Bx ∧ SideAt W Bx L x ∧ a' = { tmps := #[.slice (some ⟨g, 0, none⟩) L.length c, undef, .slice none 0 0, .pointer (some ⟨w1.heap.size, 0, none⟩), .pointer (some ⟨w1.heap.size + 1, 0, none⟩), undef, .pointer (some ⟨Bx, 0, none⟩), .slice (some ⟨g, 0, none⟩) L.length c, .bool true, .bool false, .slice (some ⟨g, 0, none⟩) L.length c, .slice (some ⟨g, 0, none⟩) L.length c, .int .i64 (L.length : Int), .int .i64 (m : Int), .pointer (some ⟨g, m * 2, none⟩), .agg #[.int .i64 bx, .int .i64 by'], .slice (some ⟨g, 0, none⟩) L.length c, .func (.func 118) #[] #[.pointer (some ⟨w1.heap.size + 1 + 1, 0, none⟩)], .int .i64 (x : Int), .agg #[.int .i64 (gt L x).1, .int .i64 (gt L x).2, .int .i64 (gt L (nx L x)).1, .int .i64 (gt L (nx L x)).2], undef, undef, undef, undef, undef, undef, undef, undef, undef, undef, undef, undef, undef, undef, undef], defers := [] })
    (fun x a' _ X Y row hs hg hr => by obtain ⟨Bx, e1, e2, e3⟩ := hs; exact ⟨Bx, e1, sideAt_own Bx L x _ () X Y row e2 hg hr, e3⟩)
    ?assign ?body ?done ?stop
  case assign =>
    rintro l pre x W K ⟨⟨⟨⟨v, bB4, own4, -⟩, bF4⟩, bN4⟩, hB4⟩ hK
    simp only [sideV]
    gi_wp2
    have hs4 := hB4.size
    have hb := below1 W (.cells #[.int .i64 (gt L x).1, .int .i64 (gt L x).2, .int .i64 (gt L (nx L x)).1, .int .i64 (gt L (nx L x)).2] 100)
    exact hK _ _ (keepsFrom_below hb) (KeepP.of_below hb hs4 bN4.lt) ⟨⟨⟨⟨v, boxed_on bB4 hb, own_below own4 hb, trivial⟩, bF4.step hb⟩, boxed_on bN4 hb⟩, hB4.trans (hb.mono hs4)⟩ ⟨W.heap.size, bN4.lt, sideAt_new W L x, rfl⟩
  case body =>
    rintro l pre x a' W hl - ⟨⟨⟨⟨v, bB4, own4, -⟩, bF4⟩, bN4⟩, hB4⟩ ⟨Bx, hBx, sX, rfl⟩ hlt
    have hs4 := hB4.size
    have HO := Lib.hid (fun W => on_pt (gt L (stP L pre).1) (gt L (nx L x)) (gt L x) W)
    have HST := Lib.hid (stP_snoc L pre x)
    have hlen := stP_len L pre
    obtain ⟨x0, x1, x2, x3⟩ := sX.cells
    have c0 := bF4.c0; have c1 := bF4.c1
    obtain ⟨j, hj⟩ : ∃ j, j = (stP L pre).1 := ⟨_, rfl⟩
    obtain ⟨M, hM⟩ : ∃ M, M = (stP L pre).2 := ⟨_, rfl⟩
    have HSS : Hid (stP L (pre ++ [x]) = (x, bif onQ (gt L j) (gt L (nx L x)) (gt L x) then M else M ++ [gt L x])) := by
      show _ = _
      rw [HST.out, hj, hM]; rfl
    rw [← hj] at HO c0 c1 bF4
    rw [← hM] at own4 hlen
    clear hj hM HST
    gi_wp2
    refine ⟨trivial, ((wideR l).calls (HO.out _)).mono ?_⟩
    rintro e W5 ⟨rfl, hb5⟩
    have hB5 := hB4.trans (hb5.mono hs4)
    have bB5 := boxed_on bB4 hb5
    have bN5 := boxed_on bN4 hb5
    have bF5 := bF4.step hb5
    have sX5 := boxed_side sX hb5
    have own5 := own_below own4 hb5
    have hK5 := KeepP.of_below hb5 hs4 bN4.lt
    have hF5 := keepsFrom_below (B := W0.heap.size) hb5
    have hs5 := hB5.size
    clear hb5 hB4 bB4 bN4 bF4 sX x0 x1 x2 x3 c0 c1 HO own4 hs4
    obtain ⟨x0, x1, x2, x3⟩ := sX5.cells
    have c0 := bF5.c0; have c1 := bF5.c1
    have cB := bB5.cell
    have fB := bB5.frozen
    have f0 := at_frozen bF5 0
    have f1 := at_frozen bF5 1
    cases hon : onQ (gt L j) (gt L (nx L x)) (gt L x)
    · rw [hon] at HSS
      have hrw := fun k hk => (own5.lt k hk).1
      obtain ⟨px, hpx⟩ : ∃ px, px = (gt L x).1 := ⟨_, rfl⟩
      obtain ⟨py, hpy⟩ : ∃ py, py = (gt L x).2 := ⟨_, rfl⟩
      have HP : Hid (gt L x = (px, py)) := by
        show _ = _
        rw [hpx, hpy]
      simp only [← hpx, ← hpy] at x0 x1 ⊢
      clear hpx hpy
      have hl10 : M.length ≤ 9 := by omega
      have hs6 := hB5.size
      have hlt3 : w1.heap.size + 3 ≤ W5.heap.size := by have := sX5.lt; omega
      gi_wp2_with (gi_at_builtin; refine wpListIn_append_own _ rfl _ _ 39 rfl (w1.heap.size + 3) 46 i0 (.agg #[.int .i64 0, .int .i64 0]) 2 16 Try.underlying39 hi0 hz0 hz1 hz2 rfl (by decide) _ _ _ rfl (own5.alloc _) ⟨W5.heap.size, 0, none⟩ 1 1 [.int .i64 px, .int .i64 py] rfl rfl ?d1 ?d2 ?d3 ?d4 ?d5 ?_)
      case d1 => exact World.news_of_block (cs := #[.int .i64 px, .int .i64 py]) (t := 46) (fr := (0, 0)) (heap_alloc_new W5 _)
      case d2 => simp [Value.oneCell']
      case d3 => unfold maxLen; omega
      case d4 => omega
      case d5 => simp; omega
      intro v' w6 own6 hgrow _
      obtain ⟨g6, cp6, rfl⟩ := ownsRow_succ own6
      obtain ⟨hv1, hv2, hr2, hk2, hb2⟩ := bB5.appended (by decide) (own_base own5 (show w.heap.size ≤ w1.heap.size + 3 by omega)) hs6 hs1 (own_base own6 (show w.heap.size ≤ w1.heap.size + 3 by omega)) hgrow
      have hc6 := hv1.cell
      have hf6 := hv1.frozen
      have bF6 := (bF5.alloc (.cells #[.int .i64 px, .int .i64 py] 46)).grown hgrow (fun e => by have := hrw _ e.symm; omega)
      have bN6 := (bN5.alloc (.cells #[.int .i64 px, .int .i64 py] 46)).kept hgrow (fun e => by have := hrw _ e.symm; omega)
      have sX6 := side_kept (boxed_side sX5 (below1 W5 (.cells #[.int .i64 px, .int .i64 py] 46))) hgrow (own5.alloc _)
      have hv3 := hrow_other own6 0 (show w1.heap.size < w1.heap.size + 3 by omega) (.slice (some ⟨g6, 0, none⟩) (M.length + 1) cp6)
      have bF7 := at_set bF6 (b := w1.heap.size) (by omega) 0 (.slice (some ⟨g6, 0, none⟩) (M.length + 1) cp6)
      have bN7 := bN6.other (B' := w1.heap.size) (by omega) (.slice (some ⟨g6, 0, none⟩) (M.length + 1) cp6)
      have sX7 := side_set sX6 (b := w1.heap.size) (by omega) 0 (.slice (some ⟨g6, 0, none⟩) (M.length + 1) cp6)
      have hB7 := hB5.trans hb2
      have hlN : w1.heap.size + 1 + 1 ≠ w1.heap.size := by omega
      have hKB : w6.heap[w1.heap.size + 1 + 1]? = W5.heap[w1.heap.size + 1 + 1]? := ((hgrow.block _ (by simp; omega) (fun e => by have := hrw _ e.symm; omega))).trans (Below.heap_alloc _ _ _ (by omega))
      have hK7 : KeepP w.heap.size (w1.heap.size + 1 + 1) W (w6.setCell ⟨w1.heap.size, 0, none⟩ (.slice (some ⟨g6, 0, none⟩) (M.length + 1) cp6)) := keepP_t hK5 ⟨hb2, (Below.heap_setCell w6 ⟨w1.heap.size, 0, none⟩ _ _ hlN).trans hKB⟩
      have hF7 := hF5.trans (hk2.from W0.heap.size)
      have R := Lib.hid (And.intro hv2 (And.intro hv3 (And.intro bN7 (And.intro hB7 (And.intro hK7 hF7)))))
      clear x0 x1 x2 x3 c0 c1 f0 f1 hv2 hr2 hk2 hb2 hv3 bN7 hB7 hK7 hF7 hKB hgrow own6 own5 bF6 bN6 sX6 bF5 bN5 bB5 sX5 cB fB hK5 hF5 hB5 hv1
      obtain ⟨x0, x1, x2, x3⟩ := sX7.cells
      simp only [HP.out] at x0 x1
      have c0 := bF7.c0; have c1 := bF7.c1
      have f0 := at_frozen bF7 0
      have f1 := at_frozen bF7 1
      have c2 : ((w6.setCell ⟨w1.heap.size, 0, none⟩ (.slice (some ⟨g6, 0, none⟩) (M.length + 1) cp6)).setCell ⟨w1.heap.size + 1, 0, none⟩ (.int .i64 px)).cell? ⟨w1.heap.size + 1, 1, none⟩ = some (.int .i64 (gt L j).2) := (at_store bF7 px 0).c1
      clear sX7
      gi_wp2
      obtain ⟨r1, r2, r3, r4, r5, r6⟩ := R.out
      refine ⟨(r6.trans ((KeepsOthers.setCell _ _ _).from _)).trans ((KeepsOthers.setCell _ _ _).from _), (r5.setCell (by omega) (by omega) _ _).setCell (by omega) (by omega) _ _, ?_⟩
      simp only [HSS.out, cond_false, HP.out, List.length_append, List.length_cons, List.length_nil, flat_append]
      exact ⟨⟨⟨⟨_, box_set (box_set r1 0 (by omega) _) 1 (by omega) _, hrow_other (hrow_other r2 0 (by omega) _) 1 (by omega) _, trivial⟩, at_store1 (at_store bF7 px 0) py⟩, box_set (box_set r3 0 (by omega) _) 1 (by omega) _⟩, (r4.setCell (p := ⟨w1.heap.size + 1, 0, none⟩) (Nat.le_trans hs1 (Nat.le_succ _)) _).setCell (p := ⟨w1.heap.size + 1, 1, none⟩) (Nat.le_trans hs1 (Nat.le_succ _)) _⟩
    · rw [hon] at HSS
      obtain ⟨px, hpx⟩ : ∃ px, px = (gt L x).1 := ⟨_, rfl⟩
      obtain ⟨py, hpy⟩ : ∃ py, py = (gt L x).2 := ⟨_, rfl⟩
      have HP : Hid (gt L x = (px, py)) := by
        show _ = _
        rw [hpx, hpy]
      simp only [← hpx, ← hpy] at x0 x1 ⊢
      clear hpx hpy
      have c2 : (W5.setCell ⟨w1.heap.size + 1, 0, none⟩ (.int .i64 px)).cell? ⟨w1.heap.size + 1, 1, none⟩ = some (.int .i64 (gt L j).2) := (at_store bF5 px 0).c1
      have hs7 : w.heap.size ≤ w1.heap.size + 1 := Nat.le_trans hs1 (Nat.le_succ _)
      have R := Lib.hid (And.intro bB5 (And.intro own5 (And.intro bN5 (And.intro hB5 (And.intro hK5 hF5)))))
      clear bB5 own5 bN5 hB5 hK5 hF5
      gi_wp2
      obtain ⟨r1, r2, r3, r4, r5, r6⟩ := R.out
      refine ⟨(r6.trans ((KeepsOthers.setCell _ _ _).from _)).trans ((KeepsOthers.setCell _ _ _).from _), (r5.setCell hs7 (by omega) _ _).setCell hs7 (by omega) _ _, ?_⟩
      simp only [HSS.out, cond_true, HP.out]
      exact ⟨⟨⟨⟨_, box_set (box_set r1 0 (by omega) _) 1 (by omega) _, hrow_other (hrow_other r2 0 (by omega) _) 1 (by omega) _, trivial⟩, at_store1 (at_store bF5 px 0) py⟩, box_set (box_set r3 0 (by omega) _) 1 (by omega) _⟩, (r4.setCell (p := ⟨w1.heap.size + 1, 0, none⟩) hs7 _).setCell (p := ⟨w1.heap.size + 1, 1, none⟩) hs7 _⟩
  case done =>
    rintro D zs W hD rfl ⟨⟨⟨⟨v, bB4, own4, -⟩, bF4⟩, bN4⟩, hB4⟩ hK
    have cB := bB4.cell
    have hs9 := hB0.size
    gi_wp2
    refine ⟨by simp, .inl ⟨_, _, rfl, run_takeDeferred hK, ?_⟩⟩
    rw [HU.out]
    exact ⟨_, results_tmp rfl _ _ _, v, rfl, ownsRow_putObj (own_base own4 (show w.heap.size ≤ w1.heap.size + 3 by omega)) _ hK rfl, hB4.trans (belowK_b (w := w) (Nat.le_refl _) W D _ _ (by omega) hK rfl rfl)⟩
  case stop =>
    rintro D k pre W hD hpre h hK
    exact h.elim
end Go.Proofs.Ytnkehfhedjdhaaa

/-! PtFacts -/
namespace Go.Proofs.Ytnkehfhedjdhaaa
open Go.RowKit

theorem cross_flip (ax ay bx by' cx cy : Int) : crossI ax ay bx by' cx cy = -crossI bx by' ax ay cx cy := by
  unfold crossI
  simp only [Int.mul_sub, Int.mul_comm]
  omega
theorem cross_turn (ax ay bx by' cx cy : Int) : crossI ax ay bx by' cx cy = crossI bx by' cx cy ax ay := by
  unfold crossI
  simp only [Int.mul_sub, Int.mul_comm]
  omega
theorem cross_swap (ax ay bx by' cx cy : Int) : crossI ax ay bx by' cx cy = -crossI ax ay cx cy bx by' := by
  unfold crossI
  simp only [Int.mul_sub, Int.mul_comm]
  omega
theorem steps_flip (ax ay bx by' : Int) : stepsN bx by' ax ay = stepsN ax ay bx by' := by
  unfold stepsN
  have h1 : (ax - bx).natAbs = (bx - ax).natAbs := by omega
  have h2 : (ay - by').natAbs = (by' - ay).natAbs := by omega
  rw [h1, h2]
theorem steps_zero (ax ay bx by' : Int) : stepsN ax ay bx by' = 0 ↔ ax = bx ∧ ay = by' := by
  unfold stepsN
  rw [Nat.gcd_eq_zero_iff]
  omega
/-- The steps divide both differences. -/
theorem steps_div (ax ay bx by' : Int) : (stepsN ax ay bx by' : Int) * Int.tdiv (bx - ax) (stepsN ax ay bx by') = bx - ax ∧ (stepsN ax ay bx by' : Int) * Int.tdiv (by' - ay) (stepsN ax ay bx by') = by' - ay := by
  have h1 : (stepsN ax ay bx by' : Int) ∣ bx - ax := Int.ofNat_dvd_left.2 (Nat.gcd_dvd_left _ _)
  have h2 : (stepsN ax ay bx by' : Int) ∣ by' - ay := Int.ofNat_dvd_left.2 (Nat.gcd_dvd_right _ _)
  exact ⟨Int.mul_tdiv_cancel' h1, Int.mul_tdiv_cancel' h2⟩
/-- One step is no multiple. -/
theorem step_one {ax ay bx by' qx qy : Int} {n : Nat} (hn : 0 < n) (e : stepsN ax ay bx by' = n) (hx : (n : Int) * qx = bx - ax) (hy : (n : Int) * qy = by' - ay) : Nat.gcd qx.natAbs qy.natAbs = 1 := by
  have h : Nat.gcd (n * qx.natAbs) (n * qy.natAbs) = n := by
    have e1 : n * qx.natAbs = (bx - ax).natAbs := by rw [← hx, Int.natAbs_mul]; rfl
    have e2 : n * qy.natAbs = (by' - ay).natAbs := by rw [← hy, Int.natAbs_mul]; rfl
    rw [e1, e2]; exact e
  rw [Nat.gcd_mul_left] at h
  exact Nat.eq_of_mul_eq_mul_left hn (by omega)
/-- A point on the way lies on the line, and in the box. -/
theorem cross_way (ax ay qx qy : Int) (n i : Int) : crossI ax ay (ax + n * qx) (ay + n * qy) (ax + qx * i) (ay + qy * i) = 0 := by
  unfold crossI
  have e1 : ax + n * qx - ax = n * qx := by omega
  have e2 : ay + qy * i - ay = qy * i := by omega
  have e3 : ay + n * qy - ay = n * qy := by omega
  have e4 : ax + qx * i - ax = qx * i := by omega
  rw [e1, e2, e3, e4]
  have : n * qx * (qy * i) = n * qy * (qx * i) := by
    rw [Int.mul_assoc, Int.mul_assoc, ← Int.mul_assoc qx, ← Int.mul_assoc qy, Int.mul_comm qx qy]
  omega
theorem box_way (a q : Int) (n i : Nat) (h : i ≤ n) : min a (a + n * q) ≤ a + q * i ∧ a + q * i ≤ max a (a + n * q) := by
  have hi : (i : Int) ≤ n := by omega
  rcases Int.le_total 0 q with hq | hq
  · have h1 : 0 ≤ q * (i : Int) := Int.mul_nonneg hq (by omega)
    have h2 : q * (i : Int) ≤ q * n := Int.mul_le_mul_of_nonneg_left hi hq
    rw [Int.mul_comm q n] at h2
    generalize q * (i : Int) = u at *
    generalize (n : Int) * q = v at *
    omega
  · have h1 : q * (i : Int) ≤ 0 := Int.mul_nonpos_of_nonpos_of_nonneg hq (by omega)
    have h2 : q * (n : Int) ≤ q * i := Int.mul_le_mul_of_nonpos_left hq hi
    rw [Int.mul_comm q n] at h2
    generalize q * (i : Int) = u at *
    generalize (n : Int) * q = v at *
    omega
theorem square_zero (x y : Int) : x * x + y * y = 0 ↔ x = 0 ∧ y = 0 := by
  have h1 : 0 ≤ x * x := by rw [← Int.natAbs_mul_self (a := x)]; omega
  have h2 : 0 ≤ y * y := by rw [← Int.natAbs_mul_self (a := y)]; omega
  constructor
  · intro h
    have e1 : x * x = 0 := by omega
    have e2 : y * y = 0 := by omega
    exact ⟨(Int.mul_eq_zero.1 e1).elim id id, (Int.mul_eq_zero.1 e2).elim id id⟩
  · rintro ⟨rfl, rfl⟩; rfl
theorem sgn_minus (n : Int) : sgn (-n) = -sgn n := by
  rcases sgn_cases n with ⟨h, e⟩ | ⟨h, e⟩ | ⟨h, e⟩
  · rw [e, sgn_neg (by omega)]
  · rw [e, sgn_pos (by omega)]; rfl
  · rw [h]; rfl
theorem sgn_mul_neg (p q : Int) : sgn p * sgn q < 0 ↔ p * q < 0 := by
  rcases sgn_cases p with ⟨h, e⟩ | ⟨h, e⟩ | ⟨h, e⟩ <;> rcases sgn_cases q with ⟨h2, e2⟩ | ⟨h2, e2⟩ | ⟨h2, e2⟩ <;> rw [e, e2]
  · have := Int.mul_pos h h2; constructor <;> omega
  · have := Int.mul_neg_of_pos_of_neg h h2; constructor <;> omega
  · rw [h2]; simp
  · have := Int.mul_neg_of_neg_of_pos h h2; constructor <;> omega
  · have := Int.mul_pos_of_neg_of_neg h h2; constructor <;> omega
  · rw [h2]; simp
  · rw [h]; simp
  · rw [h]; simp
  · rw [h]; simp
/-- What meets depends on the shared ends as a set. -/
theorem same_set {M N : List (Int × Int)} (h : ∀ p, p ∈ M ↔ p ∈ N) : M.isEmpty = N.isEmpty ∧ sameAll M = sameAll N := by
  have key : ∀ M : List (Int × Int), sameAll M = true ↔ ∀ p ∈ M, ∀ q ∈ M, p = q := by
    intro M
    cases M with
    | nil => simp [sameAll]
    | cons x t =>
      simp only [sameAll, List.all_eq_true, Bool.and_eq_true, beq_iff_eq]
      constructor
      · intro h p hp q hq
        have e : ∀ r ∈ x :: t, r = x := fun r hr => by
          rcases List.mem_cons.1 hr with rfl | hr
          · rfl
          · exact Prod.ext (h r hr).1 (h r hr).2
        rw [e p hp, e q hq]
      · intro h y hy
        have := h y (List.mem_cons_of_mem _ hy) x (List.mem_cons_self)
        rw [this]; exact ⟨rfl, rfl⟩
  constructor
  · cases M with
    | nil =>
      cases N with
      | nil => rfl
      | cons y t => exact absurd ((h y).2 (List.mem_cons_self)) (by simp)
    | cons x t =>
      cases N with
      | nil => exact absurd ((h x).1 (List.mem_cons_self)) (by simp)
      | cons y u => rfl
  · have : sameAll M = true ↔ sameAll N = true := by
      rw [key, key]
      constructor
      · intro g p hp q hq; exact g p ((h p).2 hp) q ((h q).2 hq)
      · intro g p hp q hq; exact g p ((h p).1 hp) q ((h q).1 hq)
    cases h1 : sameAll M <;> cases h2 : sameAll N <;> simp_all
theorem meetI_of {a b c d a' b' c' d' : Int × Int} (ho : (opp a b c d && opp c d a b) = (opp a' b' c' d' && opp c' d' a' b')) (h : ∀ p, p ∈ sharedS a b c d ↔ p ∈ sharedS a' b' c' d') : meetI a b c d = meetI a' b' c' d' := by
  unfold meetI
  rw [ho, (same_set h).1, (same_set h).2]
theorem meetI_swap (a b c d : Int × Int) : meetI a b c d = meetI c d a b :=
  meetI_of (Bool.and_comm _ _) fun p => by
    unfold sharedS
    rw [List.mem_append, List.mem_append]
    exact Or.comm
theorem crossP_flip (a b p : Int × Int) : crossP b a p = -crossP a b p := by
  unfold crossP
  rw [cross_flip b.1]
theorem onP_flip (a b p : Int × Int) : onP b a p = onP a b p := by
  have hz : (crossI b.1 b.2 a.1 a.2 p.1 p.2 == 0) = (crossI a.1 a.2 b.1 b.2 p.1 p.2 == 0) := by
    rw [cross_flip b.1]
    cases h : (crossI a.1 a.2 b.1 b.2 p.1 p.2 == 0) <;> simp_all <;> omega
  unfold onP onI boxB
  rw [hz, Int.min_comm b.1, Int.max_comm b.1, Int.min_comm b.2, Int.max_comm b.2]
theorem opp_flip (a b c d : Int × Int) : opp b a d c = opp a b c d := by
  unfold opp
  rw [crossP_flip a b d, crossP_flip a b c, sgn_minus, sgn_minus, Int.neg_mul_neg, Int.mul_comm]
theorem meetI_flip (a b c d : Int × Int) : meetI b a d c = meetI a b c d :=
  meetI_of (by rw [opp_flip a b, opp_flip c d]) fun p => by
    simp only [sharedS, List.mem_append, List.mem_filter, List.mem_cons, List.not_mem_nil, or_false, onP_flip]
    constructor
    · rintro (⟨h1 | h1, h2⟩ | ⟨h1 | h1, h2⟩)
      · exact .inl ⟨.inr h1, h2⟩
      · exact .inl ⟨.inl h1, h2⟩
      · exact .inr ⟨.inr h1, h2⟩
      · exact .inr ⟨.inl h1, h2⟩
    · rintro (⟨h1 | h1, h2⟩ | ⟨h1 | h1, h2⟩)
      · exact .inl ⟨.inr h1, h2⟩
      · exact .inl ⟨.inl h1, h2⟩
      · exact .inr ⟨.inr h1, h2⟩
      · exact .inr ⟨.inl h1, h2⟩
theorem eqQ_comm (a b : Int × Int) : eqQ b a = eqQ a b := by
  unfold eqQ
  rw [Bool.beq_comm (a := b.1), Bool.beq_comm (a := b.2)]
theorem meetV_swap (a b c d : Int × Int) : meetV c d a b = meetV a b c d := by
  unfold meetV
  rw [meetI_swap a b c d]
  cases okQ a <;> cases okQ b <;> cases okQ c <;> cases okQ d <;> cases eqQ a b <;> cases eqQ c d <;> rfl
theorem meetV_flip (a b c d : Int × Int) : meetV b a d c = meetV a b c d := by
  unfold meetV
  rw [meetI_flip a b c d, eqQ_comm a b, eqQ_comm c d]
  cases okQ a <;> cases okQ b <;> cases okQ c <;> cases okQ d <;> cases eqQ a b <;> cases eqQ c d <;> rfl
theorem meetV_along {a b : Int × Int} (ha : okQ a = true) (hb : okQ b = true) (h : eqQ a b = false) : meetV a b b a = 3 := by
  have hn : ¬ a = b := fun e => by rw [e] at h; simp [eqQ] at h
  have h1 : opp a b b a = false := by
    have : crossP a b b = 0 := by simp [crossP, crossI, Int.mul_comm]
    simp [opp, this, sgn]
  have hS : sharedS a b b a = [a, b, b, a] := by
    simp [sharedS, on_left, on_right]
  have hs : sameAll [a, b, b, a] = false := by
    simp only [eqQ] at h
    simp only [sameAll, List.all_cons, List.all_nil]
    rw [Bool.beq_comm (a := b.1), Bool.beq_comm (a := b.2), h]; rfl
  unfold meetV meetI
  rw [ha, hb, h, eqQ_comm a b, h, h1, hS, hs]; rfl
/-- A crossing, by the four cross products. -/
theorem meetV_cross {a b c d : Int × Int} (ha : okQ a = true) (hb : okQ b = true) (hc : okQ c = true) (hd : okQ d = true) :
    (meetV a b c d == 2) = (decide (crossP a b c * crossP a b d < 0) && decide (crossP c d a * crossP c d b < 0)) := by
  have e1 : ∀ a b c d : Int × Int, opp a b c d = decide (crossP a b c * crossP a b d < 0) := fun a b c d => by
    unfold opp; simp only [sgn_mul_neg]
  rw [← e1, ← e1]
  have hz : ∀ a b c d : Int × Int, eqQ a b = true → opp a b c d = false := fun a b c d h => by
    simp only [eqQ, Bool.and_eq_true, beq_iff_eq] at h
    have : ∀ p, crossP a b p = 0 := fun p => by simp [crossP, crossI, h.1, h.2]
    simp [opp, this, sgn]
  unfold meetV
  rw [ha, hb, hc, hd]
  cases h1 : eqQ a b
  · cases h2 : eqQ c d
    · unfold meetI
      cases opp a b c d && opp c d a b <;> cases (sharedS a b c d).isEmpty <;> cases sameAll (sharedS a b c d) <;> rfl
    · rw [hz c d a b h2]; cases opp a b c d <;> rfl
  · rw [hz a b c d h1]; rfl
end Go.Proofs.Ytnkehfhedjdhaaa

/-! Geo -/
namespace Go.Proofs.Ytnkehfhedjdhaaa
open Go.RowKit

theorem mul_signs (x y : Int) : (0 < x → 0 < y → 0 < x * y) ∧ (x < 0 → y < 0 → 0 < x * y) ∧ (0 < x → y < 0 → x * y < 0) ∧ (x < 0 → 0 < y → x * y < 0) ∧ (x = 0 → x * y = 0) ∧ (y = 0 → x * y = 0) := by
  refine ⟨Int.mul_pos, Int.mul_pos_of_neg_of_neg, Int.mul_neg_of_pos_of_neg, Int.mul_neg_of_neg_of_pos, fun h => by rw [h, Int.zero_mul], fun h => by rw [h, Int.mul_zero]⟩
theorem prop_le {p q r s : Nat} (h : p * s = q * r) (hp : 0 < p) (hr : p ≤ r) : q ≤ s := by
  rcases Nat.lt_or_ge s q with h1 | h1
  · exfalso
    have h2 : p * s < p * q := Nat.mul_lt_mul_of_pos_left h1 hp
    have h3 : q * p ≤ q * r := Nat.mul_le_mul_left q hr
    rw [Nat.mul_comm q p] at h3
    omega
  · exact h1
theorem prop_ge {p q r s : Nat} (h : p * s = q * r) (hp : 0 < p) (hr : r ≤ p) : s ≤ q := by
  rcases Nat.lt_or_ge q s with h1 | h1
  · exfalso
    have h2 : p * q < p * s := Nat.mul_lt_mul_of_pos_left h1 hp
    have h3 : q * r ≤ q * p := Nat.mul_le_mul_left q hr
    rw [Nat.mul_comm q p] at h3
    omega
  · exact h1
theorem opp_x {ux uy vx vy : Int} (h : ux * vy = uy * vx) (hx : (0 < ux ∧ vx < 0) ∨ (ux < 0 ∧ 0 < vx)) :
    (0 < uy → vy < 0) ∧ (uy < 0 → 0 < vy) ∧ (uy = 0 → vy = 0) ∧ (ux.natAbs ≤ vx.natAbs → uy.natAbs ≤ vy.natAbs) ∧ (vx.natAbs ≤ ux.natAbs → vy.natAbs ≤ uy.natAbs) := by
  have hn : ux.natAbs * vy.natAbs = uy.natAbs * vx.natAbs := by rw [← Int.natAbs_mul, ← Int.natAbs_mul, h]
  have hp : 0 < ux.natAbs := by omega
  have m1 := mul_signs ux vy
  have m2 := mul_signs uy vx
  rw [h] at m1
  generalize uy * vx = z at *
  refine ⟨?_, ?_, ?_, prop_le hn hp, prop_ge hn hp⟩
  · intro hu
    rcases Int.lt_trichotomy vy 0 with hz | hz | hz
    · exact hz
    · exfalso
      rcases hx with hx | hx
      · have := m2.2.2.1 hu hx.2; have := m1.2.2.2.2.2 hz; omega
      · have := m2.1 hu hx.2; have := m1.2.2.2.2.2 hz; omega
    · exfalso
      rcases hx with hx | hx
      · have := m2.2.2.1 hu hx.2; have := m1.1 hx.1 hz; omega
      · have := m2.1 hu hx.2; have := m1.2.2.2.1 hx.1 hz; omega
  · intro hu
    rcases Int.lt_trichotomy vy 0 with hz | hz | hz
    · exfalso
      rcases hx with hx | hx
      · have := m2.2.1 hu hx.2; have := m1.2.2.1 hx.1 hz; omega
      · have := m2.2.2.2.1 hu hx.2; have := m1.2.1 hx.1 hz; omega
    · exfalso
      rcases hx with hx | hx
      · have := m2.2.1 hu hx.2; have := m1.2.2.2.2.2 hz; omega
      · have := m2.2.2.2.1 hu hx.2; have := m1.2.2.2.2.2 hz; omega
    · exact hz
  · intro hu
    have := m2.2.2.2.2.1 hu
    rcases Int.lt_trichotomy vy 0 with hz | hz | hz
    · exfalso
      rcases hx with hx | hx
      · have := m1.2.2.1 hx.1 hz; omega
      · have := m1.2.1 hx.1 hz; omega
    · exact hz
    · exfalso
      rcases hx with hx | hx
      · have := m1.1 hx.1 hz; omega
      · have := m1.2.2.2.1 hx.1 hz; omega
/-- x is between a and b. -/
def bt (a b x : Int) : Prop := (a ≤ x ∧ x ≤ b) ∨ (b ≤ x ∧ x ≤ a)
/-- Three points 0, u, u + v on a line: one is between the others. -/
theorem between3 {ux uy vx vy : Int} (h : ux * vy = uy * vx) :
    (bt 0 (ux + vx) ux ∧ bt 0 (uy + vy) uy) ∨ (bt ux (ux + vx) 0 ∧ bt uy (uy + vy) 0) ∨ (bt 0 ux (ux + vx) ∧ bt 0 uy (uy + vy)) := by
  unfold bt
  by_cases hx : (0 < ux ∧ vx < 0) ∨ (ux < 0 ∧ 0 < vx)
  · obtain ⟨k1, k2, k3, k4, k5⟩ := opp_x h hx
    right
    rcases Nat.le_total ux.natAbs vx.natAbs with hm | hm
    · have := k4 hm
      left
      constructor
      · omega
      · rcases Int.lt_trichotomy uy 0 with hu | hu | hu
        · have := k2 hu; omega
        · have := k3 hu; omega
        · have := k1 hu; omega
    · have := k5 hm
      right
      constructor
      · omega
      · rcases Int.lt_trichotomy uy 0 with hu | hu | hu
        · have := k2 hu; omega
        · have := k3 hu; omega
        · have := k1 hu; omega
  · by_cases hy : (0 < uy ∧ vy < 0) ∨ (uy < 0 ∧ 0 < vy)
    · obtain ⟨k1, k2, k3, k4, k5⟩ := opp_x h.symm hy
      right
      rcases Nat.le_total uy.natAbs vy.natAbs with hm | hm
      · have := k4 hm
        left
        constructor
        · rcases Int.lt_trichotomy ux 0 with hu | hu | hu
          · have := k2 hu; omega
          · have := k3 hu; omega
          · have := k1 hu; omega
        · omega
      · have := k5 hm
        right
        constructor
        · rcases Int.lt_trichotomy ux 0 with hu | hu | hu
          · have := k2 hu; omega
          · have := k3 hu; omega
          · have := k1 hu; omega
        · omega
    · left
      constructor <;> omega
theorem boxB_iff (ax ay bx by' px py : Int) : boxB ax ay bx by' px py = true ↔ bt ax bx px ∧ bt ay by' py := by
  unfold bt boxB
  simp only [Bool.and_eq_true, inB_spec]
  omega
theorem onP_iff (a b p : Int × Int) : onP a b p = true ↔ crossP a b p = 0 ∧ bt a.1 b.1 p.1 ∧ bt a.2 b.2 p.2 := by
  unfold onP onI crossP
  rw [Bool.and_eq_true, beq_iff_eq, boxB_iff]
/-- One of three points on a line is between the others. -/
theorem on_line {a b c : Int × Int} (h : crossP a b c = 0) : onP a c b = true ∨ onP b c a = true ∨ onP a b c = true := by
  have h' : (b.1 - a.1) * (c.2 - b.2) = (b.2 - a.2) * (c.1 - b.1) := by
    unfold crossP crossI at h
    have e1 : c.2 - a.2 = (b.2 - a.2) + (c.2 - b.2) := by omega
    have e2 : c.1 - a.1 = (b.1 - a.1) + (c.1 - b.1) := by omega
    rw [e1, e2, Int.mul_add, Int.mul_add, Int.mul_comm (b.2 - a.2) (b.1 - a.1)] at h
    omega
  have f1 : crossP a c b = 0 := by
    have := h
    unfold crossP at this ⊢
    rw [cross_swap] at this; omega
  have f2 : crossP b c a = 0 := by
    have := h
    unfold crossP at this ⊢
    rw [cross_turn] at this; exact this
  simp only [onP_iff]
  have := between3 h'
  unfold bt at *
  rcases this with h1 | h1 | h1
  · exact .inl ⟨f1, by omega, by omega⟩
  · exact .inr (.inl ⟨f2, by omega, by omega⟩)
  · exact .inr (.inr ⟨h, by omega, by omega⟩)
theorem eqQ_iff (p q : Int × Int) : eqQ p q = true ↔ p = q := by
  unfold eqQ
  rw [Bool.and_eq_true, beq_iff_eq, beq_iff_eq, Prod.ext_iff]
theorem sameAll_iff (x : Int × Int) (t : List (Int × Int)) : sameAll (x :: t) = true ↔ ∀ y ∈ x :: t, y = x := by
  simp only [sameAll, List.all_eq_true, Bool.and_eq_true, beq_iff_eq]
  constructor
  · intro h y hy
    rcases List.mem_cons.1 hy with rfl | hy
    · rfl
    · exact Prod.ext (h y hy).1 (h y hy).2
  · intro h y hy
    rw [h y (List.mem_cons_of_mem _ hy)]
    exact ⟨rfl, rfl⟩
theorem meet_one {a b c d : Int × Int} (h : meetI a b c d = 1) : ∀ p q, p ∈ sharedS a b c d → q ∈ sharedS a b c d → p = q := by
  unfold meetI at h
  cases h1 : (opp a b c d && opp c d a b)
  · rw [h1] at h
    cases hS : sharedS a b c d with
    | nil => intro p q hp; simp at hp
    | cons x t =>
      rw [hS] at h
      cases h2 : sameAll (x :: t)
      · rw [h2] at h; simp at h
      · have := (sameAll_iff x t).1 h2
        intro p q hp hq
        rw [this p hp, this q hq]
  · rw [h1] at h; simp at h
theorem mem_shared {a b c d p : Int × Int} : p ∈ sharedS a b c d ↔ ((p = a ∨ p = b) ∧ onP c d p = true) ∨ ((p = c ∨ p = d) ∧ onP a b p = true) := by
  simp [sharedS, List.mem_filter]
/-- Two sides that touch at their common corner: on a line only if the corner is between the others. -/
theorem touch_between {a b c : Int × Int} (hab : a ≠ b) (hbc : b ≠ c) (h : meetI a b b c = 1) (hc : crossP a b c = 0) : onP a c b = true := by
  have hb : b ∈ sharedS a b b c := mem_shared.2 (.inl ⟨.inr rfl, on_left b c⟩)
  rcases on_line hc with h1 | h1 | h1
  · exact h1
  · exact absurd (meet_one h a b (mem_shared.2 (.inl ⟨.inl rfl, h1⟩)) hb) hab
  · exact absurd (meet_one h b c hb (mem_shared.2 (.inr ⟨.inr rfl, h1⟩))) hbc

/-! ### A polygon's sides -/
theorem polyB_spec {L : List (Int × Int)} (h : polyB L = true) : (3 ≤ L.length ∧ L.length ≤ 10) ∧ allOk L = true ∧ (∀ i, i < L.length → gt L i ≠ gt L (nx L i)) ∧
    (∀ i k, i < k → k < L.length → pairM L i k = bif adjB L.length i k then 1 else 0) := by
  simp only [polyB, Bool.and_eq_true] at h
  obtain ⟨⟨⟨h1, h2⟩, h3⟩, h4⟩ := h
  have hn := inB_spec.1 h1
  refine ⟨by omega, h2, fun i hi he => ?_, fun i k hi hk => ?_⟩
  · have := List.all_eq_true.1 h3 i (List.mem_range.2 hi)
    rw [show eqQ (gt L i) (gt L ((i + 1) % L.length)) = true from (eqQ_iff _ _).2 he] at this
    simp at this
  · have h5 := List.all_eq_true.1 (List.all_eq_true.1 h4 i (List.mem_range.2 (by omega))) k (List.mem_range.2 hk)
    simp only [Bool.or_eq_true, decide_eq_true_eq] at h5
    rcases h5 with h5 | h5
    · omega
    · unfold pairOk at h5
      cases ha : adjB L.length i k
      · rw [ha] at h5; simpa using h5
      · rw [ha] at h5; simpa using h5
theorem nx_lt {L : List (Int × Int)} (h : 0 < L.length) (i : Nat) : nx L i < L.length := Nat.mod_lt _ h
theorem pv_lt {L : List (Int × Int)} (h : 0 < L.length) (i : Nat) : pv L i < L.length := Nat.mod_lt _ h
theorem nx_eq {L : List (Int × Int)} {i : Nat} (hi : i < L.length) : nx L i = if i + 1 = L.length then 0 else i + 1 := by
  unfold nx
  by_cases h : i + 1 = L.length
  · rw [if_pos h, h, Nat.mod_self]
  · rw [if_neg h, Nat.mod_eq_of_lt (by omega)]
theorem pv_eq {L : List (Int × Int)} {i : Nat} (hi : i < L.length) : pv L i = if i = 0 then L.length - 1 else i - 1 := by
  unfold pv
  by_cases h : i = 0
  · rw [if_pos h, h, Nat.zero_add, Nat.mod_eq_of_lt (by omega)]
  · rw [if_neg h, show i + L.length - 1 = (i - 1) + L.length by omega, Nat.add_mod_right, Nat.mod_eq_of_lt (by omega)]
theorem nx_pv {L : List (Int × Int)} {i : Nat} (hi : i < L.length) : nx L (pv L i) = i := by
  rw [nx_eq (pv_lt (by omega) i), pv_eq hi]
  by_cases h : i = 0
  · rw [if_pos h]; rw [if_pos (by omega)]; omega
  · rw [if_neg h]; rw [if_neg (by omega)]; omega
/-- The side to a corner and the side from it touch. -/
theorem meet_next {L : List (Int × Int)} (h : polyB L = true) {i : Nat} (hi : i < L.length) : meetI (gt L (pv L i)) (gt L i) (gt L i) (gt L (nx L i)) = 1 := by
  obtain ⟨hn, _, _, hp⟩ := polyB_spec h
  by_cases h0 : i = 0
  · subst h0
    have h1 := hp 0 (L.length - 1) (by omega) (by omega)
    have e : adjB L.length 0 (L.length - 1) = true := by simp [adjB]
    rw [e] at h1
    have h2 : nx L (L.length - 1) = 0 := by rw [nx_eq (by omega), if_pos (by omega)]
    have h3 : pv L 0 = L.length - 1 := by rw [pv_eq hi, if_pos rfl]
    rw [h3, meetI_swap]
    unfold pairM at h1
    rw [show (L.length - 1 + 1) % L.length = nx L (L.length - 1) from rfl, h2] at h1
    exact h1
  · have h1 := hp (i - 1) i (by omega) hi
    have e : adjB L.length (i - 1) i = true := by simp [adjB]; omega
    rw [e] at h1
    have h3 : pv L i = i - 1 := by rw [pv_eq hi, if_neg h0]
    rw [h3]
    unfold pairM at h1
    rw [show (i - 1 + 1) % L.length = nx L (i - 1) from rfl, nx_eq (by omega), if_neg (by omega), show i - 1 + 1 = i by omega] at h1
    exact h1
theorem on_bent {L : List (Int × Int)} (h : polyB L = true) {i : Nat} (hi : i < L.length) : onQ (gt L (pv L i)) (gt L (nx L i)) (gt L i) = !(bentB L i) := by
  obtain ⟨hn, hok, hne, _⟩ := polyB_spec h
  rw [onQ_ok (gt_ok hok _) (gt_ok hok _) (gt_ok hok _), bentB, Bool.not_not]
  have h1 := hne (pv L i) (pv_lt (by omega) i)
  rw [nx_pv hi] at h1
  rw [Bool.eq_iff_iff, beq_iff_eq]
  constructor
  · intro h2
    have := ((onP_iff _ _ _).1 h2).1
    unfold crossP at this ⊢
    rw [cross_swap, this]; rfl
  · exact touch_between h1 (hne i hi) (meet_next h hi)
theorem stP_range {L : List (Int × Int)} (h : polyB L = true) : ∀ k, k ≤ L.length → stP L (List.range k) = (if k = 0 then L.length - 1 else k - 1, straightTill L k) := by
  intro k
  induction k with
  | zero => intro _; rfl
  | succ k ih =>
    intro hk
    rw [List.range_succ, stP_snoc, ih (by omega)]
    unfold stStep
    have e : (if k = 0 then L.length - 1 else k - 1) = pv L k := (pv_eq (by omega)).symm
    simp only [e, on_bent h (show k < L.length by omega)]
    rw [if_neg (by omega), show k + 1 - 1 = k by omega, straightTill]
    cases bentB L k <;> rfl
theorem stP_straight {L : List (Int × Int)} (h : polyB L = true) : (stP L (List.range L.length)).2 = straightL L := by
  rw [stP_range h _ (Nat.le_refl _)]; rfl

theorem impl_straight (A : Option Addr) (c : Nat) (L : List (Int × Int)) (w : World) (hA : PtsA w A L) (hL : L.length ≤ 1048576) :
    Calls Try.prog 119 #[.slice A L.length c] w (Lists w (straightV L)) := by
  cases hp : polyB L
  · have HU : Hid (Lists w (straightV L) = fun e w' => ∃ v, e = .returned v ∧ w'.ownsRow w.heap.size 46 2 v 0 [] ∧ Below w.heap.size w w') := by
      show _ = _
      unfold straightV
      rw [hp]; rfl
    have PC := Lib.hid (impl_poly A c L w hA hL)
    rw [hp] at PC
    go_enter Try.func119, Try.ntmps119
    go_wp2_with fail
    refine PC.out.mono ?_
    rintro e w1 ⟨rfl, hb1⟩
    go_wp2_with fail
    go_ret
    rw [HU.out]
    exact ⟨_, rfl, World.ownsRow_nil _ _ _ _, hb1⟩
  · have := impl_straight_yes A c L w hA hp
    rw [stP_straight hp] at this
    unfold straightV
    rw [hp]
    exact this
end Go.Proofs.Ytnkehfhedjdhaaa

/-! Clone -/
namespace Go.Proofs.Ytnkehfhedjdhaaa
open Go.RowKit

theorem ptsA_news {w : World} {g : Nat} {L : List (Int × Int)} (h : PtsA w (some ⟨g, 0, none⟩) L) (k : Nat) : ∀ j u, (flat (L.drop k))[j]? = some u → w.cell? (Addr.add ⟨g, k * 2, none⟩ j) = some u := by
  intro j u hu
  have hj : j < (flat (L.drop k)).length := by
    rcases Nat.lt_or_ge j (flat (L.drop k)).length with h1 | h1
    · exact h1
    · rw [List.getElem?_eq_none h1] at hu; cases hu
  rw [flat_len, List.length_drop] at hj
  have hq : k + j / 2 < L.length := by omega
  obtain ⟨g', hg', h1, h2⟩ := h (k + j / 2) hq
  cases hg'
  have hf := flat_at (L.drop k) (j / 2) (by rw [List.length_drop]; omega)
  have hadd : Addr.add ⟨g, k * 2, none⟩ j = ⟨g, k * 2 + j, none⟩ := by
    unfold Addr.add
    split
    · rename_i h0; subst h0; rfl
    · rfl
  rw [hadd]
  have hd : (L.drop k)[j / 2]'(by rw [List.length_drop]; omega) = L[k + j / 2] := List.getElem_drop ..
  rw [hd] at hf
  rcases Nat.mod_two_eq_zero_or_one j with hm | hm
  · have e : j = j / 2 * 2 := by omega
    have e2 : k * 2 + j = (k + j / 2) * 2 := by omega
    rw [e2, h1, ← hu]
    rw [show (flat (L.drop k))[j]? = (flat (L.drop k))[j / 2 * 2]? from by rw [← e]]
    exact hf.1.symm
  · have e : j = j / 2 * 2 + 1 := by omega
    have e2 : k * 2 + j = (k + j / 2) * 2 + 1 := by omega
    rw [e2, h2, ← hu]
    rw [show (flat (L.drop k))[j]? = (flat (L.drop k))[j / 2 * 2 + 1]? from by rw [← e]]
    exact hf.2.symm
theorem flat_one (L : List (Int × Int)) : ∀ u ∈ flat L, u.oneCell' = true := by
  intro u hu
  simp only [flat, List.mem_flatMap, List.mem_cons, List.not_mem_nil, or_false] at hu
  obtain ⟨p, -, h | h⟩ := hu <;> subst h <;> rfl

set_option maxRecDepth 100000 in
set_option maxHeartbeats 1000000 in
theorem clone_any (A : Option Addr) (c : Nat) (L : List (Int × Int)) (w : World) (hA : PtsA w A L) (h1 : 1 ≤ L.length) (h2 : L.length ≤ 1048576) :
    Calls Try.prog 143 #[.slice A L.length c] w (Lists w L) := by
  obtain ⟨i0, hi0, hz0, hz1, hz2⟩ := info_parts infoPt
  obtain ⟨g, rfl, -⟩ := hA 0 h1
  have HU : Hid (Lists w L = fun e w' => ∃ v, e = .returned v ∧ w'.ownsRow w.heap.size 46 2 v L.length (flat L) ∧ Below w.heap.size w w') := rfl
  have hn := Lib.run_eql_slice_nil (P := Try.prog)
  have own0 := World.ownsRow_lit (base := w.heap.size) (e := 46) (size := 2) w #[] 0 (Nat.le_refl _) (by unfold maxLen; omega) (by rfl)
  have hb0 := below1 w (.cells #[] 46)
  have hA1 := ptsA_on hA hb0
  go_enter Try.func143, Try.ntmps143
  have HN := Lib.hid (ptsA_news hA1 0)
  rw [List.drop_zero, Nat.zero_mul] at HN
  clear hA hA1
  go_wp2_with (at_builtin; refine wpList_append_own _ rfl _ _ 39 rfl w.heap.size 46 i0 (.agg #[.int .i64 0, .int .i64 0]) 2 16 Try.underlying39 hi0 hz0 hz1 hz2 rfl (by decide) _ _ _ rfl own0 ⟨g, 0, none⟩ L.length c (flat L) rfl (flat_len L) HN.out (flat_one L) ?d3 ?d4 (by simp) ?_)
  case d3 => unfold maxLen; omega
  case d4 => omega
  intro v' w6 own6 hgrow _
  have R : Hid (w6.ownsRow w.heap.size 46 2 v' L.length (flat L) ∧ Below w.heap.size w w6) :=
    ⟨by simpa using own6, hb0.grown hgrow (by simp) (fun k hk => (own0.lt k hk).1)⟩
  clear own0 own6 hgrow hb0
  go_wp2_with fail
  go_ret
  rw [HU.out]
  exact ⟨_, rfl, R.out.1, R.out.2⟩

/-! ### slices.Reverse behind the first element -/
/-- After k rounds. -/
def revAt (M : List (Int × Int)) (k t : Nat) : Int × Int := if 1 ≤ t ∧ (t ≤ k ∨ M.length - k ≤ t) then gt M (M.length - t) else gt M t
def revK (M : List (Int × Int)) (k : Nat) : List (Int × Int) := (List.range M.length).map (revAt M k)
theorem revK_len (M : List (Int × Int)) (k : Nat) : (revK M k).length = M.length := by simp [revK]
theorem revK_zero (M : List (Int × Int)) : revK M 0 = M := by
  apply List.ext_getElem (by simp [revK])
  intro t h1 h2
  simp only [revK, List.getElem_map, List.getElem_range, revAt]
  rw [if_neg (by omega), gt_at h2]
theorem revK_all (M : List (Int × Int)) {k : Nat} (h : M.length ≤ 2 * k + 2) (h0 : 1 ≤ M.length) : revK M k = turnL M := by
  apply List.ext_getElem (by simp [revK, turnL, turnTill]; omega)
  intro t h1 h2
  have ht : t < M.length := by simpa [revK] using h1
  simp only [revK, List.getElem_map, List.getElem_range, revAt]
  cases t with
  | zero => rw [if_neg (by omega)]; rfl
  | succ t =>
    have e : (turnL M)[t + 1]'h2 = gt M (M.length - 1 - t) := by simp [turnL, turnTill]
    rw [e]
    by_cases hc : t + 1 ≤ k ∨ M.length - k ≤ t + 1
    · rw [if_pos ⟨by omega, hc⟩]; congr 1; omega
    · rw [if_neg (by omega)]; congr 1; omega
theorem gt_revK (M : List (Int × Int)) (k t : Nat) (ht : t < M.length) : gt (revK M k) t = revAt M k t := by
  rw [gt_at (by rw [revK_len]; exact ht)]
  simp [revK]
theorem revK_step (M : List (Int × Int)) (k : Nat) (h : 2 * k + 2 < M.length) :
    revK M (k + 1) = ((revK M k).set (1 + k) (gt (revK M k) (M.length - 1 - k))).set (M.length - 1 - k) (gt (revK M k) (1 + k)) := by
  rw [gt_revK _ _ _ (by omega), gt_revK _ _ _ (by omega)]
  apply List.ext_getElem (by simp [revK])
  intro t h1 h2
  have ht : t < M.length := by simpa [revK] using h1
  rw [List.getElem_set, List.getElem_set]
  simp only [revK, List.getElem_map, List.getElem_range, revAt]
  by_cases e1 : M.length - 1 - k = t
  · rw [if_pos e1, if_pos (by omega), if_neg (by omega)]; congr 1; omega
  · rw [if_neg e1]
    by_cases e2 : 1 + k = t
    · rw [if_pos e2, if_pos (by omega), if_neg (by omega)]; congr 1; omega
    · rw [if_neg e2]
      by_cases hc : 1 ≤ t ∧ (t ≤ k ∨ M.length - k ≤ t)
      · rw [if_pos (by omega), if_pos hc]
      · rw [if_neg (by omega), if_neg hc]
theorem flat_set1 (M : List (Int × Int)) : ∀ i (p : Int × Int), i < M.length → flat (M.set i p) = ((flat M).set (i * 2) (.int .i64 p.1)).set (i * 2 + 1) (.int .i64 p.2) := by
  induction M with
  | nil => intro i p h; simp at h
  | cons q M ih =>
    intro i p h
    have e : ∀ (r : Int × Int) (N : List (Int × Int)), flat (r :: N) = .int .i64 r.1 :: .int .i64 r.2 :: flat N := fun _ _ => rfl
    cases i with
    | zero => rw [List.set_cons_zero, e, e]; rfl
    | succ i =>
      rw [List.set_cons_succ, e, e, ih i p (by simpa using h)]
      have h1 : (i + 1) * 2 = i * 2 + 1 + 1 := by omega
      have h2 : (i + 1) * 2 + 1 = i * 2 + 1 + 1 + 1 := by omega
      rw [h2, h1]
      simp

theorem pts_own {w : World} {B g n cap : Nat} {L : List (Int × Int)} (h : w.ownsRow B 46 2 (.slice (some ⟨g, 0, none⟩) n cap) n (flat L)) (hn : L.length = n) : ∀ k, k < n → w.cell? ⟨g, k * 2, none⟩ = some (.int .i64 (gt L k).1) ∧ w.cell? ⟨g, k * 2 + 1, none⟩ = some (.int .i64 (gt L k).2) := by
  intro k hk
  have hk' : k < L.length := by omega
  rw [h.cellAt (k * 2) (by omega), h.cellAt (k * 2 + 1) (by omega), gt_at hk']
  exact flat_at L k hk'

theorem grown_drew {w w' : World} {r : Option Nat} (h : w.grownBy w' r) : w.grownBy w'.drew r := ⟨h.os, h.tape, h.output, h.size, h.block⟩
set_option maxRecDepth 100000 in
set_option maxHeartbeats 4000000 in
theorem rev_any (B g cap : Nat) (M : List (Int × Int)) (w : World) (hown : w.ownsRow B 46 2 (.slice (some ⟨g, 0, none⟩) M.length cap) M.length (flat M)) (h1 : 2 ≤ M.length) (h2 : M.length ≤ 1048576) :
    Calls Try.prog 73 #[.slice (some ⟨g, 2, none⟩) (M.length - 1) (cap - 1)] w fun e w' => (∃ v, e = .returned v) ∧ w'.ownsRow B 46 2 (.slice (some ⟨g, 0, none⟩) M.length cap) M.length (flat (turnL M)) ∧ w.grownBy w' (some g) := by
  obtain ⟨n, hn⟩ : ∃ n, n = M.length := ⟨_, rfl⟩
  have HN := Lib.hid hn
  rw [← hn] at hown h1 h2 ⊢
  clear hn
  have f1 : ((n - 1 : Nat) : Int) - 1 = ((n - 2 : Nat) : Int) := by omega
  go_enter Try.func73, Try.ntmps73
  go_wp2_with fail
  go_loopw [2, 3] (fun i j wr => ∃ k q : Nat, i = .int .i64 k ∧ j = .int .i64 q ∧ Hid (k + q + 2 = n ∧ k ≤ q + 1) ∧ wr.ownsRow B 46 2 (.slice (some ⟨g, 0, none⟩) n cap) n (flat (revK M k)) ∧ w.grownBy wr (some g)) (fun i j _ => n - (intOf i).toNat)
  case atStart => exact ⟨0, n - 2, rfl, rfl, ⟨by omega, by omega⟩, by rw [revK_zero]; exact hown, World.grownBy.refl _ _⟩
  case round =>
    obtain ⟨k, q, rfl, rfl, HK, own, hgr⟩ := hrel
    have hk1 := HK.out.1
    by_cases hlt : k < q
    · obtain ⟨x, hx⟩ : ∃ x, x = (gt (revK M k) (1 + k)).1 := ⟨_, rfl⟩
      obtain ⟨y, hy⟩ : ∃ y, y = (gt (revK M k) (1 + k)).2 := ⟨_, rfl⟩
      obtain ⟨x', hx'⟩ : ∃ x', x' = (gt (revK M k) (1 + q)).1 := ⟨_, rfl⟩
      obtain ⟨y', hy'⟩ : ∃ y', y' = (gt (revK M k) (1 + q)).2 := ⟨_, rfl⟩
      have hP := pts_own own (by rw [revK_len]; exact HN.out.symm)
      have p1 := hP (1 + k) (by omega)
      have p2 := hP (1 + q) (by omega)
      rw [← hx, ← hy] at p1
      rw [← hx', ← hy'] at p2
      have e1 : (1 + k) * 2 = 2 + k * 2 := by omega
      have e2 : (1 + q) * 2 = 2 + q * 2 := by omega
      rw [e1] at p1
      rw [e2] at p2
      obtain ⟨c1, c2⟩ := p1
      obtain ⟨c3, c4⟩ := p2
      have f2 := own.frozenAt (2 + k * 2)
      have f3 := own.frozenAt (2 + k * 2 + 1)
      have f4 := own.frozenAt (2 + q * 2)
      have f5 := own.frozenAt (2 + q * 2 + 1)
      have hk2 : (k : Int) < ((n - 1 : Nat) : Int) := by omega
      have hq2 : (q : Int) < ((n - 1 : Nat) : Int) := by omega
      have hml : (revK M k).length = n := by rw [revK_len]; exact HN.out.symm
      have own4 := ((((own.stored (2 + k * 2) (.int .i64 x')).1.stored (2 + k * 2 + 1) (.int .i64 y')).1.stored (2 + q * 2) (.int .i64 x)).1.stored (2 + q * 2 + 1) (.int .i64 y)).1
      have hq1 : M.length - 1 - k = 1 + q := by have := HN.out; omega
      have hstep : revK M (k + 1) = ((revK M k).set (1 + k) (x', y')).set (1 + q) (x, y) := by
        rw [revK_step M k (by have := HN.out; omega), hq1, hx, hy, hx', hy']
      have hflat : ((((flat (revK M k)).set (2 + k * 2) (.int .i64 x')).set (2 + k * 2 + 1) (.int .i64 y')).set (2 + q * 2) (.int .i64 x)).set (2 + q * 2 + 1) (.int .i64 y) = flat (revK M (k + 1)) := by
        rw [hstep, flat_set1 _ _ _ (by rw [List.length_set]; omega), flat_set1 _ _ _ (by omega), e1, e2]
      rw [hflat] at own4
      have hgr4 := only_set (only_set (only_set (only_set hgr (2 + k * 2) (.int .i64 x')) (2 + k * 2 + 1) (.int .i64 y')) (2 + q * 2) (.int .i64 x)) (2 + q * 2 + 1) (.int .i64 y)
      have R := Lib.hid (And.intro own4 hgr4)
      clear own own4 hgr hgr4 hP e1 e2 hx hy hx' hy' hk1 hown hflat hstep hq1 hml
      have hq0 : (0 : Int) ≤ (q : Int) - 1 := by omega
      have g1 : (q : Int) - 1 = ((q - 1 : Nat) : Int) := by omega
      go_wp2_with fail
      go_region
      go_wp2_with fail
      go_roundw
      case rel => exact ⟨k + 1, q - 1, by go_num, by first | rfl | go_num | exact congrArg _ g1, ⟨by have := HK.out.1; omega, by omega⟩, own_drew R.out.1, grown_drew R.out.2⟩
      case measure => simp [intOf]; omega
    · have e : revK M k = turnL M := revK_all M (by have := HN.out; have := HK.out; omega) (by have := HN.out; omega)
      rw [e] at own
      have R := Lib.hid (And.intro own hgr)
      clear own hgr hown hk1 e
      go_wp2_with fail
      go_end0
      exact ⟨⟨_, rfl⟩, R.out.1, R.out.2⟩

theorem own_cap {w : World} {B g n cap : Nat} {e : TypeId} {size : Nat} {xs : List Value} (h : w.ownsRow B e size (.slice (some ⟨g, 0, none⟩) n cap) n xs) : n ≤ cap := by
  rcases h.2 with ⟨h1, _⟩ | ⟨g', cap', cur, hv, hB, hg, h3⟩
  · cases h1
  · simp only [Value.slice.injEq] at hv
    obtain ⟨-, -, rfl⟩ := hv
    exact h3.1

set_option maxRecDepth 100000 in
set_option maxHeartbeats 2000000 in
theorem impl_turn (A : Option Addr) (c : Nat) (L : List (Int × Int)) (w : World) (hA : PtsA w A L) (hL : L.length ≤ 1048576) :
    Calls Try.prog 125 #[.slice A L.length c] w (Lists w (turnV L)) := by
  cases hp : polyB L
  · have HU : Hid (Lists w (turnV L) = fun e w' => ∃ v, e = .returned v ∧ w'.ownsRow w.heap.size 46 2 v 0 [] ∧ Below w.heap.size w w') := by
      show _ = _
      unfold turnV
      rw [hp]; rfl
    have PC := Lib.hid (impl_poly A c L w hA hL)
    rw [hp] at PC
    go_enter Try.func125, Try.ntmps125
    go_wp2_with fail
    refine PC.out.mono ?_
    rintro e w1 ⟨rfl, hb1⟩
    go_wp2_with fail
    go_ret
    rw [HU.out]
    exact ⟨_, rfl, World.ownsRow_nil _ _ _ _, hb1⟩
  · obtain ⟨h3, h10, hok⟩ := polyB_all hp
    have hlen : (turnL L).length = L.length := by simp [turnL, turnTill]; omega
    have HU : Hid (Lists w (turnV L) = fun e w' => ∃ v, e = .returned v ∧ w'.ownsRow w.heap.size 46 2 v L.length (flat (turnL L)) ∧ Below w.heap.size w w') := by
      show _ = _
      unfold turnV
      rw [hp, ← hlen]; rfl
    have PC := Lib.hid (impl_poly A c L w hA hL)
    rw [hp] at PC
    have HC := Lib.hid (fun (W : World) (hb : Below w.heap.size w W) => clone_any A c L W (ptsA_on hA hb) (by omega) hL)
    unfold Lists at HC
    clear hA hlen
    go_enter Try.func125, Try.ntmps125
    go_wp2_with fail
    refine PC.out.mono ?_
    rintro e w1 ⟨rfl, hb1⟩
    go_wp2_with fail
    refine (HC.out _ hb1).mono ?_
    rintro e w2 ⟨v, rfl, own, hb2⟩
    have hb12 := hb1.trans (hb2.mono hb1.size)
    replace own := own_base own hb1.size
    have hv : ∃ g cap, v = .slice (some ⟨g, 0, none⟩) L.length cap := by
      rcases own.2 with ⟨_, h0⟩ | ⟨g, cap, _, rfl, _⟩
      · omega
      · exact ⟨g, cap, rfl⟩
    obtain ⟨g, cap, rfl⟩ := hv
    have hcap := own_cap own
    have hgl := (own.lt g rfl).1
    have HR := Lib.hid (rev_any w.heap.size g cap L w2 own (by omega) hL)
    have hc1 : ¬ cap = 1 := by omega
    have hc2 : ¬ 1 = cap := by omega
    have hl1 : (1 : Int) ≤ (L.length : Int) := by omega
    have hl2 : 1 ≤ L.length := by omega
    clear hb1 hb2 own
    go_wp2_with fail
    refine HR.out.mono ?_
    rintro e w3 ⟨⟨u, rfl⟩, own3, hg3⟩
    have hb3 := hb12.grown hg3 hb12.size (fun k e => by cases e; exact hgl)
    have R := Lib.hid own3
    clear own3 hg3 hb12
    go_wp2_with fail
    go_ret
    rw [HU.out]
    exact ⟨_, rfl, R.out, hb3⟩
end Go.Proofs.Ytnkehfhedjdhaaa

/-! Step11 -/
namespace Go.Proofs.Ytnkehfhedjdhaaa
open Go.RowKit

def stpsB (n a b : Int) : Bool := inB n 1 3 && inB a 1 10 && inB b 1 10
theorem stpsB_bounds {n a b : Int} (h : stpsB n a b = true) : 1 ≤ n ∧ n ≤ 3 ∧ 1 ≤ a ∧ a ≤ 10 ∧ 1 ≤ b ∧ b ≤ 10 := by
  simp only [stpsB, Bool.and_eq_true, inB_spec] at h
  omega
/-- A product of two small ints. -/
theorem mul_small {x y : Int} {p q : Nat} (h1 : 0 ≤ x) (h2 : x ≤ p) (h3 : 0 ≤ y) (h4 : y ≤ q) : 0 ≤ x * y ∧ x * y ≤ ((p * q : Nat) : Int) := by
  refine ⟨Int.mul_nonneg h1 h3, ?_⟩
  have e1 : x * y ≤ (p : Int) * y := Int.mul_le_mul_of_nonneg_right h2 h3
  have e2 : (p : Int) * y ≤ (p : Int) * (q : Int) := Int.mul_le_mul_of_nonneg_left h4 (by omega)
  rw [Int.natCast_mul]; omega
theorem impl_stepsOk (n a b : Int) (w : World) :
    Calls Try.prog 30 #[.int .i64 n, .int .i64 a, .int .i64 b] w fun e w' => e = .returned (.bool (stpsB n a b)) ∧ w' = w := by
  have HU : Hid (stpsB n a b = (inB n 1 3 && inB a 1 10 && inB b 1 10)) := rfl
  have H1 := Lib.hid (from_any n 1 3)
  have H2 := Lib.hid (from_any a 1 10)
  have H3 := Lib.hid (from_any b 1 10)
  generalize inB n 1 3 = x1 at *
  generalize inB a 1 10 = x2 at *
  generalize inB b 1 10 = x3 at *
  cases x1
  · go_enter Try.func30, Try.ntmps30
    go_wp2_with fail
    refine (H1.out _).mono ?_
    rintro e w1 ⟨rfl, rfl⟩
    go_wp2_with fail
    go_ret
    exact ⟨ret_bool (by rw [HU.out]; rfl), rfl⟩
  cases x2
  · go_enter Try.func30, Try.ntmps30
    go_wp2_with fail
    refine (H1.out _).mono ?_
    rintro e w1 ⟨rfl, rfl⟩
    go_wp2_with fail
    refine (H2.out _).mono ?_
    rintro e w2 ⟨rfl, rfl⟩
    go_wp2_with fail
    go_ret
    exact ⟨ret_bool (by rw [HU.out]; rfl), rfl⟩
  · go_enter Try.func30, Try.ntmps30
    go_wp2_with fail
    refine (H1.out _).mono ?_
    rintro e w1 ⟨rfl, rfl⟩
    go_wp2_with fail
    refine (H2.out _).mono ?_
    rintro e w2 ⟨rfl, rfl⟩
    go_wp2_with fail
    refine (H3.out _).mono ?_
    rintro e w3 ⟨rfl, rfl⟩
    go_wp2_with fail
    go_ret
    exact ⟨ret_bool (by rw [HU.out]; rfl), rfl⟩
set_option maxHeartbeats 1000000 in
theorem spec_stepsOk (n a b : Int) (w : World) :
    Calls Try.prog 41 #[.int .i64 n, .int .i64 a, .int .i64 b] w fun e w' => e = .returned (.bool (stpsB n a b)) ∧ w' = w := by
  have HU : Hid (stpsB n a b = (inB n 1 3 && inB a 1 10 && inB b 1 10)) := rfl
  have H1 := Lib.hid (in_any n 1 3)
  have H2 := Lib.hid (in_any a 1 10)
  have H3 := Lib.hid (in_any b 1 10)
  have HX : Hid (inB n 1 3 = true → inB a 1 10 = true → inB b 1 10 = true → 1 ≤ n ∧ n ≤ 3 ∧ 1 ≤ a ∧ a ≤ 10 ∧ 1 ≤ b ∧ b ≤ 10) := fun h1 h2 h3 => stpsB_bounds (by rw [stpsB, h1, h2, h3]; rfl)
  generalize inB n 1 3 = x1 at *
  generalize inB a 1 10 = x2 at *
  generalize inB b 1 10 = x3 at *
  cases x1
  · go_enter Try.func41, Try.ntmps41
    go_wp2_with fail
    refine (H1.out _).mono ?_
    rintro e w1 ⟨rfl, rfl⟩
    go_wp2_with fail
    go_ret
    exact ⟨ret_bool (by rw [HU.out]; rfl), rfl⟩
  cases x2
  · go_enter Try.func41, Try.ntmps41
    go_wp2_with fail
    refine (H1.out _).mono ?_
    rintro e w1 ⟨rfl, rfl⟩
    go_wp2_with fail
    refine (H2.out _).mono ?_
    rintro e w2 ⟨rfl, rfl⟩
    go_wp2_with fail
    go_ret
    exact ⟨ret_bool (by rw [HU.out]; rfl), rfl⟩
  cases x3
  · go_enter Try.func41, Try.ntmps41
    go_wp2_with fail
    refine (H1.out _).mono ?_
    rintro e w1 ⟨rfl, rfl⟩
    go_wp2_with fail
    refine (H2.out _).mono ?_
    rintro e w2 ⟨rfl, rfl⟩
    go_wp2_with fail
    refine (H3.out _).mono ?_
    rintro e w3 ⟨rfl, rfl⟩
    go_wp2_with fail
    go_ret
    exact ⟨ret_bool (by rw [HU.out]; rfl), rfl⟩
  · have hb := HX.out rfl rfl rfl
    have q : ∀ y : Int, 1 ≤ y → y ≤ 10 → 0 ≤ (n + 1) * y ∧ (n + 1) * y ≤ ((4 * 10 : Nat) : Int) := fun y h1 h2 => mul_small (by omega) (by omega) (by omega) (by omega)
    have qa := q a (by omega) (by omega)
    have qb := q b (by omega) (by omega)
    have GA : Hid (wrap64 ((n + 1) * a) ≤ 40) := by
      show _ ≤ _
      rw [wrap_id (x := (n + 1) * a) (by omega)]; omega
    have GB : Hid (wrap64 ((n + 1) * b) ≤ 40) := by
      show _ ≤ _
      rw [wrap_id (x := (n + 1) * b) (by omega)]; omega
    clear q qa qb
    go_enter Try.func41, Try.ntmps41
    go_wp2_with fail
    refine (H1.out _).mono ?_
    rintro e w1 ⟨rfl, rfl⟩
    go_wp2_with fail
    refine (H2.out _).mono ?_
    rintro e w2 ⟨rfl, rfl⟩
    go_wp2_with fail
    refine (H3.out _).mono ?_
    rintro e w3 ⟨rfl, rfl⟩
    have ga := GA.out; have gb := GB.out
    go_wp2_with fail
    all_goals (
      try go_wp2_with fail
      go_ret
      exact ⟨ret_bool (by rw [HU.out]; simp), rfl⟩)
/-- The first 2k points of the cut. -/
def cutP (n a b : Int) : Nat → List (Int × Int)
  | 0 => []
  | k + 1 => cutP n a b k ++ [((k : Int) * a, (n - k) * b), (((k : Int) + 1) * a, (n - k) * b)]
theorem cutP_len (n a b : Int) : ∀ k, (cutP n a b k).length = 2 * k
  | 0 => rfl
  | k + 1 => by rw [cutP, List.length_append, cutP_len n a b k]; simp; omega
theorem cutP_flat (n a b : Int) (k : Nat) : flat (cutP n a b (k + 1)) = flat (cutP n a b k) ++ [.int .i64 ((k : Int) * a), .int .i64 ((n - k) * b), .int .i64 (((k : Int) + 1) * a), .int .i64 ((n - k) * b)] := by
  rw [cutP, flat_append]; rfl
set_option maxRecDepth 100000 in
set_option maxHeartbeats 4000000 in
theorem corners_any (N : Nat) (a b : Int) (w : World) (hN : N ≤ 3) (ha : 0 ≤ a ∧ a ≤ 10) (hb : 0 ≤ b ∧ b ≤ 10) :
    Calls Try.prog 72 #[.int .i64 N, .int .i64 a, .int .i64 b] w fun e w' => ∃ v, e = .returned v ∧ w'.ownsRow w.heap.size 46 2 v (2 * N) (flat (cutP N a b N)) ∧ Below w.heap.size w w' := by
  obtain ⟨i0, hi0, hz0, hz1, hz2⟩ := info_parts infoPt
  go_enter Try.func72, Try.ntmps72
  go_wp2_with fail
  go_loopw [7, 11] (fun v i wr => ∃ k : Nat, k ≤ N ∧ i = .int .i64 k ∧ wr.ownsRow w.heap.size 46 2 v (2 * k) (flat (cutP N a b k)) ∧ Below w.heap.size w wr) (fun _ i _ => N - (intOf i).toNat)
  case atStart => exact ⟨0, Nat.zero_le _, rfl, World.ownsRow_nil _ _ _ _, Below.refl _ _⟩
  case round =>
    obtain ⟨wo, rfl⟩ : ∃ wo : World, wo = wr := ⟨_, rfl⟩
    obtain ⟨k, hk, rfl, own, hbl⟩ := hrel
    by_cases hlt : k < N
    · have q1 := mul_small (x := (N : Int) - k) (y := b) (p := 3) (q := 10) (by omega) (by omega) hb.1 (by omega)
      have q2 := mul_small (x := (k : Int)) (y := a) (p := 3) (q := 10) (by omega) (by omega) ha.1 (by omega)
      have q3 := mul_small (x := (k : Int) + 1) (y := a) (p := 3) (q := 10) (by omega) (by omega) ha.1 (by omega)
      have HF : Hid (flat (cutP N a b (k + 1)) = _) := cutP_flat N a b k
      obtain ⟨y, hy⟩ : ∃ y, y = ((N : Int) - k) * b := ⟨_, rfl⟩
      obtain ⟨x, hx⟩ : ∃ x, x = (k : Int) * a := ⟨_, rfl⟩
      obtain ⟨x', hx'⟩ : ∃ x', x' = ((k : Int) + 1) * a := ⟨_, rfl⟩
      rw [← hy] at q1 HF
      rw [← hx] at q2 HF
      rw [← hx'] at q3 HF
      have f1 : IntKind.i64.wrap y = y := IntWalk.i64_in _ (by omega)
      have f2 : IntKind.i64.wrap x = x := IntWalk.i64_in _ (by omega)
      have f3 : IntKind.i64.wrap x' = x' := IntWalk.i64_in _ (by omega)
      have g1 := hy.symm; have g2 := hx.symm; have g3 := hx'.symm
      have hsz := hbl.size
      have HB := Lib.hid hbl
      clear hy hx hx' q1 q2 q3 hbl
      go_wp2_with (at_builtin; refine wpList_append_own _ rfl _ _ 39 rfl w.heap.size 46 i0 (.agg #[.int .i64 0, .int .i64 0]) 2 16 Try.underlying39 hi0 hz0 hz1 hz2 rfl (by decide) _ _ _ rfl (own.alloc _) ⟨wo.heap.size, 0, none⟩ 2 2 [.int .i64 x, .int .i64 y, .int .i64 x', .int .i64 y] rfl rfl (World.news_of_block (cs := #[.int .i64 x, .int .i64 y, .int .i64 x', .int .i64 y]) (t := 46) (fr := (0, 0)) (heap_alloc_new wo _)) (by simp [Value.oneCell']) ?d3 ?d4 (by simp; omega) ?_)
      case d3 => unfold maxLen; omega
      case d4 => omega
      intro v' w6 own6 hgrow _
      have R : Hid (w6.ownsRow w.heap.size 46 2 v' (2 * (k + 1)) (flat (cutP N a b (k + 1))) ∧ Below w.heap.size w w6) := by
        refine ⟨by rw [HF.out]; exact own6, (HB.out.alloc hsz _).grown hgrow (by simp; omega) (fun q hq => (own.lt q hq).1)⟩
      clear own own6 hgrow
      go_wp2_with fail
      go_roundw
      case rel => exact ⟨k + 1, by omega, by go_num, R.out.1, R.out.2⟩
      case measure => simp [intOf]; omega
    · obtain rfl : k = N := by omega
      have R := Lib.hid (And.intro own hbl)
      clear own hbl
      go_wp2_with fail
      go_ret
      exact ⟨_, rfl, R.out.1, R.out.2⟩
def rcL (w h : Int) : List (Int × Int) := [(0, 0), (w, 0), (w, h), (0, h)]
def rcV (w h : Int) : List (Int × Int) := bif inB w 1 40 && inB h 1 40 then rcL w h else []
theorem rcV_len (w h : Int) : (rcV w h).length ≤ 4 := by unfold rcV; cases inB w 1 40 <;> cases inB h 1 40 <;> simp [rcL]
/-- Four points of a literal. -/
theorem four_own (w : World) (l : List (Int × Int)) (h : l.length = 4) (t : TypeId) : (w.alloc (.cells (flat l).toArray t)).ownsRow w.heap.size t 2 (.slice (some ⟨w.heap.size, 0, none⟩) 4 4) 4 (flat l) := by
  refine ⟨by rw [flat_len, h], .inr ⟨w.heap.size, 4, (flat l).toArray, rfl, Nat.le_refl _, heap_alloc_new w _, Nat.le_refl _, by decide, by simp [flat_len, h], ?_⟩⟩
  rw [List.take_of_length_le (by simp [flat_len, h])]
theorem hasSides_any (x y : Int) (w : World) :
    Calls Try.prog 85 #[.int .i64 x, .int .i64 y] w fun e w' => e = .returned (.bool (inB x 1 40 && inB y 1 40)) ∧ w' = w := by
  have H1 := Lib.hid (from_any x 1 40)
  have H2 := Lib.hid (from_any y 1 40)
  generalize inB x 1 40 = x1 at *
  generalize inB y 1 40 = x2 at *
  cases x1
  · go_enter Try.func85, Try.ntmps85
    go_wp2_with fail
    refine (H1.out _).mono ?_
    rintro e w1 ⟨rfl, rfl⟩
    go_wp2_with fail
    go_ret
    exact ⟨rfl, rfl⟩
  · go_enter Try.func85, Try.ntmps85
    go_wp2_with fail
    refine (H1.out _).mono ?_
    rintro e w1 ⟨rfl, rfl⟩
    go_wp2_with fail
    refine (H2.out _).mono ?_
    rintro e w2 ⟨rfl, rfl⟩
    go_wp2_with fail
    go_ret
    exact ⟨ret_bool (by simp), rfl⟩
set_option maxHeartbeats 1000000 in
theorem impl_rect (x y : Int) (w : World) :
    Calls Try.prog 37 #[.int .i64 x, .int .i64 y] w (Lists w (rcV x y)) := by
  have H1 := Lib.hid (hasSides_any x y)
  have HU : Hid (∀ v w', w'.ownsRow w.heap.size 46 2 v (rcV x y).length (flat (rcV x y)) → Below w.heap.size w w' → Lists w (rcV x y) (.returned v) w') := fun v w' h1 h2 => ⟨v, rfl, h1, h2⟩
  have HR : Hid (rcV x y = bif inB x 1 40 && inB y 1 40 then rcL x y else []) := rfl
  generalize (inB x 1 40 && inB y 1 40) = c at *
  cases c
  · go_enter Try.func37, Try.ntmps37
    go_wp2_with fail
    refine (H1.out _).mono ?_
    rintro e w1 ⟨rfl, rfl⟩
    go_wp2_with fail
    go_ret
    exact HU.out _ _ (by rw [HR.out]; exact World.ownsRow_nil _ _ _ _) (Below.refl _ _)
  · go_enter Try.func37, Try.ntmps37
    go_wp2_with fail
    refine (H1.out _).mono ?_
    rintro e w1 ⟨rfl, rfl⟩
    go_wp2_with fail
    go_ret
    exact HU.out _ _ (by rw [HR.out]; exact four_own _ (rcL x y) rfl _) ((Below.refl _ _).alloc (Nat.le_refl _) _)
set_option maxHeartbeats 1000000 in
theorem spec_rect (x y : Int) (w : World) :
    Calls Try.prog 48 #[.int .i64 x, .int .i64 y] w (Lists w (rcV x y)) := by
  have H1 := Lib.hid (in_any x 1 40)
  have H2 := Lib.hid (in_any y 1 40)
  have HU : Hid (∀ v w', w'.ownsRow w.heap.size 46 2 v (rcV x y).length (flat (rcV x y)) → Below w.heap.size w w' → Lists w (rcV x y) (.returned v) w') := fun v w' h1 h2 => ⟨v, rfl, h1, h2⟩
  have HR : Hid (rcV x y = bif inB x 1 40 && inB y 1 40 then rcL x y else []) := rfl
  generalize inB x 1 40 = x1 at *
  generalize inB y 1 40 = x2 at *
  cases x1
  · go_enter Try.func48, Try.ntmps48
    go_wp2_with fail
    refine (H1.out _).mono ?_
    rintro e w1 ⟨rfl, rfl⟩
    go_wp2_with fail
    go_ret
    exact HU.out _ _ (by rw [HR.out]; exact World.ownsRow_nil _ _ _ _) (Below.refl _ _)
  cases x2
  all_goals (
    go_enter Try.func48, Try.ntmps48
    go_wp2_with fail
    refine (H1.out _).mono ?_
    rintro e w1 ⟨rfl, rfl⟩
    go_wp2_with fail
    refine (H2.out _).mono ?_
    rintro e w2 ⟨rfl, rfl⟩
    go_wp2_with fail
    go_ret)
  · exact HU.out _ _ (by rw [HR.out]; exact World.ownsRow_nil _ _ _ _) (Below.refl _ _)
  · exact HU.out _ _ (by rw [HR.out]; exact four_own _ (rcL x y) rfl _) ((Below.refl _ _).alloc (Nat.le_refl _) _)
end Go.Proofs.Ytnkehfhedjdhaaa

/-! Start -/
namespace Go.Proofs.Ytnkehfhedjdhaaa
open Go.RowKit

def rotL (L : List (Int × Int)) (k : Nat) : List (Int × Int) := L.drop k ++ L.take k
theorem rotL_len (L : List (Int × Int)) (k : Nat) : (rotL L k).length = L.length := by simp [rotL]; omega

theorem step_append_any {P : Program} {ops : Array Oper} {o : Oper} {a : Act} {w : World} {K : Act → World → Prop} {Q : Exit → Act → World → Prop} {E : Prop} (hgd : o.guard = none) (s x : Operand) (t : TypeId)
    (ho : o.op = .call { callee := .builtin .append, args := #[s, x], argTypes := #[t, t] })
    (base : Nat) (e : TypeId) (i : TypeInfo) (z : Value) (size bytes : Nat) (ht : P.underlying t = some (.slice e)) (hi : P.info? e = some i) (hz : i.zero = some z)
    (hsize : i.size = size) (hby : i.bytes = bytes) (hzs : z.cells.size = size) (hsz : 0 < size)
    (v : Value) (n : Nat) (xs : List Value) (hs : a.eval s = v) (hown : w.ownsRow base e size v n xs)
    (ad : Addr) (m c : Nat) (news : List Value) (hx : a.eval x = .slice (some ad) m c) (hl : news.length = m * size) (hnews : ∀ j u, news[j]? = some u → w.cell? (ad.add j) = some u) (h1 : ∀ u ∈ news, u.oneCell' = true)
    (h63 : n + m ≤ maxLen) (hbytes : (n + m) * bytes ≤ 140737488355328) (hbase : base ≤ w.heap.size)
    (h : ∀ v' w', w'.ownsRow base e size v' (n + m) (xs ++ news) → w.grownBy w' v.ownBlock → K (a.put o.dst v') w') :
    if Region.wanted o (yielded ops a.tmps) = true then Oper.wp P o a w K Q else E := by
  have hw : Region.wanted o (yielded ops a.tmps) = true := by simp [Region.wanted, hgd]
  rw [if_pos hw]
  obtain ⟨v', w', hrun, r1, r2, _⟩ := run_append_own (P := P) w base t o.type e i z size bytes ht hi hz hsize hby hzs hsz v n xs hown ad m c news hl hnews h1 h63 hbytes hbase
  unfold Oper.wp
  simp [execOp, ho, resolve, invoke, builtin, hs, hx, hrun, Result.andThen]
  exact h v' w' r1 r2

theorem ptsA_take {w : World} {g : Nat} {L : List (Int × Int)} (h : PtsA w (some ⟨g, 0, none⟩) L) (k : Nat) : ∀ j u, (flat (L.take k))[j]? = some u → w.cell? (Addr.add ⟨g, 0, none⟩ j) = some u := by
  intro j u hu
  have h0 := ptsA_news h 0 j u
  rw [List.drop_zero, Nat.zero_mul] at h0
  refine h0 ?_
  have e : flat L = flat (L.take k) ++ flat (L.drop k) := by rw [← flat_append, List.take_append_drop]
  have hj : j < (flat (L.take k)).length := by
    rcases Nat.lt_or_ge j (flat (L.take k)).length with h1 | h1
    · exact h1
    · rw [List.getElem?_eq_none h1] at hu; cases hu
  rw [e, List.getElem?_append_left hj]
  exact hu


set_option maxRecDepth 100000 in
set_option maxHeartbeats 2000000 in
theorem grow_any (n : Nat) (w : World) (h1 : 1 ≤ n) (h2 : n ≤ 1048576) :
    Calls Try.prog 114 #[.slice none 0 0, .int .i64 n] w fun e w' => ∃ g cap, e = .returned (.slice (some ⟨g, 0, none⟩) 0 cap) ∧ w'.ownsRow w.heap.size 46 2 (.slice (some ⟨g, 0, none⟩) 0 cap) 0 [] ∧ Below w.heap.size w w' := by
  obtain ⟨i0, hi0, hz0, hz1, hz2⟩ := info_parts infoPt
  have hn0 : ¬ ((n : Int) < 0) := by omega
  have hn1 : (n : Int) > 0 := by omega
  have hold : (Builtin.firstCells i0.size 0 (.slice none 0 0)).run Try.prog w.drew = .ok ([] : List Value).toArray w.drew := run_firstCells_none _ i0.size 0 0 0
  have hrz : ∀ ty, (Builtin.append_ #[39, 3] ty #[.slice none 0 0, .int .i64 n]).run Try.prog w =
      .ok (.slice (some ⟨w.heap.size, 0, none⟩) n (grownCap w n 0 46)) (w.drew.alloc (.cells (([] : List Value).toArray ++ Builtin.zeroCells (Value.agg #[.int .i64 0, .int .i64 0]).cells n ++ Builtin.zeroCells (Value.agg #[.int .i64 0, .int .i64 0]).cells (grownCap w n 0 46 - n)) 46)) := fun ty => by
    have h := Lib.run_append_grow_zeros w 39 3 ty 46 i0 (.agg #[.int .i64 0, .int .i64 0]) .i64 .i64 Try.underlying39 Try.underlying3 hi0 hz0 none 0 0 [] hold n (by omega) (by omega) (by omega) (by omega)
      (by rw [hz2]; omega) (by rw [Nat.zero_add]; exact growslice_fits (by omega) (by rw [hz2]; omega))
    rw [Nat.zero_add] at h
    exact h
  have hGn : n ≤ grownCap w n 0 46 := grownCap_ge w _ _ _
  obtain ⟨G, hG⟩ : ∃ G, G = grownCap w n 0 46 := ⟨_, rfl⟩
  rw [← hG] at hrz hGn
  have hGm : G ≤ maxLen := by rw [hG]; exact grownCap_le_maxLen w n 0 46 (by unfold maxLen; omega)
  have hG63 : G ≤ 9223372036854775807 := by unfold maxLen at hGm; omega
  obtain ⟨C, hC⟩ : ∃ C, C = ([] : List Value).toArray ++ Builtin.zeroCells (Value.agg #[.int .i64 0, .int .i64 0]).cells n ++ Builtin.zeroCells (Value.agg #[.int .i64 0, .int .i64 0]).cells (G - n) := ⟨_, rfl⟩
  have hCs : C.size = G * 2 := by
    have e : (Value.agg #[.int .i64 0, .int .i64 0]).cells.size = 2 := rfl
    rw [hC, Array.size_append, Array.size_append, size_zeroCells, size_zeroCells, e]
    simp; omega
  rw [← hC] at hrz
  have R : Hid ((w.drew.alloc (.cells C 46)).ownsRow w.heap.size 46 2 (.slice (some ⟨w.heap.size, 0, none⟩) 0 G) 0 [] ∧ Below w.heap.size w (w.drew.alloc (.cells C 46))) :=
    ⟨⟨rfl, .inr ⟨w.heap.size, G, C, rfl, Nat.le_refl _, heap_alloc_new w.drew _, Nat.zero_le _, hGm, hCs, rfl⟩⟩, ((Below.refl _ w).drew).alloc (Nat.le_refl _) _⟩
  clear hold hG hC hCs hGm
  go_enter Try.func114, Try.ntmps114
  go_wp2_with (at_builtin; refine Lib.wpList_append_run _ rfl _ _ _ _ rfl _ _ rfl rfl _ _ (hrz _) ?_)
  go_ret
  exact ⟨_, _, rfl, R.out.1, R.out.2⟩

def catN (L : List (Int × Int)) (k : Nat) : Nat → Nat
  | 0 => 0
  | 1 => L.length - k
  | _ => L.length
def catL (L : List (Int × Int)) (k : Nat) : Nat → List (Int × Int)
  | 0 => []
  | 1 => L.drop k
  | _ => rotL L k
set_option maxRecDepth 100000 in
set_option maxHeartbeats 4000000 in
theorem concat_any (g gs c1 c2 k : Nat) (L : List (Int × Int)) (w : World) (hA : PtsA w (some ⟨g, 0, none⟩) L) (hk : k < L.length) (h2 : L.length ≤ 1048576)
    (s0 : w.cell? ⟨gs, 0, none⟩ = some (.slice (some ⟨g, k * 2, none⟩) (L.length - k) c1)) (s1 : w.cell? ⟨gs, 1, none⟩ = some (.slice (some ⟨g, 0, none⟩) k c2)) :
    Calls Try.prog 74 #[.slice (some ⟨gs, 0, none⟩) 2 2] w (Lists w (rotL L k)) := by
  obtain ⟨i0, hi0, hz0, hz1, hz2⟩ := info_parts infoPt
  have HU : Hid (Lists w (rotL L k) = fun e w' => ∃ v, e = .returned v ∧ w'.ownsRow w.heap.size 46 2 v (catN L k 2) (flat (catL L k 2)) ∧ Below w.heap.size w w') := by
    show _ = _
    unfold Lists
    rw [rotL_len]; rfl
  have HA := Lib.hid hA
  have HK := Lib.hid hk
  have HS0 := Lib.hid s0
  have HS1 := Lib.hid s1
  have f1 : ((L.length - k : Nat) : Int) + (k : Int) = (L.length : Int) := by omega
  clear hA
  go_enter Try.func74, Try.ntmps74
  go_wp2_with fail
  go_loop [3, 11] (fun s i => ∃ j : Nat, j ≤ 2 ∧ i = .int .i64 j ∧ s = .int .i64 (catN L k j)) (fun _ i => 2 - (intOf i).toNat)
  case atStart => exact ⟨0, by omega, rfl, rfl⟩
  case round =>
    obtain ⟨j, hj, rfl, rfl⟩ := hrel
    match j, hj with
    | 0, _ =>
      have e0 : catN L k 0 = 0 := rfl
      rw [e0]
      clear e0 s1
      go_wp2_with fail
      go_round
      case rel => exact ⟨1, by omega, by first | rfl | go_num, by first | rfl | go_num⟩
      case measure => simp [intOf]
    | 1, _ =>
      have e0 : catN L k 1 = L.length - k := rfl
      rw [e0]
      clear e0 s0
      go_wp2_with fail
      go_round
      case rel => exact ⟨2, by omega, by first | rfl | go_num, by first | rfl | go_num | exact congrArg _ f1⟩
      case measure => simp [intOf]
    | 2, _ =>
      have e0 : catN L k 2 = L.length := rfl
      rw [e0]
      clear e0 s0 s1 f1
      go_wp2_with fail
      refine (grow_any L.length w (by omega) h2).mono ?_
      rintro e w1 ⟨g1, cp1, rfl, own1, b1⟩
      have R1 := Lib.hid (And.intro own1 b1)
      clear own1 b1
      go_wp2_with fail
      go_loopw [6, 27] (fun v i wr => ∃ j : Nat, j ≤ 2 ∧ i = .int .i64 j ∧ wr.ownsRow w.heap.size 46 2 v (catN L k j) (flat (catL L k j)) ∧ Below w.heap.size w wr) (fun _ i _ => 2 - (intOf i).toNat)
      case atStart => exact ⟨0, by omega, by first | rfl | go_num, R1.out.1, R1.out.2⟩
      case round =>
        obtain ⟨j, hj, rfl, own, b⟩ := hrel
        match j, hj with
        | 0, _ =>
          have s0 := cell_on b rfl HS0.out
          have HN := Lib.hid (ptsA_news (ptsA_on HA.out b) k)
          have hsz := b.size
          have own0 : wr.ownsRow w.heap.size 46 2 u6 0 [] := own
          have HB := Lib.hid b
          clear own b
          go_wp2_with (at_builtin; refine wpList_append_own _ rfl _ _ 39 rfl w.heap.size 46 i0 (.agg #[.int .i64 0, .int .i64 0]) 2 16 Try.underlying39 hi0 hz0 hz1 hz2 rfl (by decide) _ _ _ rfl own0 ⟨g, k * 2, none⟩ (L.length - k) c1 (flat (L.drop k)) rfl (by rw [flat_len, List.length_drop]) HN.out (flat_one _) ?d3 ?d4 hsz ?_)
          case d3 => unfold maxLen; omega
          case d4 => omega
          intro v' w6 own6 hgrow _
          have R : Hid (w6.ownsRow w.heap.size 46 2 v' (catN L k 1) (flat (catL L k 1)) ∧ Below w.heap.size w w6) :=
            ⟨show w6.ownsRow w.heap.size 46 2 v' (L.length - k) (flat (L.drop k)) from by simpa using own6, HB.out.grown hgrow hsz (fun q hq => (own0.lt q hq).1)⟩
          clear own0 own6 hgrow s0
          go_wp2_with fail
          go_roundw
          case rel => exact ⟨1, by omega, by first | rfl | go_num, R.out.1, R.out.2⟩
          case measure => simp [intOf]
        | 1, _ =>
          have s0 := cell_on b rfl HS1.out
          have HN := Lib.hid (ptsA_take (ptsA_on HA.out b) k)
          have hsz := b.size
          have own0 : wr.ownsRow w.heap.size 46 2 u6 (L.length - k) (flat (L.drop k)) := own
          have HB := Lib.hid b
          clear own b
          go_wp2_with (at_builtin; refine wpList_append_own _ rfl _ _ 39 rfl w.heap.size 46 i0 (.agg #[.int .i64 0, .int .i64 0]) 2 16 Try.underlying39 hi0 hz0 hz1 hz2 rfl (by decide) _ _ _ rfl own0 ⟨g, 0, none⟩ k c2 (flat (L.take k)) rfl (by rw [flat_len, List.length_take]; have := HK.out; omega) HN.out (flat_one _) ?d3 ?d4 hsz ?_)
          case d3 => unfold maxLen; omega
          case d4 => omega
          intro v' w6 own6 hgrow _
          have R : Hid (w6.ownsRow w.heap.size 46 2 v' (catN L k 2) (flat (catL L k 2)) ∧ Below w.heap.size w w6) := by
            refine ⟨?_, HB.out.grown hgrow hsz (fun q hq => (own0.lt q hq).1)⟩
            have e1 : catN L k 2 = L.length - k + k := by show L.length = _; have := HK.out; omega
            have e2 : flat (catL L k 2) = flat (L.drop k) ++ flat (L.take k) := by show flat (rotL L k) = _; rw [rotL, flat_append]
            rw [e1, e2]; exact own6
          clear own0 own6 hgrow s0
          go_wp2_with fail
          go_roundw
          case rel => exact ⟨2, by omega, by first | rfl | go_num, R.out.1, R.out.2⟩
          case measure => simp [intOf]
        | 2, _ =>
          have R := Lib.hid (And.intro own b)
          clear own b
          go_wp2_with fail
          go_ret
          rw [HU.out]
          exact ⟨_, rfl, R.out.1, R.out.2⟩

/-! ### StartAt -/
def startV (L : List (Int × Int)) (k : Int) : List (Int × Int) := bif polyB L && inB k 0 ((L.length : Int) - 1) then rotL L k.toNat else []
theorem startV_len (L : List (Int × Int)) (k : Int) : (startV L k).length ≤ 1048576 := by
  unfold startV
  cases h : polyB L
  · simp
  · have := polyB_all h
    cases inB k 0 ((L.length : Int) - 1)
    · simp
    · simp only [Bool.and_self, cond_true, rotL_len]; omega

set_option maxRecDepth 100000 in
set_option maxHeartbeats 2000000 in
theorem impl_start (A : Option Addr) (c : Nat) (L : List (Int × Int)) (k : Int) (w : World) (hA : PtsA w A L) (hc : L.length ≤ c) (hL : L.length ≤ 1048576) :
    Calls Try.prog 121 #[.slice A L.length c, .int .i64 k] w (Lists w (startV L k)) := by
  have PC := Lib.hid (impl_poly A c L w hA hL)
  have no : startV L k = [] → Hid (Lists w (startV L k) = fun e w' => ∃ v, e = .returned v ∧ w'.ownsRow w.heap.size 46 2 v 0 [] ∧ Below w.heap.size w w') := fun h => by
    show _ = _
    rw [h]; rfl
  cases hp : polyB L
  · have HU := no (by rw [startV, hp]; rfl)
    rw [hp] at PC
    clear no hA
    go_enter Try.func121, Try.ntmps121
    go_wp2_with fail
    refine PC.out.mono ?_
    rintro e w1 ⟨rfl, hb1⟩
    go_wp2_with fail
    go_ret
    rw [HU.out]
    exact ⟨_, rfl, World.ownsRow_nil _ _ _ _, hb1⟩
  · obtain ⟨h3, h10, hok⟩ := polyB_all hp
    rw [hp] at PC
    have HI := Lib.hid (fun w => from_any k 0 ((L.length : Int) - 1) w)
    cases hk : inB k 0 ((L.length : Int) - 1)
    · have HU := no (by rw [startV, hp, hk]; rfl)
      rw [hk] at HI
      clear no hA
      go_enter Try.func121, Try.ntmps121
      go_wp2_with fail
      refine PC.out.mono ?_
      rintro e w1 ⟨rfl, hb1⟩
      go_wp2_with fail
      refine (HI.out _).mono ?_
      rintro e w2 ⟨rfl, rfl⟩
      go_wp2_with fail
      go_ret
      rw [HU.out]
      exact ⟨_, rfl, World.ownsRow_nil _ _ _ _, hb1⟩
    · have hkb := inB_spec.1 hk
      obtain ⟨q, rfl⟩ : ∃ q : Nat, k = (q : Int) := ⟨k.toNat, by omega⟩
      have hq : q < L.length := by omega
      have HU : Hid (Lists w (startV L q) = fun e w' => ∃ v, e = .returned v ∧ w'.ownsRow w.heap.size 46 2 v (rotL L q).length (flat (rotL L q)) ∧ Below w.heap.size w w') := by
        show _ = _
        rw [startV, hp, hk]; rfl
      rw [hk] at HI
      obtain ⟨g, rfl, -⟩ := hA 0 (by omega)
      have HA := Lib.hid hA
      have HT := Lib.hid (fun (gs c1 c2 : Nat) (W : World) (hb : Below w.heap.size w W) s0 s1 => concat_any g gs c1 c2 q L W (ptsA_on hA hb) hq hL s0 s1)
      unfold Lists at HT
      have hkc : ¬ q = c := by omega
      have hkc' : ¬ c = q := by omega
      have hkn : (q : Int) ≤ (L.length : Int) := by omega
      have hkc2 : (q : Int) ≤ (c : Int) := by omega
      have hnc : (L.length : Int) ≤ (c : Int) := by omega
      clear no hA hkb
      go_enter Try.func121, Try.ntmps121
      go_wp2_with fail
      refine PC.out.mono ?_
      rintro e w1 ⟨rfl, hb1⟩
      go_wp2_with fail
      refine (HI.out _).mono ?_
      rintro e w2 ⟨rfl, rfl⟩
      go_wp2_with fail
      have hz := hb1.size
      have hal := (hb1.drew).alloc hz (.cells #[.slice (some ⟨g, q * 2, none⟩) (L.length - q) (c - q), .slice (some ⟨g, 0, none⟩) q c] 39)
      have hh := heap_alloc_new w2.drew (.cells #[.slice (some ⟨g, q * 2, none⟩) (L.length - q) (c - q), .slice (some ⟨g, 0, none⟩) q c] 39)
      go_region_with (go_at_call 74; refine (HT.out w2.heap.size (c - q) c _ hal (cell_of_row _ _ 0 _ _ _ hh) (cell_of_row _ _ 1 _ _ _ hh)).mono ?_; rintro e w3 ⟨v, rfl, own, hb3⟩)
      all_goals
        have R := Lib.hid (And.intro (own_base own hal.size) (hal.trans (hb3.mono hal.size)))
        clear own hb1 hb3 hal hh
        go_wp2_with fail
        go_ret
        rw [HU.out]
        exact ⟨_, rfl, R.out.1, R.out.2⟩
end Go.Proofs.Ytnkehfhedjdhaaa
