/-
  Walks and facts of this seat, part Aa (merged by a script of this repo out of smaller texts).
-/
import Derived.Test.YthoniopkeiifnaaProg
import Derived.WalkKit
import Derived.Handy
import Derived.IntWalk
import Derived.Lib.Hide
import Derived.Lib.QuietBelow
import Derived.BigQuiet
import Derived.Deep.QuietTactic
import Derived.Deep.RegionHeld3
import Derived.Deep.AppendLies
import Derived.OwnWalk
import Derived.Laws.Pointers
import Derived.RegionTactic
import Derived.Deep.DeepCutAuto
import Derived.ChangeAlike
import Derived.Laws.StructEq
import Derived.StillTail
import Derived.RangeFuncNested
import Derived.TacticsIn
import Derived.OrdersIn
import Derived.RangeFuncLeaves
import Derived.Shelf.Abstract
import Derived.OwnWalkIn
import Derived.TacticsInMore
import Derived.LoopNIn
import Derived.LoopIn
/-! GrP12 -/
namespace Go.Proofs.Ythoniopkeiifnaa

/-- The different sides, each with how often it is cut: a the longer, b the shorter side. -/
def eu (a b : Nat) : List (Nat × Nat) := if _h : b = 0 then [] else (b, a / b) :: eu b (a % b)
termination_by b
decreasing_by exact Nat.mod_lt _ (by omega)
theorem eu_zero (a : Nat) : eu a 0 = [] := by rw [eu]; simp
theorem eu_pos {a b : Nat} (h : 0 < b) : eu a b = (b, a / b) :: eu b (a % b) := by rw [eu]; simp [show b ≠ 0 by omega]
/-- The sides of all squares. -/
def sqL : List (Nat × Nat) → List Nat
  | [] => []
  | p :: E => List.replicate p.2 p.1 ++ sqL E
theorem sqL_append (D E : List (Nat × Nat)) : sqL (D ++ E) = sqL D ++ sqL E := by
  induction D with
  | nil => rfl
  | cons p D ih => simp [sqL, ih]
theorem sqL_snoc (D : List (Nat × Nat)) (b q : Nat) : sqL (D ++ [(b, q)]) = sqL D ++ List.replicate q b := by rw [sqL_append]; simp [sqL]
theorem eu_len_le (b : Nat) : ∀ a, 0 < b → b ≤ a → (sqL (eu a b)).length ≤ a := by
  induction b using Nat.strongRecOn with
  | _ b ih =>
    intro a h0 h1
    rw [eu_pos h0]
    simp only [sqL, List.length_append, List.length_replicate]
    have hd := Nat.div_add_mod a b
    have hq : 1 ≤ a / b := (Nat.one_le_div_iff h0).2 h1
    rcases Nat.eq_zero_or_pos (a % b) with h | h
    · rw [h, eu_zero]
      simp only [sqL, List.length_nil]
      have := Nat.div_le_self a b
      omega
    · have := ih (a % b) (Nat.mod_lt _ h0) b h (Nat.le_of_lt (Nat.mod_lt _ h0))
      have h3 : a / b + b ≤ b * (a / b) + 1 := by
        obtain ⟨x, hx⟩ : ∃ x, a / b = x + 1 := ⟨a / b - 1, by omega⟩
        obtain ⟨y, hy⟩ : ∃ y, b = y + 1 := ⟨b - 1, by omega⟩
        rw [hx, hy]
        have : (y + 1) * (x + 1) = y * x + y + x + 1 := by rw [Nat.add_mul, Nat.mul_add]; omega
        omega
      omega
theorem eu_num (b : Nat) : ∀ a, b ≤ a → (eu a b).length ≤ b := by
  induction b using Nat.strongRecOn with
  | _ b ih =>
    intro a h1
    rcases Nat.eq_zero_or_pos b with rfl | h0
    · rw [eu_zero]; simp
    · rw [eu_pos h0]
      have := ih (a % b) (Nat.mod_lt _ h0) b (Nat.le_of_lt (Nat.mod_lt _ h0))
      have := Nat.mod_lt a h0
      simp only [List.length_cons]
      omega
/-- All squares cut from w by h. -/
def sqF (w h : Nat) : List Nat := sqL (eu (max w h) (min w h))
def quF (w h : Nat) : List Nat := (eu (max w h) (min w h)).map (·.2)
theorem sqF_len {w h : Nat} (hw : 1 ≤ w ∧ w ≤ 1000) (hh : 1 ≤ h ∧ h ≤ 1000) : (sqF w h).length ≤ 1000 := by
  have := eu_len_le (min w h) (max w h) (by omega) (by omega)
  unfold sqF
  omega
theorem quF_len {w h : Nat} (hw : 1 ≤ w ∧ w ≤ 1000) (hh : 1 ≤ h ∧ h ≤ 1000) : (quF w h).length ≤ 1000 := by
  have := eu_num (min w h) (max w h) (by omega)
  unfold quF
  rw [List.length_map]
  omega
theorem eu_le (b : Nat) : ∀ a, b ≤ a → ∀ p ∈ eu a b, 1 ≤ p.1 ∧ p.1 ≤ b ∧ 1 ≤ p.2 ∧ p.2 ≤ a := by
  induction b using Nat.strongRecOn with
  | _ b ih =>
    intro a h1 p hp
    rcases Nat.eq_zero_or_pos b with rfl | h0
    · rw [eu_zero] at hp; cases hp
    · rw [eu_pos h0] at hp
      have hm := Nat.mod_lt a h0
      rcases List.mem_cons.1 hp with rfl | hp
      · exact ⟨h0, Nat.le_refl _, (Nat.one_le_div_iff h0).2 h1, Nat.div_le_self _ _⟩
      · have := ih (a % b) hm b (by omega) p hp
        exact ⟨this.1, by omega, this.2.2.1, by omega⟩
/-- The sides fall. -/
theorem eu_head (a b : Nat) : ∀ p ∈ (eu a b).head?, p.1 = b := by
  intro p hp
  rcases Nat.eq_zero_or_pos b with rfl | h0
  · rw [eu_zero] at hp; cases hp
  · rw [eu_pos h0] at hp
    simp only [List.head?_cons, Option.mem_def, Option.some.injEq] at hp
    rw [← hp]
/-- One number more is read: a new run, or one more of the last. -/
def runAdd (R : List Nat) (new : Bool) : List Nat := if new then R ++ [1] else R.dropLast ++ [R.getLastD 0 + 1]
/-- The runs of a list, read from the front. -/
def runsF (L : List Nat) : Nat → List Nat
  | 0 => []
  | k + 1 => runAdd (runsF L k) (decide (k = 0) || decide (L.getD k 0 ≠ L.getD (k - 1) 0))
theorem runsF_one {L : List Nat} : runsF L 1 = [1] := by simp [runsF, runAdd]
theorem runsF_new {L : List Nat} {k : Nat} (h : k = 0 ∨ L.getD k 0 ≠ L.getD (k - 1) 0) : runsF L (k + 1) = runsF L k ++ [1] := by
  rw [runsF, runAdd, if_pos]
  rcases h with h | h
  · rw [decide_eq_true h, Bool.true_or]
  · rw [decide_eq_true h, Bool.or_true]
theorem runsF_old {L : List Nat} {k : Nat} (h0 : 0 < k) (h : L.getD k 0 = L.getD (k - 1) 0) : runsF L (k + 1) = (runsF L k).dropLast ++ [(runsF L k).getLastD 0 + 1] := by
  rw [runsF, runAdd, if_neg]
  rw [decide_eq_false (show ¬ k = 0 by omega), decide_eq_false (fun e => e h)]
  decide
theorem runsF_pos {L : List Nat} : ∀ k, 0 < k → runsF L k ≠ []
  | 0, h => absurd h (by omega)
  | k + 1, _ => by
    rw [runsF, runAdd]; split <;> simp
theorem runsF_len {L : List Nat} : ∀ k, (runsF L k).length ≤ k
  | 0 => by simp [runsF]
  | k + 1 => by
    have := runsF_len (L := L) k
    rw [runsF, runAdd]
    split
    · simp; omega
    · simp only [List.length_append, List.length_dropLast, List.length_cons, List.length_nil]
      rcases Nat.eq_zero_or_pos k with rfl | h
      · simp_all
      · omega
theorem getD_app (P S : List Nat) (j : Nat) : (P ++ S).getD (P.length + j) 0 = S.getD j 0 := by
  simp [List.getD_eq_getElem?_getD, List.getElem?_append_right]
theorem getD_rep {q b j : Nat} (h : j < q) : (List.replicate q b).getD j 0 = b := by simp [List.getD_eq_getElem?_getD, h]
/-- Within a run of b, behind P. -/
theorem runs_run (P S : List Nat) (b q : Nat) (hq : 1 ≤ q) (hP : P = [] ∨ P.getLastD 0 ≠ b) (L : List Nat) (hL : L = P ++ (List.replicate q b ++ S)) :
    ∀ j, 1 ≤ j → j ≤ q → runsF L (P.length + j) = runsF L P.length ++ [j]
  | 0, h, _ => absurd h (by omega)
  | 1, _, _ => by
    rw [runsF_new]
    rcases hP with rfl | hP
    · exact .inl rfl
    · rcases List.eq_nil_or_concat P with rfl | ⟨P', x, rfl⟩
      · exact .inl rfl
      refine .inr ?_
      have e1 : L.getD (P' ++ [x]).length 0 = b := by
        have := getD_app (P' ++ [x]) (List.replicate q b ++ S) 0
        rw [Nat.add_zero] at this
        rw [hL]
        simp only [List.concat_eq_append] at *
        rw [this]
        obtain ⟨r, rfl⟩ : ∃ r, q = r + 1 := ⟨q - 1, by omega⟩
        simp [List.replicate_succ]
      have e2 : L.getD ((P' ++ [x]).length - 1) 0 = x := by
        rw [hL]
        simp [List.getD_eq_getElem?_getD]
      simp only [List.concat_eq_append] at *
      rw [e1, e2]
      simp at hP
      exact fun e => hP e.symm
  | j + 2, _, h => by
    have ih := runs_run P S b q hq hP L hL (j + 1) (by omega) (by omega)
    have e1 : L.getD (P.length + (j + 1)) 0 = b := by
      rw [hL, getD_app]
      simp [List.getD_eq_getElem?_getD, List.getElem?_append_left, show j + 1 < q by omega]
    have e2 : L.getD (P.length + (j + 1) - 1) 0 = b := by
      rw [show P.length + (j + 1) - 1 = P.length + j by omega, hL, getD_app]
      simp [List.getD_eq_getElem?_getD, List.getElem?_append_left, show j < q by omega]
    rw [show P.length + (j + 2) = (P.length + (j + 1)) + 1 by omega, runsF_old (by omega) (by rw [e1, e2]), ih]
    simp
theorem runs_eu (E : List (Nat × Nat)) : ∀ (P : List Nat), (∀ p ∈ E, 1 ≤ p.2) → (∀ p ∈ E.head?, P = [] ∨ P.getLastD 0 ≠ p.1) → (∀ i, ∀ p q, E[i]? = some p → E[i + 1]? = some q → p.1 ≠ q.1) →
    runsF (P ++ sqL E) (P.length + (sqL E).length) = runsF (P ++ sqL E) P.length ++ E.map (·.2) := by
  induction E with
  | nil => intro P _ _ _; simp [sqL]
  | cons p E ih =>
    intro P h1 h2 h3
    have hp := h1 p (by simp)
    have hr := runs_run P (sqL E) p.1 p.2 hp (h2 p (by simp)) (P ++ sqL (p :: E)) (by rw [sqL]) p.2 hp (Nat.le_refl _)
    have hs : P ++ sqL (p :: E) = (P ++ List.replicate p.2 p.1) ++ sqL E := by rw [sqL, List.append_assoc]
    have hl : (P ++ List.replicate p.2 p.1).length = P.length + p.2 := by simp
    have hlast : (P ++ List.replicate p.2 p.1).getLastD 0 = p.1 := by
      obtain ⟨r, hr⟩ : ∃ r, p.2 = r + 1 := ⟨p.2 - 1, by omega⟩
      rw [hr, List.replicate_succ', ← List.append_assoc]
      simp
    have := ih (P ++ List.replicate p.2 p.1) (fun q hq => h1 q (by simp [hq])) (fun q hq => .inr (by
        rw [hlast]
        refine h3 0 p q (by simp) ?_
        simp only [Option.mem_def, List.head?_eq_getElem?] at hq
        simpa using hq)) (fun i a b ha hb => h3 (i + 1) a b (by simpa using ha) (by simpa using hb))
    rw [← hs, hl] at this
    rw [show P.length + (sqL (p :: E)).length = P.length + p.2 + (sqL E).length by simp [sqL]; omega, this, hr]
    simp
theorem eu_next (b : Nat) : ∀ a i p q, (eu a b)[i]? = some p → (eu a b)[i + 1]? = some q → q.1 < p.1 := by
  induction b using Nat.strongRecOn with
  | _ b ih =>
    intro a i p q hp hq
    rcases Nat.eq_zero_or_pos b with rfl | h0
    · rw [eu_zero] at hp; simp at hp
    · rw [eu_pos h0] at hp hq
      have hm := Nat.mod_lt a h0
      cases i with
      | zero =>
        simp only [List.getElem?_cons_zero, Option.some.injEq, List.getElem?_cons_succ, Nat.zero_add] at hp hq
        have := eu_head b (a % b) q (by rw [List.head?_eq_getElem?]; exact hq)
        rw [← hp]
        simp only
        omega
      | succ i =>
        simp only [List.getElem?_cons_succ] at hp hq
        exact ih _ hm b i p q hp hq
/-- The quotients are the runs of the squares. -/
theorem runs_sq {w h : Nat} : runsF (sqF w h) (sqF w h).length = quF w h := by
  have := runs_eu (eu (max w h) (min w h)) [] (fun p hp => (eu_le _ _ (by omega) p hp).2.2.1) (fun p hp => .inl rfl) (fun i p q hp hq => by
    have := eu_next _ _ i p q hp hq
    omega)
  simp only [List.nil_append, List.length_nil, Nat.zero_add] at this
  rw [sqF, this]
  simp [runsF, quF]
end Go.Proofs.Ythoniopkeiifnaa

/-! Pt -/
namespace Go.Proofs.Ythoniopkeiifnaa
open Go.RowKit

/-- Block g holds a struct of two ints. -/
def At (w : World) (g : Nat) (x y : Int) (t : TypeId) : Prop := w.heap[g]? = some (.cells #[.int .i64 x, .int .i64 y] t (0, 0))
theorem at_new (w : World) (x y : Int) (t : TypeId) : At (w.alloc (.cells #[.int .i64 x, .int .i64 y] t)) w.heap.size x y t := heap_alloc_new w _
theorem At.lt {w : World} {g : Nat} {x y : Int} {t : TypeId} (h : At w g x y t) : g < w.heap.size := (Array.getElem?_eq_some_iff.1 h).1
theorem At.alloc {w : World} {g : Nat} {x y : Int} {t : TypeId} (h : At w g x y t) (o : Obj) : At (w.alloc o) g x y t := (Below.heap_alloc w o g h.lt).trans h
theorem At.step {w w' : World} {g : Nat} {x y : Int} {t : TypeId} (h : At w g x y t) (hb : Below w.heap.size w w') : At w' g x y t := (hb.block g h.lt).trans h
theorem At.c0 {w : World} {g : Nat} {x y : Int} {t : TypeId} (h : At w g x y t) : w.cell? ⟨g, 0, none⟩ = some (.int .i64 x) := cell_of_row w g 0 _ _ _ h
theorem At.c1 {w : World} {g : Nat} {x y : Int} {t : TypeId} (h : At w g x y t) : w.cell? ⟨g, 1, none⟩ = some (.int .i64 y) := cell_of_row w g 1 _ _ _ h

/-- Two, three, four points in blocks that follow each other. -/
def Two (w : World) (g : Nat) (ax ay bx by' : Int) (t : TypeId) : Prop := At w g ax ay t ∧ At w (g + 1) bx by' t
def Three (w : World) (g : Nat) (ax ay bx by' px py : Int) (t : TypeId) : Prop := At w g ax ay t ∧ At w (g + 1) bx by' t ∧ At w (g + 1 + 1) px py t
def Four (w : World) (g : Nat) (ax ay bx by' px py qx qy : Int) (t : TypeId) : Prop := At w g ax ay t ∧ At w (g + 1) bx by' t ∧ At w (g + 1 + 1) px py t ∧ At w (g + 1 + 1 + 1) qx qy t
theorem size_alloc (w : World) (o : Obj) : (w.alloc o).heap.size = w.heap.size + 1 := by simp
theorem two0 (w : World) (ax ay bx by' : Int) (t : TypeId) : Two ((w.alloc (.cells #[.int .i64 ax, .int .i64 ay] t)).alloc (.cells #[.int .i64 bx, .int .i64 by'] t)) w.heap.size ax ay bx by' t :=
  ⟨(at_new w ax ay t).alloc _, by have := at_new (w.alloc (.cells #[.int .i64 ax, .int .i64 ay] t)) bx by' t; rwa [size_alloc] at this⟩
theorem three0 (w : World) (ax ay bx by' px py : Int) (t : TypeId) :
    Three (((w.alloc (.cells #[.int .i64 ax, .int .i64 ay] t)).alloc (.cells #[.int .i64 bx, .int .i64 by'] t)).alloc (.cells #[.int .i64 px, .int .i64 py] t)) w.heap.size ax ay bx by' px py t :=
  ⟨(two0 w ax ay bx by' t).1.alloc _, (two0 w ax ay bx by' t).2.alloc _, by
    have := at_new ((w.alloc (.cells #[.int .i64 ax, .int .i64 ay] t)).alloc (.cells #[.int .i64 bx, .int .i64 by'] t)) px py t
    rwa [size_alloc, size_alloc] at this⟩
theorem four0 (w : World) (ax ay bx by' px py qx qy : Int) (t : TypeId) :
    Four ((((w.alloc (.cells #[.int .i64 ax, .int .i64 ay] t)).alloc (.cells #[.int .i64 bx, .int .i64 by'] t)).alloc (.cells #[.int .i64 px, .int .i64 py] t)).alloc (.cells #[.int .i64 qx, .int .i64 qy] t)) w.heap.size ax ay bx by' px py qx qy t :=
  ⟨(three0 w ax ay bx by' px py t).1.alloc _, (three0 w ax ay bx by' px py t).2.1.alloc _, (three0 w ax ay bx by' px py t).2.2.alloc _, by
    have := at_new (((w.alloc (.cells #[.int .i64 ax, .int .i64 ay] t)).alloc (.cells #[.int .i64 bx, .int .i64 by'] t)).alloc (.cells #[.int .i64 px, .int .i64 py] t)) qx qy t
    rwa [size_alloc, size_alloc, size_alloc] at this⟩
section
variable {w w' : World} {g : Nat} {ax ay bx by' px py qx qy : Int} {t : TypeId}
theorem Two.alloc (h : Two w g ax ay bx by' t) (o : Obj) : Two (w.alloc o) g ax ay bx by' t := ⟨h.1.alloc o, h.2.alloc o⟩
theorem Two.step (h : Two w g ax ay bx by' t) (hb : Below w.heap.size w w') : Two w' g ax ay bx by' t := ⟨h.1.step hb, h.2.step hb⟩
theorem Three.alloc (h : Three w g ax ay bx by' px py t) (o : Obj) : Three (w.alloc o) g ax ay bx by' px py t := ⟨h.1.alloc o, h.2.1.alloc o, h.2.2.alloc o⟩
theorem Three.step (h : Three w g ax ay bx by' px py t) (hb : Below w.heap.size w w') : Three w' g ax ay bx by' px py t := ⟨h.1.step hb, h.2.1.step hb, h.2.2.step hb⟩
theorem Four.alloc (h : Four w g ax ay bx by' px py qx qy t) (o : Obj) : Four (w.alloc o) g ax ay bx by' px py qx qy t := ⟨h.1.alloc o, h.2.1.alloc o, h.2.2.1.alloc o, h.2.2.2.alloc o⟩
theorem Four.step (h : Four w g ax ay bx by' px py qx qy t) (hb : Below w.heap.size w w') : Four w' g ax ay bx by' px py qx qy t := ⟨h.1.step hb, h.2.1.step hb, h.2.2.1.step hb, h.2.2.2.step hb⟩
end

def inB (x lo hi : Int) : Bool := decide (lo ≤ x) && decide (x ≤ hi)
theorem inB_spec {x lo hi : Int} : inB x lo hi = true ↔ lo ≤ x ∧ x ≤ hi := by simp [inB]
def okP (x y : Int) : Bool := inB x 0 40 && inB y 0 40
theorem okP_bounds {x y : Int} (h : okP x y = true) : 0 ≤ x ∧ x ≤ 40 ∧ 0 ≤ y ∧ y ≤ 40 := by
  simp only [okP, Bool.and_eq_true, inB_spec] at h
  omega
theorem ret_bool {a b : Bool} (h : a = b) : Ending.returned (.bool a) = .returned (.bool b) := by rw [h]
theorem ret_int {a b : Int} (h : a = b) : Ending.returned (.int .i64 a) = .returned (.int .i64 b) := by rw [h]

theorem in_any (x lo hi : Int) (w : World) :
    Calls Try.prog 68 #[.int .i64 x, .int .i64 lo, .int .i64 hi] w fun e w' => e = .returned (.bool (inB x lo hi)) ∧ w' = w := by
  cases h : decide (lo ≤ x)
  all_goals (
    go_enter Try.func68, Try.ntmps68
    go_wp2_with fail
    go_ret
    exact ⟨ret_bool (by simp only [inB, h, Bool.false_and, Bool.true_and]), rfl⟩)
theorem from_any (x lo hi : Int) (w : World) :
    Calls Try.prog 72 #[.int .i64 x, .int .i64 lo, .int .i64 hi] w fun e w' => e = .returned (.bool (inB x lo hi)) ∧ w' = w := by
  cases h : decide (lo ≤ x)
  all_goals (
    go_enter Try.func72, Try.ntmps72
    go_wp2_with fail
    go_ret
    exact ⟨ret_bool (by simp only [inB, h, Bool.false_and, Bool.true_and]), rfl⟩)
theorem spec_ok (x y : Int) (w : World) :
    Calls Try.prog 169 #[(.agg #[.int .i64 x, .int .i64 y])] w fun e w' => e = .returned (.bool (okP x y)) ∧ Below w.heap.size w w' := by
  cases h : inB x 0 40
  all_goals (
    go_enter Try.func169, Try.ntmps169
    go_wp2_with fail
    refine (in_any _ _ _ _).mono ?_
    rintro e w1 ⟨rfl, rfl⟩
    go_wp2_with fail)
  · go_ret
    exact ⟨ret_bool (by simp only [okP, h, Bool.false_and]), (Below.refl _ _).alloc (Nat.le_refl _) _⟩
  · refine (in_any _ _ _ _).mono ?_
    rintro e w1 ⟨rfl, rfl⟩
    go_wp2_with fail
    go_ret
    exact ⟨ret_bool (by simp only [okP, h, Bool.true_and]), (Below.refl _ _).alloc (Nat.le_refl _) _⟩
theorem impl_ok (x y : Int) (w : World) :
    Calls Try.prog 113 #[(.agg #[.int .i64 x, .int .i64 y])] w fun e w' => e = .returned (.bool (okP x y)) ∧ Below w.heap.size w w' := by
  cases h : inB x 0 40
  all_goals (
    go_enter Try.func113, Try.ntmps113
    go_wp2_with fail
    refine (from_any _ _ _ _).mono ?_
    rintro e w1 ⟨rfl, rfl⟩
    go_wp2_with fail)
  · go_ret
    exact ⟨ret_bool (by simp only [okP, h, Bool.false_and]), (Below.refl _ _).alloc (Nat.le_refl _) _⟩
  · refine (from_any _ _ _ _).mono ?_
    rintro e w1 ⟨rfl, rfl⟩
    go_wp2_with fail
    go_ret
    exact ⟨ret_bool (by simp only [okP, h, Bool.true_and]), (Below.refl _ _).alloc (Nat.le_refl _) _⟩
/-- The blocks of two, three boxed arguments lie behind the old heap. -/
theorem below1 (w : World) (o : Obj) : Below w.heap.size w (w.alloc o) := (Below.refl _ _).alloc (Nat.le_refl _) _
theorem below2 (w : World) (o p : Obj) : Below w.heap.size w ((w.alloc o).alloc p) := (below1 w o).alloc (by simp) _
theorem below3 (w : World) (o p q : Obj) : Below w.heap.size w (((w.alloc o).alloc p).alloc q) := (below2 w o p).alloc (by simp; omega) _
theorem below4 (w : World) (o p q r : Obj) : Below w.heap.size w ((((w.alloc o).alloc p).alloc q).alloc r) := (below3 w o p q).alloc (by simp; omega) _
/-- One more step, at the newest world's own size. -/
theorem below_on {a w w' : World} (h : Below a.heap.size a w) (hb : Below w.heap.size w w') : Below a.heap.size a w' := h.trans (hb.mono h.size)
theorem minus_any (ax ay bx by' : Int) (w : World) :
    Calls Try.prog 94 #[(.agg #[.int .i64 ax, .int .i64 ay]), (.agg #[.int .i64 bx, .int .i64 by'])] w fun e w' => e = .returned (.agg #[.int .i64 (wrap64 (ax - bx)), .int .i64 (wrap64 (ay - by'))]) ∧ Below w.heap.size w w' := by
  go_enter Try.func94, Try.ntmps94
  go_wp2_with fail
  go_returns
  exact ⟨rfl, below3 _ _ _ _⟩
theorem crossM_any (ax ay bx by' : Int) (w : World) :
    Calls Try.prog 104 #[(.agg #[.int .i64 ax, .int .i64 ay]), (.agg #[.int .i64 bx, .int .i64 by'])] w fun e w' => e = .returned (.int .i64 (wrap64 (wrap64 (ax * by') - wrap64 (ay * bx)))) ∧ Below w.heap.size w w' := by
  go_enter Try.func104, Try.ntmps104
  go_wp2_with fail
  go_ret
  exact ⟨rfl, below2 _ _ _⟩
theorem crossS_any (ax ay bx by' px py : Int) (w : World) :
    Calls Try.prog 180 #[(.agg #[.int .i64 ax, .int .i64 ay]), (.agg #[.int .i64 bx, .int .i64 by']), (.agg #[.int .i64 px, .int .i64 py])] w fun e w' => e = .returned (.int .i64 (wrap64 (wrap64 (wrap64 (bx - ax) * wrap64 (py - ay)) - wrap64 (wrap64 (by' - ay) * wrap64 (px - ax))))) ∧ Below w.heap.size w w' := by
  go_enter Try.func180, Try.ntmps180
  go_wp2_with fail
  go_ret
  exact ⟨rfl, below3 _ _ _ _⟩
theorem eqPt_any (ax ay bx by' : Int) (w : World) :
    Calls Try.prog 81 #[(.agg #[.int .i64 ax, .int .i64 ay]), (.agg #[.int .i64 bx, .int .i64 by'])] w fun e w' => e = .returned (.bool (decide (ax = bx) && decide (ay = by'))) ∧ Below w.heap.size w w' := by
  by_cases h1 : ax = bx
  · subst h1
    by_cases h2 : ay = by'
    · subst h2
      go_enter Try.func81, Try.ntmps81
      go_wp2_with fail
      go_ret
      exact ⟨ret_bool (by simp), below2 _ _ _⟩
    · go_enter Try.func81, Try.ntmps81
      go_wp2_with fail
      go_ret
      exact ⟨ret_bool (by simp [h2]), below2 _ _ _⟩
  · go_enter Try.func81, Try.ntmps81
    go_wp2_with fail
    go_ret
    exact ⟨ret_bool (by simp [h1]), below2 _ _ _⟩
end Go.Proofs.Ythoniopkeiifnaa

/-! Pts -/
namespace Go.Proofs.Ythoniopkeiifnaa
open Go.RowKit

/-- A block that holds points one behind the other. -/
def Pts (w : World) (g : Nat) (L : List (Int × Int)) : Prop := ∀ k (h : k < L.length), w.cell? ⟨g, k * 2, none⟩ = some (.int .i64 L[k].1) ∧ w.cell? ⟨g, k * 2 + 1, none⟩ = some (.int .i64 L[k].2)
theorem Pts.step {w w' : World} {g : Nat} {L : List (Int × Int)} (h : Pts w g L) (hg : g < w.heap.size) (hb : Below w.heap.size w w') : Pts w' g L := fun k hk =>
  ⟨(hb.cell (p := ⟨g, k * 2, none⟩) hg).trans (h k hk).1, (hb.cell (p := ⟨g, k * 2 + 1, none⟩) hg).trans (h k hk).2⟩
def allOk (L : List (Int × Int)) : Bool := L.all fun p => okP p.1 p.2

/-- The cells of a list of points. -/
def flat (L : List (Int × Int)) : List Value := L.flatMap fun p => [.int .i64 p.1, .int .i64 p.2]
theorem flat_append (L M : List (Int × Int)) : flat (L ++ M) = flat L ++ flat M := by simp [flat]
theorem flat_len (L : List (Int × Int)) : (flat L).length = L.length * 2 := by
  induction L with
  | nil => rfl
  | cons p L ih =>
    have : flat (p :: L) = .int .i64 p.1 :: .int .i64 p.2 :: flat L := rfl
    rw [this]; simp [ih]; omega
theorem infoPt : (Try.prog.info? 45).map (fun i => (i.zero, i.size, i.bytes)) = some (some (.agg #[.int .i64 0, .int .i64 0]), 2, 16) := by kernel_rfl
theorem At.grown {w w' : World} {g : Nat} {x y : Int} {t : TypeId} {r : Option Nat} (h : At w g x y t) (hg : w.grownBy w' r) (hne : some g ≠ r) : At w' g x y t := (hg.block g h.lt hne).trans h

theorem own_below {w w' : World} {B : Nat} {e : TypeId} {size : Nat} {v : Value} {n : Nat} {xs : List Value} (h : w.ownsRow B e size v n xs) (hb : Below w.heap.size w w') : w'.ownsRow B e size v n xs := by
  refine ⟨h.1, ?_⟩
  rcases h.2 with h2 | ⟨g, cap, cur, hv, hg, hh, r⟩
  · exact Or.inl h2
  · exact Or.inr ⟨g, cap, cur, hv, hg, by rw [hb.block g (Array.getElem?_eq_some_iff.1 hh).1]; exact hh, r⟩
theorem own_base {w : World} {B B' : Nat} {e : TypeId} {size : Nat} {v : Value} {n : Nat} {xs : List Value} (h : w.ownsRow B e size v n xs) (hb : B' ≤ B) : w.ownsRow B' e size v n xs := by
  refine ⟨h.1, ?_⟩
  rcases h.2 with h2 | ⟨g, cap, cur, hv, hg, r⟩
  · exact Or.inl h2
  · exact Or.inr ⟨g, cap, cur, hv, by omega, r⟩
theorem Four.grown {w w' : World} {g : Nat} {ax ay bx by' px py qx qy : Int} {t : TypeId} {r : Option Nat} (h : Four w g ax ay bx by' px py qx qy t) (hg : w.grownBy w' r) (hr : ∀ k, r = some k → g + 1 + 1 + 1 + 1 ≤ k) : Four w' g ax ay bx by' px py qx qy t :=
  ⟨h.1.grown hg (fun e => by have := hr _ e.symm; omega), h.2.1.grown hg (fun e => by have := hr _ e.symm; omega), h.2.2.1.grown hg (fun e => by have := hr _ e.symm; omega), h.2.2.2.grown hg (fun e => by have := hr _ e.symm; omega)⟩
theorem Pts.grown {w w' : World} {g : Nat} {L : List (Int × Int)} {r : Option Nat} (h : Pts w g L) (hg : w.grownBy w' r) (hr : some g ≠ r) : Pts w' g L := fun k hk =>
  ⟨hg.cell (h k hk).1 hr, hg.cell (h k hk).2 hr⟩
theorem Pts.alloc {w : World} {g : Nat} {L : List (Int × Int)} (h : Pts w g L) (hg : g < w.heap.size) (o : Obj) : Pts (w.alloc o) g L := h.step hg ((Below.refl _ _).alloc (Nat.le_refl _) _)
theorem pts2_new (w : World) (ax ay bx by' : Int) : Pts (w.alloc (.cells #[.int .i64 ax, .int .i64 ay, .int .i64 bx, .int .i64 by'] 45)) w.heap.size [(ax, ay), (bx, by')] := by
  intro k hk
  simp only [World.cell?_alloc_mark]
  have hk3 : k < 2 := hk
  match k, hk3 with
  | 0, _ => exact ⟨rfl, rfl⟩
  | 1, _ => exact ⟨rfl, rfl⟩

theorem own_apart {w w1 : World} {B0 B1 : Nat} {e : TypeId} {v0 v1 : Value} {n0 n1 : Nat} {xs0 xs1 : List Value} (h0 : w.ownsRow B0 e 2 v0 n0 xs0) (hB : w.heap.size ≤ B1) (h1 : w1.ownsRow B1 e 2 v1 n1 xs1) : v0.ownBlock = none ∨ v0.ownBlock ≠ v1.ownBlock := by
  cases hv : v0.ownBlock with
  | none => exact .inl rfl
  | some k =>
    refine .inr fun he => ?_
    have a1 := (h0.lt k hv).2
    have a2 := (h1.lt k he.symm).1
    omega
theorem own_drew {w : World} {B : Nat} {e : TypeId} {size : Nat} {v : Value} {n : Nat} {xs : List Value} (h : w.ownsRow B e size v n xs) : w.drew.ownsRow B e size v n xs := h

theorem cell_on {w w' : World} {B : Nat} {a : Addr} {v : Value} (hb : Below B w w') (hB : B = w.heap.size) (h : w.cell? a = some v) : w'.cell? a = some v := by
  subst hB
  exact (hb.cell (World.block_lt_of_cell? w a h)).trans h

/-- The cells of a slice of points. -/
def PtsA (w : World) (A : Option Addr) (L : List (Int × Int)) : Prop := ∀ k (h : k < L.length), ∃ g, A = some ⟨g, 0, none⟩ ∧ w.cell? ⟨g, k * 2, none⟩ = some (.int .i64 L[k].1) ∧ w.cell? ⟨g, k * 2 + 1, none⟩ = some (.int .i64 L[k].2)
theorem flat_at (L : List (Int × Int)) : ∀ k (h : k < L.length), (flat L)[k * 2]? = some (.int .i64 L[k].1) ∧ (flat L)[k * 2 + 1]? = some (.int .i64 L[k].2) := by
  induction L with
  | nil => intro k h; simp at h
  | cons p L ih =>
    intro k h
    have e : flat (p :: L) = .int .i64 p.1 :: .int .i64 p.2 :: flat L := rfl
    rw [e]
    cases k with
    | zero => exact ⟨rfl, rfl⟩
    | succ k =>
      have := ih k (by simpa using h)
      have e1 : (k + 1) * 2 = k * 2 + 1 + 1 := by omega
      have e2 : (k + 1) * 2 + 1 = k * 2 + 1 + 1 + 1 := by omega
      rw [e2, e1]
      simpa using this
theorem own_pts {w : World} {B : Nat} {e : TypeId} {v : Value} {n : Nat} {L : List (Int × Int)} (h : w.ownsRow B e 2 v n (flat L)) :
    n = L.length ∧ ∃ A c, v = .slice A L.length c ∧ PtsA w A L := by
  have hl : L.length = n := by have := h.1; rw [flat_len] at this; omega
  refine ⟨hl.symm, ?_⟩
  subst hl
  rcases h.2 with ⟨rfl, h0⟩ | ⟨g, cap, cur, rfl, hg, hh, _⟩
  · exact ⟨none, 0, by rw [h0], fun k hk => by omega⟩
  · refine ⟨some ⟨g, 0, none⟩, cap, rfl, fun k hk => ⟨g, rfl, ?_, ?_⟩⟩
    · rw [h.cellAt (k * 2) (by omega)]; exact (flat_at L k hk).1
    · rw [h.cellAt (k * 2 + 1) (by omega)]; exact (flat_at L k hk).2
theorem ptsA_of {w : World} {B : Nat} {e : TypeId} {A : Option Addr} {n c : Nat} {L : List (Int × Int)} (h : w.ownsRow B e 2 (.slice A n c) n (flat L)) : PtsA w A L := by
  obtain ⟨_, A', c', hv, hP⟩ := own_pts h
  simp only [Value.slice.injEq] at hv
  obtain ⟨rfl, -, -⟩ := hv
  exact hP
theorem pts_lt {w : World} {B : Nat} {e : TypeId} {A : Option Addr} {n c : Nat} {xs : List Value} (h : w.ownsRow B e 2 (.slice A n c) n xs) : ∀ g, A = some ⟨g, 0, none⟩ → g < w.heap.size := fun g hA => (h.lt g (by rw [hA]; rfl)).2
theorem ptsA_on {w w' : World} {A : Option Addr} {L : List (Int × Int)} (h : PtsA w A L) (hb : Below w.heap.size w w') : PtsA w' A L := fun k hk => by
  obtain ⟨g, hA, h1, h2⟩ := h k hk
  exact ⟨g, hA, cell_on hb rfl h1, cell_on hb rfl h2⟩

set_option maxRecDepth 100000 in
set_option maxHeartbeats 800000 in
theorem eq_pts (A1 A2 : Option Addr) (c1 c2 : Nat) (L : List (Int × Int)) (w : World) (h1 : PtsA w A1 L) (h2 : PtsA w A2 L) (hL : L.length ≤ 1048576) :
    Calls Try.prog 30 #[.slice A1 L.length c1, .slice A2 L.length c2] w fun e w' => e = .returned (.bool true) ∧ Below w.heap.size w w' := by
  have H1 := Lib.hid h1; clear h1
  have H2 := Lib.hid h2; clear h2
  go_enter Try.func30, Try.ntmps30
  go_wp2_with fail
  go_loopw [5] (fun i w' => ∃ k : Nat, k ≤ L.length ∧ i = .int .i64 k ∧ Below w.heap.size w w') (fun i _ => L.length - (intOf i).toNat)
  case atStart => exact ⟨0, Nat.zero_le _, rfl, Below.refl _ _⟩
  case round =>
    obtain ⟨wo, rfl⟩ : ∃ wo : World, wo = wr := ⟨_, rfl⟩
    obtain ⟨k, hk, rfl, hb⟩ := hrel
    by_cases hlt : k < L.length
    · obtain ⟨g1, rfl, hc1, hd1⟩ := ptsA_on H1.out hb k hlt
      obtain ⟨g2, rfl, hc2, hd2⟩ := ptsA_on H2.out hb k hlt
      obtain ⟨x, hx⟩ : ∃ x, x = L[k].1 := ⟨_, rfl⟩
      obtain ⟨y, hy⟩ : ∃ y, y = L[k].2 := ⟨_, rfl⟩
      rw [← hx] at hc1 hc2
      rw [← hy] at hd1 hd2
      clear hx hy
      have HQ := Lib.hid (fun d os => Calls.regrown_of (w := wo) (d := d) (os := os) (eqPt_any x y x y _))
      have k1 := cell_regrown hc1; have k2 := cell_regrown hd1; have k3 := cell_regrown hc2; have k4 := cell_regrown hd2
      go_wp2_with fail
      refine wp_region_quiet_below (by kernel_rfl) (by kernel_rfl) ?_
      repeat (first
        | go_big_quiet_step (first | exact Calls.regrown_of (eqPt_any _ _ _ _ _))
        | quiet_step (first | exact Calls.regrown_of (eqPt_any _ _ _ _ _)))
      refine wpQuiet_nil ?_
      rintro _ ⟨⟨dq, osq⟩, rfl⟩
      have hb2 := hb.trans ((below_regrown wo dq osq).mono hb.size)
      clear hc1 hd1 hc2 hd2 k1 k2 k3 k4
      simp only at *
      generalize Go.Sort.grow (redrawn wo dq) osq = w2 at *
      go_wp2_with fail
      go_roundw
      case rel => exact ⟨k + 1, by omega, by go_num, hb2⟩
      case measure => simp [intOf]; omega
    · go_wp2_with fail
      go_ret
      exact ⟨rfl, hb⟩
/-- The marks 1, 2 .. m. -/
def marksI (m : Nat) : List Value := (List.range m).map fun (j : Nat) => .int .i64 (1 + (j : Int))
theorem marksI_len (m : Nat) : (marksI m).length = m := by simp [marksI]
theorem marksI_step {j : Nat} {xs : List Value} (hj : j < xs.length) : (marksI j ++ xs.drop j).set j (.int .i64 (1 + (j : Int))) = marksI (j + 1) ++ xs.drop (j + 1) := by
  have h1 := marksI_len j
  rw [List.set_append_right _ _ (by rw [h1]; exact Nat.le_refl _), h1, Nat.sub_self, List.drop_eq_getElem_cons hj, List.set_cons_zero]
  simp [marksI, List.range_succ]
theorem only_set {w w1 : World} {g : Nat} (h : w.grownBy w1 (some g)) (j : Nat) (u : Value) : w.grownBy (w1.setCell ⟨g, j, none⟩ u) (some g) :=
  ⟨h.os, h.tape, h.output, by simpa [World.setCell] using h.size, fun k hk hr => (Below.heap_setCell w1 ⟨g, j, none⟩ u k (by
    intro e; exact hr (by rw [e]))).trans (h.block k hk hr)⟩
theorem cell_some {w : World} {B : Nat} {e : TypeId} {g n cap : Nat} {xs : List Value} (h : w.ownsRow B e 2 (.slice (some ⟨g, 0, none⟩) n cap) n xs) (j : Nat) (hj : j < n * 2) : ∃ u, w.cell? ⟨g, j, none⟩ = some u := by
  rw [h.cellAt j hj]
  have : j < xs.length := by rw [h.1]; exact hj
  exact ⟨_, List.getElem?_eq_getElem this⟩

set_option maxRecDepth 100000 in
set_option maxHeartbeats 800000 in
/-- Every number of an owned slice of points is overwritten by its mark. -/
theorem mark_pts (B : Nat) (v : Value) (n : Nat) (xs : List Value) (w : World) (hown : w.ownsRow B 45 2 v n xs) (hn : n ≤ 1048576) :
    Calls Try.prog 31 #[v, .int .i64 1] w fun e w' => e = .returned (.int .i64 (1 + 2 * n)) ∧ w'.ownsRow B 45 2 v n (marksI (n * 2)) ∧ w.grownBy w' v.ownBlock := by
  have hl : xs.length = n * 2 := hown.1
  rcases hown.2 with ⟨rfl, rfl⟩ | ⟨g, cap, cur, rfl, _⟩
  · go_enter Try.func31, Try.ntmps31
    go_wp2_with fail
    refine wp_loop_rounds 1 ?_
    rw [rounds_succ]
    go_wp2_with fail
    go_ret
    exact ⟨rfl, World.ownsRow_nil _ _ _ _, World.grownBy.refl _ _⟩
  · go_enter Try.func31, Try.ntmps31
    go_wp2_with fail
    go_loopw [1, 5] (fun m i wr => ∃ k : Nat, k ≤ n ∧ i = .int .i64 k ∧ m = .int .i64 (1 + 2 * k) ∧ wr.ownsRow B 45 2 (.slice (some ⟨g, 0, none⟩) n cap) n (marksI (k * 2) ++ xs.drop (k * 2)) ∧ w.grownBy wr (some g)) (fun _ i _ => n - (intOf i).toNat)
    case atStart => exact ⟨0, Nat.zero_le _, rfl, rfl, by simpa [marksI] using hown, World.grownBy.refl _ _⟩
    case round =>
      obtain ⟨k, hk, rfl, rfl, hown', hgr⟩ := hrel
      by_cases hlt : k < n
      · obtain ⟨u1, hc1⟩ := cell_some hown' (k * 2) (by omega)
        have hf1 := hown'.frozenAt (k * 2)
        have hs1 := (hown'.stored (k * 2) (.int .i64 (1 + 2 * (k : Int)))).1
        have e1 : (1 : Int) + 2 * (k : Int) = 1 + ((k * 2 : Nat) : Int) := by omega
        have hs2 := hs1
        rw [e1, marksI_step (by omega)] at hs2
        rw [← e1] at hs2
        have hg2 := only_set hgr (k * 2) (.int .i64 (1 + 2 * (k : Int)))
        obtain ⟨u2, hc2⟩ := cell_some hs2 (k * 2 + 1) (by omega)
        have hf2 := hs2.frozenAt (k * 2 + 1)
        have hs3 := (hs2.stored (k * 2 + 1) (.int .i64 (1 + 2 * (k : Int) + 1))).1
        have e2 : (1 : Int) + 2 * (k : Int) + 1 = 1 + ((k * 2 + 1 : Nat) : Int) := by omega
        have hs4 := hs3
        rw [e2, marksI_step (by omega)] at hs4
        rw [← e2] at hs4
        have hg4 := only_set hg2 (k * 2 + 1) (.int .i64 (1 + 2 * (k : Int) + 1))
        have R := Lib.hid (And.intro hs4 hg4)
        clear hs1 hs2 hs3 hs4 hg2 hg4 hown' hgr hown e1 e2
        go_wp2_with fail
        go_roundw
        case rel => exact ⟨k + 1, by omega, by go_num, by go_num, by rw [show (k + 1) * 2 = k * 2 + 1 + 1 from by omega]; exact R.out.1, R.out.2⟩
        case measure => simp [intOf]; omega
      · obtain rfl : k = n := by omega
        rw [List.drop_of_length_le (by omega), List.append_nil] at hown'
        have R := Lib.hid hown'
        clear hown' hown
        go_wp2_with fail
        go_ret
        exact ⟨rfl, R.out, hgr⟩
set_option maxRecDepth 100000 in
set_option maxHeartbeats 800000 in
/-- The marks are still there. -/
theorem held_pts (B : Nat) (v : Value) (n : Nat) (w : World) (hown : w.ownsRow B 45 2 v n (marksI (n * 2))) (hn : n ≤ 1048576) :
    Calls Try.prog 32 #[v, .int .i64 1] w fun e w' => e = .returned (.int .i64 (1 + 2 * n)) ∧ w' = w := by
  have hM : ∀ j, j < n * 2 → (marksI (n * 2))[j]? = some (.int .i64 (1 + (j : Int))) := fun j hj => by simp [marksI, hj]
  rcases hown.2 with ⟨rfl, rfl⟩ | ⟨g, cap, cur, rfl, _⟩
  · clear hM
    go_enter Try.func32, Try.ntmps32
    go_wp2_with fail
    refine wp_loop_rounds 1 ?_
    rw [rounds_succ]
    go_wp2_with fail
    go_ret
    exact ⟨rfl, rfl⟩
  · have HC : Hid (∀ j, j < n * 2 → w.cell? ⟨g, j, none⟩ = some (.int .i64 (1 + (j : Int)))) := fun j hj => (hown.cellAt j hj).trans (hM j hj)
    clear hM hown
    go_enter Try.func32, Try.ntmps32
    go_wp2_with fail
    go_loopw [1, 5] (fun m i wr => ∃ k : Nat, k ≤ n ∧ i = .int .i64 k ∧ m = .int .i64 (1 + 2 * k) ∧ wr = w) (fun _ i _ => n - (intOf i).toNat)
    case atStart => exact ⟨0, Nat.zero_le _, rfl, rfl, rfl⟩
    case round =>
      obtain ⟨k, hk, rfl, rfl, rfl⟩ := hrel
      by_cases hlt : k < n
      · have hc1 := HC.out (k * 2) (by omega)
        have hc2 := HC.out (k * 2 + 1) (by omega)
        have e1 : (1 : Int) + ((k * 2 : Nat) : Int) = 1 + 2 * (k : Int) := by omega
        have e2 : (1 : Int) + ((k * 2 + 1 : Nat) : Int) = 1 + 2 * (k : Int) + 1 := by omega
        rw [e1] at hc1
        rw [e2] at hc2
        clear e1 e2
        go_wp2_with fail
        go_roundw
        case rel => exact ⟨k + 1, by omega, by go_num, by go_num, by first | trivial | rfl⟩
        case measure => simp [intOf]; omega
      · obtain rfl : k = n := by omega
        go_wp2_with fail
        go_ret
        exact ⟨rfl, rfl⟩
end Go.Proofs.Ythoniopkeiifnaa

/-! Cross -/
namespace Go.Proofs.Ythoniopkeiifnaa
open Go.RowKit

theorem abs_mul {x y : Int} {m n : Nat} (h1 : x.natAbs ≤ m) (h2 : y.natAbs ≤ n) : (x * y).natAbs ≤ m * n := by
  rw [Int.natAbs_mul]; exact Nat.mul_le_mul h1 h2
theorem wrap_id {x : Int} (h : x.natAbs ≤ 1000000000000000000) : wrap64 x = x := IntWalk.wrap64_in x (by omega)

def crossI (ax ay bx by' px py : Int) : Int := (bx - ax) * (py - ay) - (by' - ay) * (px - ax)
theorem crossI_bound {ax ay bx by' px py : Int} (ha : okP ax ay = true) (hb : okP bx by' = true) (hp : okP px py = true) : (crossI ax ay bx by' px py).natAbs ≤ 3200 := by
  have := okP_bounds ha; have := okP_bounds hb; have := okP_bounds hp
  have h1 := abs_mul (x := bx - ax) (y := py - ay) (m := 40) (n := 40) (by omega) (by omega)
  have h2 := abs_mul (x := by' - ay) (y := px - ax) (m := 40) (n := 40) (by omega) (by omega)
  unfold crossI
  generalize (bx - ax) * (py - ay) = u at *
  generalize (by' - ay) * (px - ax) = v at *
  omega
/-- Small points: what is reckoned of them has no wraps. -/
def smP (x y : Int) : Bool := decide (-200 ≤ x) && decide (x ≤ 200) && decide (-200 ≤ y) && decide (y ≤ 200)
theorem smP_bounds {x y : Int} (h : smP x y = true) : -200 ≤ x ∧ x ≤ 200 ∧ -200 ≤ y ∧ y ≤ 200 := by
  simp only [smP, Bool.and_eq_true, decide_eq_true_eq] at h
  omega
theorem smP_ok {x y : Int} (h : okP x y = true) : smP x y = true := by
  have := okP_bounds h
  simp only [smP, Bool.and_eq_true, decide_eq_true_eq]
  omega
/-- What the program reckons, with its wraps, at small points. -/
theorem cross_wrap_sm {ax ay bx by' px py : Int} (ha : smP ax ay = true) (hb : smP bx by' = true) (hp : smP px py = true) :
    wrap64 (wrap64 (wrap64 (bx - ax) * wrap64 (py - ay)) - wrap64 (wrap64 (by' - ay) * wrap64 (px - ax))) = crossI ax ay bx by' px py := by
  have := smP_bounds ha; have := smP_bounds hb; have := smP_bounds hp
  rw [wrap_id (x := bx - ax) (by omega), wrap_id (x := py - ay) (by omega), wrap_id (x := by' - ay) (by omega), wrap_id (x := px - ax) (by omega)]
  have h1 := abs_mul (x := bx - ax) (y := py - ay) (m := 400) (n := 400) (by omega) (by omega)
  have h2 := abs_mul (x := by' - ay) (y := px - ax) (m := 400) (n := 400) (by omega) (by omega)
  rw [wrap_id (x := (bx - ax) * (py - ay)) (by omega), wrap_id (x := (by' - ay) * (px - ax)) (by omega)]
  unfold crossI
  generalize (bx - ax) * (py - ay) = u at *
  generalize (by' - ay) * (px - ax) = v at *
  exact wrap_id (by omega)
theorem cross_wrap {ax ay bx by' px py : Int} (ha : okP ax ay = true) (hb : okP bx by' = true) (hp : okP px py = true) :
    wrap64 (wrap64 (wrap64 (bx - ax) * wrap64 (py - ay)) - wrap64 (wrap64 (by' - ay) * wrap64 (px - ax))) = crossI ax ay bx by' px py := cross_wrap_sm (smP_ok ha) (smP_ok hb) (smP_ok hp)
def crossV (ax ay bx by' px py : Int) : Int := bif okP ax ay && okP bx by' && okP px py then crossI ax ay bx by' px py else 0

set_option maxRecDepth 100000 in
set_option maxHeartbeats 400000 in
theorem all_any (g c : Nat) (L : List (Int × Int)) (w : World) (hP : Pts w g L) (hg : g < w.heap.size) (hL : L.length ≤ 1048576) :
    Calls Try.prog 105 #[.slice (some ⟨g, 0, none⟩) L.length c] w fun e w' => e = .returned (.bool (allOk L)) ∧ Below w.heap.size w w' := by
  have HP := Lib.hid hP; clear hP
  go_enter Try.func105, Try.ntmps105
  go_wp2_with fail
  go_loopw [4, 7] (fun v i w' => ∃ k : Nat, k ≤ L.length ∧ i = .int .i64 k ∧ Hid (allOk L = allOk (L.drop k)) ∧ Below w.heap.size w w') (fun _ i _ => L.length - (intOf i).toNat)
  case atStart => exact ⟨0, Nat.zero_le _, rfl, rfl, Below.refl _ _⟩
  case round =>
    obtain ⟨wo, rfl⟩ : ∃ wo : World, wo = wr := ⟨_, rfl⟩
    obtain ⟨k, hk, rfl, HA, hb⟩ := hrel
    by_cases hlt : k < L.length
    · have hp := HP.out.step hg hb k hlt
      have hd : L.drop k = L[k] :: L.drop (k + 1) := List.drop_eq_getElem_cons hlt
      have HA2 : Hid (allOk L = (okP L[k].1 L[k].2 && allOk (L.drop (k + 1)))) := by
        show _ = _
        rw [HA.out, hd]; rfl
      obtain ⟨x, y, hxy⟩ : ∃ x y, L[k] = (x, y) := ⟨_, _, rfl⟩
      rw [hxy] at hp HA2
      obtain ⟨c1, c2⟩ := hp
      simp only at c1 c2 HA2
      clear hd hxy
      go_wp2_with fail
      refine (impl_ok _ _ _).mono ?_
      rintro e w2 ⟨rfl, hb2⟩
      have b2 := below_on (hb.alloc hb.size _) hb2
      cases hok : okP x y
      · rw [hok] at HA2
        go_wp2_with fail
        go_ret
        exact ⟨ret_bool (by rw [HA2.out]; rfl), b2⟩
      · rw [hok] at HA2
        clear c1 c2 hb2
        go_wp2_with fail
        go_roundw
        case rel => exact ⟨k + 1, by omega, by go_num, HA2, b2⟩
        case measure => simp [intOf]; omega
    · obtain rfl : k = L.length := by omega
      go_wp2_with fail
      go_ret
      exact ⟨ret_bool (by rw [HA.out]; simp [allOk]), hb⟩
theorem pts3 (w : World) (ax ay bx by' px py : Int) : Pts ((((w.alloc (.cells #[.int .i64 ax, .int .i64 ay] 45)).alloc (.cells #[.int .i64 bx, .int .i64 by'] 45)).alloc (.cells #[.int .i64 px, .int .i64 py] 45)).alloc
      (.cells #[.int .i64 ax, .int .i64 ay, .int .i64 bx, .int .i64 by', .int .i64 px, .int .i64 py] 45)) (w.heap.size + 1 + 1 + 1) [(ax, ay), (bx, by'), (px, py)] := by
  have e3 : w.heap.size + 1 + 1 + 1 = (((w.alloc (.cells #[.int .i64 ax, .int .i64 ay] 45)).alloc (.cells #[.int .i64 bx, .int .i64 by'] 45)).alloc (.cells #[.int .i64 px, .int .i64 py] 45)).heap.size := by simp
  rw [e3]
  intro k hk
  simp only [World.cell?_alloc_mark]
  have hk3 : k < 3 := hk
  match k, hk3 with
  | 0, _ => exact ⟨rfl, rfl⟩
  | 1, _ => exact ⟨rfl, rfl⟩
  | 2, _ => exact ⟨rfl, rfl⟩
theorem pts2 (w : World) (ax ay bx by' : Int) : Pts (((w.alloc (.cells #[.int .i64 ax, .int .i64 ay] 45)).alloc (.cells #[.int .i64 bx, .int .i64 by'] 45)).alloc
      (.cells #[.int .i64 ax, .int .i64 ay, .int .i64 bx, .int .i64 by'] 45)) (w.heap.size + 1 + 1) [(ax, ay), (bx, by')] := by
  have e3 : w.heap.size + 1 + 1 = ((w.alloc (.cells #[.int .i64 ax, .int .i64 ay] 45)).alloc (.cells #[.int .i64 bx, .int .i64 by'] 45)).heap.size := by simp
  rw [e3]
  intro k hk
  simp only [World.cell?_alloc_mark]
  have hk3 : k < 2 := hk
  match k, hk3 with
  | 0, _ => exact ⟨rfl, rfl⟩
  | 1, _ => exact ⟨rfl, rfl⟩
theorem pts4 (w : World) (ax ay bx by' px py qx qy : Int) : Pts (((((w.alloc (.cells #[.int .i64 ax, .int .i64 ay] 45)).alloc (.cells #[.int .i64 bx, .int .i64 by'] 45)).alloc (.cells #[.int .i64 px, .int .i64 py] 45)).alloc (.cells #[.int .i64 qx, .int .i64 qy] 45)).alloc
      (.cells #[.int .i64 ax, .int .i64 ay, .int .i64 bx, .int .i64 by', .int .i64 px, .int .i64 py, .int .i64 qx, .int .i64 qy] 45)) (w.heap.size + 1 + 1 + 1 + 1) [(ax, ay), (bx, by'), (px, py), (qx, qy)] := by
  have e3 : w.heap.size + 1 + 1 + 1 + 1 = ((((w.alloc (.cells #[.int .i64 ax, .int .i64 ay] 45)).alloc (.cells #[.int .i64 bx, .int .i64 by'] 45)).alloc (.cells #[.int .i64 px, .int .i64 py] 45)).alloc (.cells #[.int .i64 qx, .int .i64 qy] 45)).heap.size := by simp
  rw [e3]
  intro k hk
  simp only [World.cell?_alloc_mark]
  have hk3 : k < 4 := hk
  match k, hk3 with
  | 0, _ => exact ⟨rfl, rfl⟩
  | 1, _ => exact ⟨rfl, rfl⟩
  | 2, _ => exact ⟨rfl, rfl⟩
  | 3, _ => exact ⟨rfl, rfl⟩
theorem all2 (a b c d : Int) : allOk [(a, b), (c, d)] = (okP a b && okP c d) := by simp [allOk]
theorem all3 (a b c d e f : Int) : allOk [(a, b), (c, d), (e, f)] = (okP a b && okP c d && okP e f) := by simp [allOk, Bool.and_assoc]
theorem all4 (a b c d e f g h : Int) : allOk [(a, b), (c, d), (e, f), (g, h)] = (okP a b && okP c d && okP e f && okP g h) := by simp [allOk, Bool.and_assoc]
set_option maxRecDepth 100000 in
set_option maxHeartbeats 400000 in
theorem impl_cross (ax ay bx by' px py : Int) (w : World) :
    Calls Try.prog 157 #[(.agg #[.int .i64 ax, .int .i64 ay]), (.agg #[.int .i64 bx, .int .i64 by']), (.agg #[.int .i64 px, .int .i64 py])] w fun e w' => e = .returned (.int .i64 (crossV ax ay bx by' px py)) ∧ Below w.heap.size w w' := by
  have HP := Lib.hid (pts3 w ax ay bx by' px py)
  go_enter Try.func157, Try.ntmps157
  go_wp2_with fail
  refine (all_any _ _ [(ax, ay), (bx, by'), (px, py)] _ HP.out (by simp) (by simp)).mono ?_
  rintro e w1 ⟨rfl, hb1⟩
  have t1 := ((three0 w ax ay bx by' px py 45).alloc _).step hb1
  have b1 := below_on (below4 w _ _ _ _) hb1
  clear hb1 HP
  cases hok : allOk [(ax, ay), (bx, by'), (px, py)]
  · go_wp2_with fail
    go_ret
    exact ⟨ret_int (by rw [crossV, ← all3, hok]; rfl), b1⟩
  have hok' := hok
  rw [all3] at hok'
  simp only [Bool.and_eq_true] at hok'
  obtain ⟨⟨ha, hb⟩, hp⟩ := hok'
  have c1 := t1.1.c0; have c2 := t1.1.c1; have c3 := t1.2.1.c0; have c4 := t1.2.1.c1; have c5 := t1.2.2.c0; have c6 := t1.2.2.c1
  have k1 := cell_regrown c1; have k2 := cell_regrown c2; have k3 := cell_regrown c3; have k4 := cell_regrown c4; have k5 := cell_regrown c5; have k6 := cell_regrown c6
  go_wp2_with fail
  refine wp_region_quiet_below (by kernel_rfl) (by kernel_rfl) ?_
  repeat (first
    | go_big_quiet_step (first | exact Calls.regrown_of (minus_any _ _ _ _ _) | exact Calls.regrown_of (crossM_any _ _ _ _ _))
    | quiet_step (first | exact Calls.regrown_of (minus_any _ _ _ _ _) | exact Calls.regrown_of (crossM_any _ _ _ _ _)))
  refine wpQuiet_nil ?_
  intro _ hw'
  obtain ⟨⟨dq, osq⟩, hw''⟩ := hw'
  subst hw''
  have b2 := b1.trans ((below_regrown w1 dq osq).mono b1.size)
  go_wp2_with fail
  go_ret
  exact ⟨ret_int (by rw [cross_wrap ha hb hp]; simp [crossV, ha, hb, hp]), b2⟩
end Go.Proofs.Ythoniopkeiifnaa

/-! Right -/
namespace Go.Proofs.Ythoniopkeiifnaa
open Go.RowKit

def loB (l h p : Int × Int) : Bool := decide (l.2 ≤ p.2) && decide (p.2 < h.2) && decide (0 < crossI l.1 l.2 h.1 h.2 p.1 p.2)
def rightB (a b p : Int × Int) : Bool := bif decide (b.2 < a.2) then loB b a p else loB a b p

theorem at_froz {W : World} {g : Nat} {x y : Int} {t : TypeId} (h : At W g x y t) (o : Nat) : W.frozen? ⟨g, o, none⟩ = false := by simp [World.frozen?, show W.heap[g]? = _ from h]
theorem at_set {W : World} {x y : Int} {b : Nat} {t : TypeId} {G : Nat} (h : At W G x y t) (hne : G ≠ b) (o : Nat) (v : Value) : At (W.setCell ⟨b, o, none⟩ v) G x y t := (Below.heap_setCell W ⟨b, o, none⟩ v G hne).trans h
theorem at_st0 {W : World} {g : Nat} {x y : Int} {t : TypeId} (h : At W g x y t) (a : Int) (o : Nat) (ho : o = 0 := by rfl) : At (W.setCell ⟨g, o, none⟩ (.int .i64 a)) g a y t := by
  subst ho
  obtain ⟨hlt, hk⟩ := Array.getElem?_eq_some_iff.1 h
  show (W.heap.modify g _)[g]? = _
  rw [Array.getElem?_eq_getElem (by rw [Array.size_modify]; exact hlt), Array.getElem_modify_self, hk]
  rfl
theorem at_st1 {W : World} {g : Nat} {x y : Int} {t : TypeId} (h : At W g x y t) (a : Int) : At (W.setCell ⟨g, 1, none⟩ (.int .i64 a)) g x a t := by
  obtain ⟨hlt, hk⟩ := Array.getElem?_eq_some_iff.1 h
  show (W.heap.modify g _)[g]? = _
  rw [Array.getElem?_eq_getElem (by rw [Array.size_modify]; exact hlt), Array.getElem_modify_self, hk]
  rfl
set_option maxRecDepth 100000 in
set_option maxHeartbeats 4000000 in
theorem right_sm (ax ay bx by' px py : Int) (w : World) (ha : smP ax ay = true) (hb : smP bx by' = true) (hp : smP px py = true) :
    Calls Try.prog 159 #[.agg #[.int .i64 ax, .int .i64 ay, .int .i64 bx, .int .i64 by'], (.agg #[.int .i64 px, .int .i64 py])] w fun e w' => e = .returned (.bool (rightB (ax, ay) (bx, by') (px, py))) ∧ Below w.heap.size w w' := by
  go_enter Try.func159, Try.ntmps159
  go_upto_region 1 with (fail)
  go_cut [5, 6] (fun s5 s6 wx => ∃ B5 B6, Hid (B5 ≠ B6) ∧ Hid (w.heap.size + 1 < B5) ∧ Hid (w.heap.size + 1 < B6) ∧ s5 = .pointer (some ⟨B5, 0, none⟩) ∧ s6 = .pointer (some ⟨B6, 0, none⟩) ∧ Hid (At wx B5 ax ay 45) ∧ Hid (At wx B6 bx by' 45) ∧ Hid (At wx (w.heap.size + 1) px py 45) ∧ Hid (Below w.heap.size w wx))
  case first =>
    have hb1 := below2 w (.cells #[.int .i64 ax, .int .i64 ay, .int .i64 bx, .int .i64 by'] 99) (.cells #[.int .i64 px, .int .i64 py] 45)
    have hp1 := at_new (w.alloc (.cells #[.int .i64 ax, .int .i64 ay, .int .i64 bx, .int .i64 by'] 99)) px py 45
    rw [size_alloc] at hp1
    have hs2 : ((w.alloc (.cells #[.int .i64 ax, .int .i64 ay, .int .i64 bx, .int .i64 by'] 99)).alloc (.cells #[.int .i64 px, .int .i64 py] 45)).heap.size = w.heap.size + 1 + 1 := by simp
    have hK : ∀ (W : World) (a b c d : Int), W.heap.size = w.heap.size + 1 + 1 → Below w.heap.size w W → At W (w.heap.size + 1) px py 45 → Below w.heap.size w ((W.alloc (.cells #[.int .i64 a, .int .i64 b] 45)).alloc (.cells #[.int .i64 c, .int .i64 d] 45)).drew ∧ At ((W.alloc (.cells #[.int .i64 a, .int .i64 b] 45)).alloc (.cells #[.int .i64 c, .int .i64 d] 45)).drew (w.heap.size + 1) px py 45 ∧ At ((W.alloc (.cells #[.int .i64 a, .int .i64 b] 45)).alloc (.cells #[.int .i64 c, .int .i64 d] 45)).drew (w.heap.size + 1 + 1) a b 45 ∧ At ((W.alloc (.cells #[.int .i64 a, .int .i64 b] 45)).alloc (.cells #[.int .i64 c, .int .i64 d] 45)).drew (w.heap.size + 1 + 1 + 1) c d 45 := fun W a b c d hs hB hP => by
      have k1 := (at_new W a b 45).alloc (.cells #[.int .i64 c, .int .i64 d] 45)
      have k2 := at_new (W.alloc (.cells #[.int .i64 a, .int .i64 b] 45)) c d 45
      rw [size_alloc] at k2
      rw [hs] at k1 k2
      exact ⟨((hB.alloc (by omega) _).alloc (by simp; omega) _).drew, (hP.alloc _).alloc _, k1, k2⟩
    go_region
    all_goals go_wp2_with fail
    all_goals go_meet
    · have k := hK _ ax ay bx by' hs2 hb1 hp1
      exact ⟨_, _, Lib.hid (by omega), Lib.hid (by omega), Lib.hid (by omega), rfl, rfl, k.2.2.1, k.2.2.2, k.2.1, k.1⟩
    · have k := hK _ bx by' ax ay hs2 hb1 hp1
      exact ⟨_, _, Lib.hid (by omega), Lib.hid (by omega), Lib.hid (by omega), rfl, rfl, k.2.2.2, k.2.2.1, k.2.1, k.1⟩
  case rest =>
    obtain ⟨B5, B6, h1, h2, h3, rfl, rfl, h5, h6, hp', hb'⟩ := hcut
    have c0 := h5.out.c0; have c1 := h5.out.c1; have c2 := h6.out.c0; have c3 := h6.out.c1
    go_upto_if 15 with (fail)
    go_cut [] (fun wx => ∃ l h, Hid (rightB (ax, ay) (bx, by') (px, py) = loB l h (px, py)) ∧ Hid (smP l.1 l.2 = true) ∧ Hid (smP h.1 h.2 = true) ∧ Hid (At wx B5 l.1 l.2 45) ∧ Hid (At wx B6 h.1 h.2 45) ∧ Hid (At wx (w.heap.size + 1) px py 45) ∧ Hid (Below w.heap.size w wx))
    case first =>
      by_cases hsw : by' < ay
      · have f0 := at_froz h5.out 0; have f1 := at_froz h5.out 1
        have e1 := at_st1 (at_st0 h5.out bx 0) by'
        have e2 := at_set (at_set h6.out h1.out.symm 0 (.int .i64 bx)) h1.out.symm 1 (.int .i64 by')
        have e3 := at_st1 (at_st0 e2 ax 0) ay
        have e4 := at_set (at_set e1 h1.out 0 (.int .i64 ax)) h1.out 1 (.int .i64 ay)
        have q1 := e2.c0; have q2 := e2.c1; have q3 := at_froz e2 0; have q4 := at_froz e2 1
        have n5 : w.heap.size + 1 ≠ B5 := by have := h2.out; omega
        have n6 : w.heap.size + 1 ≠ B6 := by have := h3.out; omega
        have eP := at_set (at_set (at_set (at_set hp'.out n5 0 (.int .i64 bx)) n5 1 (.int .i64 by')) n6 0 (.int .i64 ax)) n6 1 (.int .i64 ay)
        have m5 : w.heap.size ≤ B5 := by have := h2.out; omega
        have m6 : w.heap.size ≤ B6 := by have := h3.out; omega
        have bE := (((hb'.out.setCell (p := ⟨B5, 0, none⟩) m5 (.int .i64 bx)).setCell (p := ⟨B5, 1, none⟩) m5 (.int .i64 by')).setCell (p := ⟨B6, 0, none⟩) m6 (.int .i64 ax)).setCell (p := ⟨B6, 1, none⟩) m6 (.int .i64 ay)
        have HX : Hid (At _ B6 _ _ _ ∧ At _ B5 _ _ _ ∧ At _ (w.heap.size + 1) _ _ _ ∧ Below w.heap.size w _) := ⟨e3, e4, eP, bE⟩
        have HR : Hid (rightB (ax, ay) (bx, by') (px, py) = loB (bx, by') (ax, ay) (px, py)) := Lib.hid (by simp [rightB, hsw])
        clear e1 e2 e3 e4 eP bE
        go_wp2_with fail
        go_meet
        exact ⟨_, _, HR, hb, ha, HX.out.2.1, HX.out.1, HX.out.2.2.1, HX.out.2.2.2⟩
      · have HR : Hid (rightB (ax, ay) (bx, by') (px, py) = loB (ax, ay) (bx, by') (px, py)) := Lib.hid (by simp [rightB, hsw])
        go_wp2_with fail
        go_meet
        exact ⟨_, _, HR, ha, hb, h5, h6, hp', hb'⟩
    case rest =>
      obtain ⟨⟨lx, ly⟩, ⟨hx, hy⟩, e1, e2, e3, e4, e5, e6, e7⟩ := hcut
      have HW : Hid (wrap64 (wrap64 (wrap64 (hx - lx) * wrap64 (py - ly)) - wrap64 (wrap64 (hy - ly) * wrap64 (px - lx))) = crossI lx ly hx hy px py) := Lib.hid (cross_wrap_sm e2.out e3.out hp)
      clear c0 c1 c2 c3
      have r0 := cell_regrown e4.out.c0; have r1 := cell_regrown e4.out.c1; have r2 := cell_regrown e5.out.c0; have r3 := cell_regrown e5.out.c1; have r4 := cell_regrown e6.out.c0; have r5 := cell_regrown e6.out.c1
      simp only at r0 r1 r2 r3
      have hc : Hid (loB (lx, ly) (hx, hy) (px, py) = (decide (ly ≤ py) && decide (py < hy) && decide (0 < crossI lx ly hx hy px py))) := Lib.hid rfl
      clear h5 h6 hp' hb' e2 e3 e4 e5 e6
      by_cases g1 : ly ≤ py
      · have d1 : decide (ly ≤ py) = true := decide_eq_true g1
        by_cases g2 : py < hy
        · have d2 : decide (py < hy) = true := decide_eq_true g2
          have HZ : Hid (rightB (ax, ay) (bx, by') (px, py) = decide (0 < wrap64 (wrap64 (wrap64 (hx - lx) * wrap64 (py - ly)) - wrap64 (wrap64 (hy - ly) * wrap64 (px - lx))))) := Lib.hid (by rw [e1.out, hc.out, d1, d2, HW.out]; rfl)
          clear e1 hc HW
          go_upto_region 4 with (fail)
          refine wp_region_quiet_below (by kernel_rfl) (by kernel_rfl) ?_
          repeat (first
            | go_big_quiet_step (first | exact Calls.regrown_of (minus_any _ _ _ _ _) | exact Calls.regrown_of (crossM_any _ _ _ _ _))
            | quiet_step (first | exact Calls.regrown_of (minus_any _ _ _ _ _) | exact Calls.regrown_of (crossM_any _ _ _ _ _)))
          refine wpQuiet_nil ?_
          rintro _ ⟨⟨dq, osq⟩, rfl⟩
          have hB2 := e7.out.trans ((below_regrown wc dq osq).mono e7.out.size)
          go_wp2_with fail
          go_ret
          exact ⟨ret_bool HZ.out.symm, hB2⟩
        · have d2 : decide (py < hy) = false := decide_eq_false g2
          have HZ : Hid (rightB (ax, ay) (bx, by') (px, py) = false) := Lib.hid (by rw [e1.out, hc.out, d1, d2]; rfl)
          clear e1 hc HW
          go_upto_region 4 with (fail)
          refine wp_region_quiet_below (by kernel_rfl) (by kernel_rfl) ?_
          repeat (first
            | go_big_quiet_step (first | exact Calls.regrown_of (minus_any _ _ _ _ _) | exact Calls.regrown_of (crossM_any _ _ _ _ _))
            | quiet_step (first | exact Calls.regrown_of (minus_any _ _ _ _ _) | exact Calls.regrown_of (crossM_any _ _ _ _ _)))
          refine wpQuiet_nil ?_
          rintro _ ⟨⟨dq, osq⟩, rfl⟩
          have hB2 := e7.out.trans ((below_regrown wc dq osq).mono e7.out.size)
          go_wp2_with fail
          go_ret
          exact ⟨ret_bool HZ.out.symm, hB2⟩
      · have d1 : decide (ly ≤ py) = false := decide_eq_false g1
        have HZ : Hid (rightB (ax, ay) (bx, by') (px, py) = false) := Lib.hid (by rw [e1.out, hc.out, d1]; rfl)
        clear e1 hc HW
        go_upto_region 4 with (fail)
        refine wp_region_quiet_below (by kernel_rfl) (by kernel_rfl) ?_
        repeat (first
          | go_big_quiet_step (first | exact Calls.regrown_of (minus_any _ _ _ _ _) | exact Calls.regrown_of (crossM_any _ _ _ _ _))
          | quiet_step (first | exact Calls.regrown_of (minus_any _ _ _ _ _) | exact Calls.regrown_of (crossM_any _ _ _ _ _)))
        refine wpQuiet_nil ?_
        rintro _ ⟨⟨dq, osq⟩, rfl⟩
        have hB2 := e7.out.trans ((below_regrown wc dq osq).mono e7.out.size)
        go_wp2_with fail
        go_ret
        exact ⟨ret_bool HZ.out.symm, hB2⟩
end Go.Proofs.Ythoniopkeiifnaa

/-! Side -/
namespace Go.Proofs.Ythoniopkeiifnaa
open Go.RowKit

def sgn (n : Int) : Int := if 0 < n then 1 else if n < 0 then -1 else 0
theorem sgn_pos {n : Int} (h : 0 < n) : sgn n = 1 := by simp [sgn, h]
theorem sgn_neg {n : Int} (h : n < 0) : sgn n = -1 := by
  have : ¬ 0 < n := by omega
  simp [sgn, h, this]
theorem sgn_cases (n : Int) : (0 < n ∧ sgn n = 1) ∨ (n < 0 ∧ sgn n = -1) ∨ (n = 0 ∧ sgn n = 0) := by
  rcases Int.lt_trichotomy n 0 with h | h | h
  · exact .inr (.inl ⟨h, sgn_neg h⟩)
  · exact .inr (.inr ⟨h, by simp [sgn, h]⟩)
  · exact .inl ⟨h, sgn_pos h⟩
theorem sgn_abs (n : Int) : (sgn n).natAbs ≤ 1 := by
  rcases sgn_cases n with ⟨_, h⟩ | ⟨_, h⟩ | ⟨_, h⟩ <;> rw [h] <;> decide
theorem sign_any (n : Int) (w : World) : Calls Try.prog 192 #[.int .i64 n] w fun e w' => e = .returned (.int .i64 (sgn n)) ∧ w' = w := by
  rcases sgn_cases n with ⟨h, hs⟩ | ⟨h, hs⟩ | ⟨h, hs⟩
  · rw [hs]
    clear hs
    go_enter Try.func192, Try.ntmps192
    go_wp2_with fail
    go_ret
    exact ⟨rfl, rfl⟩
  · rw [hs]
    clear hs
    go_enter Try.func192, Try.ntmps192
    go_wp2_with fail
    go_ret
    exact ⟨rfl, rfl⟩
  · subst h
    rw [hs]
    clear hs
    go_enter Try.func192, Try.ntmps192
    go_wp2_with fail
    go_ret
    exact ⟨rfl, rfl⟩
theorem nan_any (n : Int) (w : World) : Calls Try.prog 178 #[.int .i64 n] w fun e w' => e = .returned (.bool false) ∧ w' = w := by
  go_enter Try.func178, Try.ntmps178
  go_wp2_with fail
  go_ret
  exact ⟨rfl, rfl⟩
theorem compare_any (m n : Int) (w : World) : Calls Try.prog 160 #[.int .i64 m, .int .i64 n] w fun e w' => e = .returned (.int .i64 (sgn (m - n))) ∧ w' = w := by
  rcases sgn_cases (m - n) with ⟨h, hs⟩ | ⟨h, hs⟩ | ⟨h, hs⟩
  · rw [hs]
    clear hs
    have h' : n < m := by omega
    clear h
    go_enter Try.func160, Try.ntmps160
    go_wp2_with fail
    refine (nan_any _ _).mono ?_
    rintro e w1 ⟨rfl, rfl⟩
    go_wp2_with fail
    refine (nan_any _ _).mono ?_
    rintro e w1 ⟨rfl, rfl⟩
    go_wp2_with fail
    go_ret
    exact ⟨rfl, rfl⟩
  · rw [hs]
    clear hs
    have h' : m < n := by omega
    clear h
    go_enter Try.func160, Try.ntmps160
    go_wp2_with fail
    refine (nan_any _ _).mono ?_
    rintro e w1 ⟨rfl, rfl⟩
    go_wp2_with fail
    refine (nan_any _ _).mono ?_
    rintro e w1 ⟨rfl, rfl⟩
    go_wp2_with fail
    go_ret
    exact ⟨rfl, rfl⟩
  · obtain rfl : m = n := by omega
    rw [hs]
    clear hs h
    go_enter Try.func160, Try.ntmps160
    go_wp2_with fail
    refine (nan_any _ _).mono ?_
    rintro e w1 ⟨rfl, rfl⟩
    go_wp2_with fail
    refine (nan_any _ _).mono ?_
    rintro e w1 ⟨rfl, rfl⟩
    go_wp2_with fail
    go_ret
    exact ⟨rfl, rfl⟩
theorem impl_side (ax ay bx by' px py : Int) (w : World) :
    Calls Try.prog 116 #[(.agg #[.int .i64 ax, .int .i64 ay]), (.agg #[.int .i64 bx, .int .i64 by']), (.agg #[.int .i64 px, .int .i64 py])] w fun e w' => e = .returned (.int .i64 (sgn (crossV ax ay bx by' px py))) ∧ Below w.heap.size w w' := by
  go_enter Try.func116, Try.ntmps116
  go_wp2_with fail
  refine (impl_cross _ _ _ _ _ _ _).mono ?_
  rintro e w1 ⟨rfl, hb1⟩
  have b1 := below_on (below3 w _ _ _) hb1
  clear hb1
  go_wp2_with fail
  refine (compare_any _ _ _).mono ?_
  rintro e w2 ⟨rfl, rfl⟩
  go_wp2_with fail
  go_ret
  exact ⟨rfl, b1⟩
def beforeB (ax ay bx by' : Int) : Bool := decide (ay < by') || (ay == by' && decide (ax < bx))
theorem impl_before (ax ay bx by' : Int) (w : World) :
    Calls Try.prog 58 #[(.agg #[.int .i64 ax, .int .i64 ay]), (.agg #[.int .i64 bx, .int .i64 by'])] w fun e w' => e = .returned (.bool (beforeB ax ay bx by')) ∧ Below w.heap.size w w' := by
  cases h1 : decide (ay < by')
  · cases h2 : (ay == by')
    · go_enter Try.func58, Try.ntmps58
      go_wp2_with fail
      go_ret
      exact ⟨ret_bool (by simp only [beforeB, h1, h2]; rfl), below2 _ _ _⟩
    · go_enter Try.func58, Try.ntmps58
      go_wp2_with fail
      go_ret
      exact ⟨ret_bool (by simp only [beforeB, h1, h2, Bool.false_or, Bool.true_and]), below2 _ _ _⟩
  · go_enter Try.func58, Try.ntmps58
    go_wp2_with fail
    go_ret
    exact ⟨ret_bool (by simp only [beforeB, h1]; rfl), below2 _ _ _⟩
end Go.Proofs.Ythoniopkeiifnaa

/-! On -/
namespace Go.Proofs.Ythoniopkeiifnaa
open Go.RowKit

/-- p lies in the box of a and b. -/
def boxB (ax ay bx by' px py : Int) : Bool := inB px (min ax bx) (max ax bx) && inB py (min ay by') (max ay by')
theorem mm (a b : Int) : ∃ m M, min a b = m ∧ max a b = M ∧ ((a < b ∧ m = a ∧ M = b) ∨ (a = b ∧ m = a ∧ M = a) ∨ (b < a ∧ m = b ∧ M = a)) := ⟨_, _, rfl, rfl, by omega⟩
set_option maxRecDepth 100000 in
set_option maxHeartbeats 2000000 in
theorem box_any (px py ax ay bx by' : Int) (w : World) :
    Calls Try.prog 158 #[(.agg #[.int .i64 px, .int .i64 py]), (.agg #[.int .i64 ax, .int .i64 ay]), (.agg #[.int .i64 bx, .int .i64 by'])] w fun e w' => e = .returned (.bool (boxB ax ay bx by' px py)) ∧ Below w.heap.size w w' := by
  obtain ⟨m1, m2, e1, e2, hx⟩ := mm ax bx
  obtain ⟨m3, m4, e3, e4, hy⟩ := mm ay by'
  unfold boxB
  rw [e1, e2, e3, e4]
  clear e1 e2 e3 e4
  cases h : inB px m1 m2
  · rcases hx with ⟨hx, rfl, rfl⟩ | ⟨rfl, rfl, rfl⟩ | ⟨hx, rfl, rfl⟩
    all_goals (
      clear hy
      go_enter Try.func158, Try.ntmps158
      go_wp2_with fail
      refine (from_any _ _ _ _).mono ?_
      rintro e w1 ⟨rfl, rfl⟩
      go_wp2_with fail
      go_ret
      exact ⟨ret_bool (by simp only [Bool.false_and]), below3 _ _ _ _⟩)
  · rcases hx with ⟨hx, rfl, rfl⟩ | ⟨rfl, rfl, rfl⟩ | ⟨hx, rfl, rfl⟩ <;> rcases hy with ⟨hy, rfl, rfl⟩ | ⟨rfl, rfl, rfl⟩ | ⟨hy, rfl, rfl⟩
    all_goals (
      go_enter Try.func158, Try.ntmps158
      go_wp2_with fail
      refine (from_any _ _ _ _).mono ?_
      rintro e w1 ⟨rfl, rfl⟩
      go_wp2_with fail
      refine (from_any _ _ _ _).mono ?_
      rintro e w1 ⟨rfl, rfl⟩
      go_wp2_with fail
      go_ret
      exact ⟨ret_bool (by simp only [Bool.true_and]), below3 _ _ _ _⟩)
/-- p lies on the segment from a to b (all points good). -/
def onI (ax ay bx by' px py : Int) : Bool := (crossI ax ay bx by' px py == 0) && boxB ax ay bx by' px py
set_option maxRecDepth 100000 in
set_option maxHeartbeats 4000000 in
theorem on_sm (ax ay bx by' px py : Int) (w : World) (ha : smP ax ay = true) (hb : smP bx by' = true) (hp : smP px py = true) :
    Calls Try.prog 193 #[(.agg #[.int .i64 ax, .int .i64 ay]), (.agg #[.int .i64 bx, .int .i64 by']), (.agg #[.int .i64 px, .int .i64 py])] w fun e w' => e = .returned (.bool (onI ax ay bx by' px py)) ∧ Below w.heap.size w w' := by
  have hC := fun w => crossS_any ax ay bx by' px py w
  rw [cross_wrap_sm ha hb hp] at hC
  unfold onI boxB
  obtain ⟨z, hz⟩ : ∃ z, z = crossI ax ay bx by' px py := ⟨_, rfl⟩
  rw [← hz] at hC ⊢
  have HC := Lib.hid hC; clear hC
  clear ha hb hp hz
  obtain ⟨m1, m2, e1, e2, hx⟩ := mm ax bx
  obtain ⟨m3, m4, e3, e4, hy⟩ := mm ay by'
  rw [e1, e2, e3, e4]
  clear e1 e2 e3 e4
  have hbx : ((z == 0) && (inB px m1 m2 && inB py m3 m4)) = ((z == 0) && (((decide (m1 ≤ px) && decide (px ≤ m2)) && decide (m3 ≤ py)) && decide (py ≤ m4))) := by simp only [inB, Bool.and_assoc]
  rw [hbx]
  clear hbx
  cases h0 : (z == 0)
  · clear hx hy
    go_enter Try.func193, Try.ntmps193
    go_wp2_with fail
    refine (HC.out _).mono ?_
    rintro e w1 ⟨rfl, hb1⟩
    have t1 := (three0 w _ _ _ _ _ _ 45).step hb1
    have b1 := below_on (below3 w _ _ _) hb1
    clear hb1
    have c1 := t1.1.c0; have c2 := t1.1.c1; have c3 := t1.2.1.c0; have c4 := t1.2.1.c1; have c5 := t1.2.2.c0; have c6 := t1.2.2.c1
    clear t1
    go_wp2_with fail
    go_ret
    exact ⟨ret_bool (by simp only [Bool.false_and]), b1⟩
  cases h1 : decide (m1 ≤ px)
  · rcases hx with ⟨hx, rfl, rfl⟩ | ⟨rfl, rfl, rfl⟩ | ⟨hx, rfl, rfl⟩
    all_goals (
      clear hy
      (go_enter Try.func193, Try.ntmps193
       go_wp2_with fail
       refine (HC.out _).mono ?_
       rintro e w1 ⟨rfl, hb1⟩
       have t1 := (three0 w _ _ _ _ _ _ 45).step hb1
       have b1 := below_on (below3 w _ _ _) hb1
       clear hb1
       have c1 := t1.1.c0; have c2 := t1.1.c1; have c3 := t1.2.1.c0; have c4 := t1.2.1.c1; have c5 := t1.2.2.c0; have c6 := t1.2.2.c1
       clear t1
       go_wp2_with fail
       go_ret
       exact ⟨ret_bool (by simp only [Bool.false_and, Bool.and_false]), b1⟩))
  cases h2 : decide (px ≤ m2)
  · rcases hx with ⟨hx, rfl, rfl⟩ | ⟨rfl, rfl, rfl⟩ | ⟨hx, rfl, rfl⟩
    all_goals (
      clear hy
      (go_enter Try.func193, Try.ntmps193
       go_wp2_with fail
       refine (HC.out _).mono ?_
       rintro e w1 ⟨rfl, hb1⟩
       have t1 := (three0 w _ _ _ _ _ _ 45).step hb1
       have b1 := below_on (below3 w _ _ _) hb1
       clear hb1
       have c1 := t1.1.c0; have c2 := t1.1.c1; have c3 := t1.2.1.c0; have c4 := t1.2.1.c1; have c5 := t1.2.2.c0; have c6 := t1.2.2.c1
       clear t1
       go_wp2_with fail
       go_ret
       exact ⟨ret_bool (by simp only [Bool.false_and, Bool.and_false]), b1⟩))
  cases h3 : decide (m3 ≤ py)
  · rcases hx with ⟨hx, rfl, rfl⟩ | ⟨rfl, rfl, rfl⟩ | ⟨hx, rfl, rfl⟩ <;> rcases hy with ⟨hy, rfl, rfl⟩ | ⟨rfl, rfl, rfl⟩ | ⟨hy, rfl, rfl⟩
    all_goals
      (go_enter Try.func193, Try.ntmps193
       go_wp2_with fail
       refine (HC.out _).mono ?_
       rintro e w1 ⟨rfl, hb1⟩
       have t1 := (three0 w _ _ _ _ _ _ 45).step hb1
       have b1 := below_on (below3 w _ _ _) hb1
       clear hb1
       have c1 := t1.1.c0; have c2 := t1.1.c1; have c3 := t1.2.1.c0; have c4 := t1.2.1.c1; have c5 := t1.2.2.c0; have c6 := t1.2.2.c1
       clear t1
       go_wp2_with fail
       go_ret
       exact ⟨ret_bool (by simp only [Bool.false_and, Bool.and_false, Bool.true_and]), b1⟩)
  rcases hx with ⟨hx, rfl, rfl⟩ | ⟨rfl, rfl, rfl⟩ | ⟨hx, rfl, rfl⟩ <;> rcases hy with ⟨hy, rfl, rfl⟩ | ⟨rfl, rfl, rfl⟩ | ⟨hy, rfl, rfl⟩
  all_goals
      (go_enter Try.func193, Try.ntmps193
       go_wp2_with fail
       refine (HC.out _).mono ?_
       rintro e w1 ⟨rfl, hb1⟩
       have t1 := (three0 w _ _ _ _ _ _ 45).step hb1
       have b1 := below_on (below3 w _ _ _) hb1
       clear hb1
       have c1 := t1.1.c0; have c2 := t1.1.c1; have c3 := t1.2.1.c0; have c4 := t1.2.1.c1; have c5 := t1.2.2.c0; have c6 := t1.2.2.c1
       clear t1
       go_wp2_with fail
       go_ret
       exact ⟨ret_bool (by simp only [Bool.true_and]), b1⟩)
theorem on_any (ax ay bx by' px py : Int) (w : World) (ha : okP ax ay = true) (hb : okP bx by' = true) (hp : okP px py = true) :
    Calls Try.prog 193 #[(.agg #[.int .i64 ax, .int .i64 ay]), (.agg #[.int .i64 bx, .int .i64 by']), (.agg #[.int .i64 px, .int .i64 py])] w fun e w' => e = .returned (.bool (onI ax ay bx by' px py)) ∧ Below w.heap.size w w' := on_sm ax ay bx by' px py w (smP_ok ha) (smP_ok hb) (smP_ok hp)
def onV (ax ay bx by' px py : Int) : Bool := okP ax ay && okP bx by' && okP px py && onI ax ay bx by' px py
set_option maxRecDepth 100000 in
set_option maxHeartbeats 400000 in
theorem impl_on (ax ay bx by' px py : Int) (w : World) :
    Calls Try.prog 114 #[(.agg #[.int .i64 ax, .int .i64 ay]), (.agg #[.int .i64 bx, .int .i64 by']), (.agg #[.int .i64 px, .int .i64 py])] w fun e w' => e = .returned (.bool (onV ax ay bx by' px py)) ∧ Below w.heap.size w w' := by
  have HP := Lib.hid (pts3 w ax ay bx by' px py)
  go_enter Try.func114, Try.ntmps114
  go_wp2_with fail
  refine (all_any _ _ [(ax, ay), (bx, by'), (px, py)] _ HP.out (by simp) (by simp)).mono ?_
  rintro e w1 ⟨rfl, hb1⟩
  have t1 := ((three0 w ax ay bx by' px py 45).alloc _).step hb1
  have b1 := below_on (below4 w _ _ _ _) hb1
  clear hb1 HP
  have HO := Lib.hid (all3 ax ay bx by' px py)
  cases hok : allOk [(ax, ay), (bx, by'), (px, py)]
  · go_wp2_with fail
    go_ret
    exact ⟨ret_bool (by rw [onV, ← HO.out, hok, Bool.false_and]), b1⟩
  have hok2 := HO.out.symm
  rw [hok] at hok2
  simp only [Bool.and_eq_true] at hok2
  obtain ⟨⟨ha, hb⟩, hp⟩ := hok2
  have c1 := t1.1.c0; have c2 := t1.1.c1; have c3 := t1.2.1.c0; have c4 := t1.2.1.c1; have c5 := t1.2.2.c0; have c6 := t1.2.2.c1
  go_wp2_with fail
  refine (impl_cross _ _ _ _ _ _ _).mono ?_
  rintro e w2 ⟨rfl, hb2⟩
  have t2 := t1.step hb2
  have b2 := below_on b1 hb2
  clear hb2 t1 b1 c1 c2 c3 c4 c5 c6
  have hcv : crossV ax ay bx by' px py = crossI ax ay bx by' px py := by rw [crossV, ha, hb, hp]; rfl
  rw [hcv]
  have HA := Lib.hid ha; have HB := Lib.hid hb; have HQ := Lib.hid hp
  clear ha hb hp
  cases hz : (crossI ax ay bx by' px py == 0)
  · go_wp2_with fail
    go_ret
    exact ⟨ret_bool (by simp only [onV, onI, hz, Bool.false_and, Bool.and_false]), b2⟩
  have c1 := t2.1.c0; have c2 := t2.1.c1; have c3 := t2.2.1.c0; have c4 := t2.2.1.c1; have c5 := t2.2.2.c0; have c6 := t2.2.2.c1
  go_wp2_with fail
  refine (box_any _ _ _ _ _ _ _).mono ?_
  rintro e w3 ⟨rfl, hb3⟩
  have b3 := below_on b2 hb3
  clear hb3 t2 b2 c1 c2 c3 c4 c5 c6
  go_wp2_with fail
  go_ret
  exact ⟨ret_bool (by rw [onV, ← HO.out, hok, onI, hz, Bool.true_and, Bool.true_and]), b3⟩
end Go.Proofs.Ythoniopkeiifnaa

/-! Has -/
namespace Go.Proofs.Ythoniopkeiifnaa
open Go.RowKit

theorem under_pt : Try.prog.underlying 45 = some (.struct (Try.prog.fieldsOf 45)) := by kernel_rfl
theorem held_pt : Try.prog.stoodInHeld 45 = false := by kernel_rfl
theorem guard_pt : Try.prog.eqGuardType Try.prog.depth 45 = false := by kernel_rfl
theorem eql_pt (w : World) (x y x' y' : Int) : (binOp .eql 45 (.agg #[.int .i64 x, .int .i64 y]) (.agg #[.int .i64 x', .int .i64 y'])).run Try.prog w = .ok (.bool (x == x' && y == y')) w := by
  rw [run_eql_struct, run_equalIn_struct _ _ _ _ _ under_pt held_pt]
  cases h : (x == x') <;> cases h2 : (y == y') <;> simp_all [go_sem, Program.fieldsOf, Try.underlying45, Try.underlying3]
theorem neq_pt (w : World) (x y x' y' : Int) : (binOp .neq 45 (.agg #[.int .i64 x, .int .i64 y]) (.agg #[.int .i64 x', .int .i64 y'])).run Try.prog w = .ok (.bool (!(x == x' && y == y'))) w := by
  rw [run_neq_struct, run_equalIn_struct _ _ _ _ _ under_pt held_pt]
  cases h : (x == x') <;> cases h2 : (y == y') <;> simp_all [go_sem, Program.fieldsOf, Try.underlying45, Try.underlying3]
def hasP (L : List (Int × Int)) (x y : Int) : Bool := L.any fun p => p.1 == x && p.2 == y
theorem hasP_no {L : List (Int × Int)} {x y : Int} : hasP L x y = false ↔ ∀ p ∈ L, ¬ (p.1 = x ∧ p.2 = y) := by
  simp [hasP]
set_option maxRecDepth 100000 in
set_option maxHeartbeats 800000 in
theorem index_any (A : Option Addr) (c : Nat) (L : List (Int × Int)) (x y : Int) (w : World) (hP : PtsA w A L) (hL : L.length ≤ 1048576) :
    Calls Try.prog 144 #[.slice A L.length c, (.agg #[.int .i64 x, .int .i64 y])] w fun e w' => (∃ z : Int, e = .returned (.int .i64 z) ∧ decide (0 ≤ z) = hasP L x y) ∧ Below w.heap.size w w' := by
  have HP := Lib.hid (ptsA_on hP ((Below.refl w.heap.size w).alloc (Nat.le_refl _) (.cells #[.int .i64 x, .int .i64 y] 45))); clear hP
  have t1 := at_new w x y 45
  go_enter Try.func144, Try.ntmps144
  go_wp2_with fail
  have b1 := below1 w (.cells #[.int .i64 x, .int .i64 y] 45)
  generalize w.alloc (.cells #[.int .i64 x, .int .i64 y] 45) = w1 at *
  have c1 := t1.c0; have c2 := t1.c1
  go_loopw [5, 8] (fun _ i w' => ∃ (k d : Nat), k ≤ L.length ∧ i = .int .i64 k ∧ w' = w1.drewN d ∧ Hid (∀ j (h : j < L.length), j < k → ¬ (L[j].1 = x ∧ L[j].2 = y))) (fun _ i _ => L.length - (intOf i).toNat)
  case atStart => exact ⟨0, 0, Nat.zero_le _, rfl, rfl, fun j h hj => by omega⟩
  case round =>
    obtain ⟨k, d, hk, rfl, rfl, HN⟩ := hrel
    by_cases hlt : k < L.length
    · obtain ⟨g1, rfl, hc1, hd1⟩ := HP.out k hlt
      have GP := guard_pt
      have EP := fun w x y x' y' => eql_pt w x y x' y'
      obtain ⟨p, hp⟩ : ∃ p, p = L[k].1 := ⟨_, rfl⟩
      obtain ⟨q, hq⟩ : ∃ q, q = L[k].2 := ⟨_, rfl⟩
      rw [← hp] at hc1
      rw [← hq] at hd1
      have HPQ : Hid (L[k].1 = p ∧ L[k].2 = q) := ⟨hp.symm, hq.symm⟩
      clear hp hq
      cases he : (x == p && y == q)
      · have HN2 : Hid (∀ j (h : j < L.length), j < k + 1 → ¬ (L[j].1 = x ∧ L[j].2 = y)) := fun j h hj => by
          rcases Nat.lt_or_ge j k with h1 | h1
          · exact HN.out j h h1
          · obtain rfl : j = k := by omega
            rw [HPQ.out.1, HPQ.out.2]
            simp at he
            exact fun ⟨h1, h2⟩ => he h1.symm h2.symm
        go_wp2_with fail
        go_quiet (fail)
        go_wp2_with fail
        go_roundw
        case rel => exact ⟨k + 1, d + nq, by omega, by go_num, by simp, HN2⟩
        case measure => simp [intOf]; omega
      · have HY : Hid (hasP L x y = true) := by
          simp at he
          show _ = _
          rw [hasP, List.any_eq_true]
          exact ⟨L[k], List.getElem_mem hlt, by rw [HPQ.out.1, HPQ.out.2, he.1, he.2]; simp⟩
        go_wp2_with fail
        go_quiet (fail)
        go_wp2_with fail
        go_ret
        exact ⟨⟨_, rfl, by rw [HY.out]; simp⟩, b1.os, b1.tape, b1.output, b1.size, b1.block⟩
    · go_wp2_with fail
      go_ret
      refine ⟨⟨_, rfl, ?_⟩, b1.os, b1.tape, b1.output, b1.size, b1.block⟩
      have : hasP L x y = false := by
        rw [hasP_no]
        intro p hp
        obtain ⟨j, hj, rfl⟩ := List.getElem_of_mem hp
        exact HN.out j hj (by omega)
      rw [this]; rfl
theorem has_any (A : Option Addr) (c : Nat) (L : List (Int × Int)) (x y : Int) (w : World) (hP : PtsA w A L) (hL : L.length ≤ 1048576) :
    Calls Try.prog 120 #[.slice A L.length c, (.agg #[.int .i64 x, .int .i64 y])] w fun e w' => e = .returned (.bool (hasP L x y)) ∧ Below w.heap.size w w' := by
  have HI := Lib.hid (index_any A c L x y _ (ptsA_on hP ((Below.refl w.heap.size w).alloc (Nat.le_refl _) (.cells #[.int .i64 x, .int .i64 y] 45))) hL); clear hP
  go_enter Try.func120, Try.ntmps120
  go_wp2_with fail
  refine HI.out.mono ?_
  rintro e w1 ⟨⟨z, rfl, hz⟩, hb1⟩
  have b1 := below_on (below1 w _) hb1
  clear hb1
  have HZ := Lib.hid hz
  clear hz HI
  go_wp2_with fail
  go_ret
  exact ⟨ret_bool HZ.out, b1⟩
end Go.Proofs.Ythoniopkeiifnaa

/-! MeetFn -/
namespace Go.Proofs.Ythoniopkeiifnaa
open Go.RowKit

def onP (a b p : Int × Int) : Bool := onI a.1 a.2 b.1 b.2 p.1 p.2
def addE (a b c d : Int × Int) (E : List (Int × Int)) (p : Int × Int) : List (Int × Int) := bif onP a b p && onP c d p && !(hasP E p.1 p.2) then E ++ [p] else E
def endsE (a b c d : Int × Int) : List (Int × Int) := [a, b, c, d].foldl (addE a b c d) []
def crossP (a b p : Int × Int) : Int := crossI a.1 a.2 b.1 b.2 p.1 p.2
/-- The line through a and b has c and d on different sides. -/
def opp (a b c d : Int × Int) : Bool := decide (sgn (crossP a b c) * sgn (crossP a b d) < 0)
def sharedS (a b c d : Int × Int) : List (Int × Int) := [a, b].filter (onP c d) ++ [c, d].filter (onP a b)
def sameAll : List (Int × Int) → Bool
  | [] => true
  | x :: t => t.all fun y => y.1 == x.1 && y.2 == x.2
def meetI (a b c d : Int × Int) : Int := bif opp a b c d && opp c d a b then 2 else bif (sharedS a b c d).isEmpty then 0 else bif sameAll (sharedS a b c d) then 1 else 3
def okQ (p : Int × Int) : Bool := okP p.1 p.2
def eqQ (p q : Int × Int) : Bool := p.1 == q.1 && p.2 == q.2
def meetV (a b c d : Int × Int) : Int := bif okQ a && okQ b && okQ c && okQ d && !(eqQ a b) && !(eqQ c d) then meetI a b c d else 0

theorem on_left (a b : Int × Int) : onP a b a = true := by
  have h : crossI a.1 a.2 b.1 b.2 a.1 a.2 = 0 := by simp [crossI]
  simp [onP, onI, h, boxB, inB]
  omega
theorem on_right (a b : Int × Int) : onP a b b = true := by
  have h : crossI a.1 a.2 b.1 b.2 b.1 b.2 = 0 := by simp [crossI, Int.mul_comm]
  simp [onP, onI, h, boxB, inB]
  omega
/-- Each point once. -/
def ddS (E : List (Int × Int)) (p : Int × Int) : List (Int × Int) := bif hasP E p.1 p.2 then E else E ++ [p]
theorem ends_dd (a b c d : Int × Int) : endsE a b c d = (sharedS a b c d).foldl ddS [] := by
  have e1 : ∀ E, addE a b c d E a = bif onP c d a then ddS E a else E := fun E => by
    simp only [addE, ddS, on_left, Bool.true_and]; cases onP c d a <;> cases hasP E a.1 a.2 <;> rfl
  have e2 : ∀ E, addE a b c d E b = bif onP c d b then ddS E b else E := fun E => by
    simp only [addE, ddS, on_right, Bool.true_and]; cases onP c d b <;> cases hasP E b.1 b.2 <;> rfl
  have e3 : ∀ E, addE a b c d E c = bif onP a b c then ddS E c else E := fun E => by
    simp only [addE, ddS, on_left, Bool.and_true]; cases onP a b c <;> cases hasP E c.1 c.2 <;> rfl
  have e4 : ∀ E, addE a b c d E d = bif onP a b d then ddS E d else E := fun E => by
    simp only [addE, ddS, on_right, Bool.and_true]; cases onP a b d <;> cases hasP E d.1 d.2 <;> rfl
  simp only [endsE, sharedS, List.foldl_cons, List.foldl_nil, e1, e2, e3, e4, List.filter_cons, List.filter_nil]
  cases onP c d a <;> cases onP c d b <;> cases onP a b c <;> cases onP a b d <;> rfl
theorem dd_grows (S : List (Int × Int)) : ∀ E, E.length ≤ (S.foldl ddS E).length := by
  induction S with
  | nil => intro E; exact Nat.le_refl _
  | cons p S ih =>
    intro E
    refine Nat.le_trans ?_ (ih (ddS E p))
    unfold ddS
    cases hasP E p.1 p.2 <;> simp
theorem dd_one (x : Int × Int) : ∀ t : List (Int × Int), (t.all (fun y => y.1 == x.1 && y.2 == x.2) = true → t.foldl ddS [x] = [x]) ∧ (t.all (fun y => y.1 == x.1 && y.2 == x.2) = false → 2 ≤ (t.foldl ddS [x]).length) := by
  intro t
  induction t with
  | nil => exact ⟨fun _ => rfl, fun h => by simp at h⟩
  | cons y t ih =>
    rw [List.all_cons, List.foldl_cons]
    have hh : hasP [x] y.1 y.2 = (y.1 == x.1 && y.2 == x.2) := by
      simp only [hasP, List.any_cons, List.any_nil, Bool.or_false]
      rw [Bool.beq_comm (a := x.1), Bool.beq_comm (a := x.2)]
    cases h : (y.1 == x.1 && y.2 == x.2)
    · refine ⟨fun h => by simp at h, fun _ => ?_⟩
      have : ddS [x] y = [x, y] := by rw [ddS, hh, h]; rfl
      rw [this]
      exact dd_grows t [x, y]
    · have : ddS [x] y = [x] := by rw [ddS, hh, h]; rfl
      rw [this, Bool.true_and]
      exact ih
theorem dd_first (x : Int × Int) : ddS [] x = [x] := rfl
theorem opp_none {a b c d : Int × Int} (h : (opp a b c d && opp c d a b) = true) : sharedS a b c d = [] := by
  simp only [Bool.and_eq_true, opp, decide_eq_true_eq] at h
  obtain ⟨h1, h2⟩ := h
  have z : ∀ a b p : Int × Int, onP a b p = true → sgn (crossP a b p) = 0 := fun a b p h => by
    simp only [onP, onI, Bool.and_eq_true, beq_iff_eq] at h
    rw [crossP, h.1]; rfl
  have f1 : onP c d a = false := by
    cases hq : onP c d a
    · rfl
    · rw [z _ _ _ hq] at h2; simp at h2
  have f2 : onP c d b = false := by
    cases hq : onP c d b
    · rfl
    · rw [z _ _ _ hq] at h2; simp at h2
  have f3 : onP a b c = false := by
    cases hq : onP a b c
    · rfl
    · rw [z _ _ _ hq] at h1; simp at h1
  have f4 : onP a b d = false := by
    cases hq : onP a b d
    · rfl
    · rw [z _ _ _ hq] at h1; simp at h1
  simp [sharedS, f1, f2, f3, f4]
theorem ends_zero {a b c d : Int × Int} (h : (endsE a b c d).length = 0) : meetI a b c d = bif opp a b c d && opp c d a b then 2 else 0 := by
  rw [ends_dd] at h
  cases hS : sharedS a b c d with
  | nil => rw [meetI, hS]; cases opp a b c d && opp c d a b <;> rfl
  | cons x t =>
    rw [hS, List.foldl_cons, dd_first] at h
    have := dd_grows t [x]
    simp at this; omega
theorem ends_some {a b c d : Int × Int} (h : 1 ≤ (endsE a b c d).length) : meetI a b c d = if (endsE a b c d).length = 1 then 1 else 3 := by
  rw [ends_dd] at h ⊢
  cases ho : (opp a b c d && opp c d a b)
  · cases hS : sharedS a b c d with
    | nil => rw [hS] at h; simp at h
    | cons x t =>
      have hd := dd_one x t
      rw [meetI, ho, hS, List.foldl_cons, dd_first]
      show (bif sameAll (x :: t) then 1 else 3 : Int) = _
      rw [sameAll]
      cases hq : t.all (fun y => y.1 == x.1 && y.2 == x.2)
      · have := hd.2 hq
        rw [if_neg (by omega)]; rfl
      · rw [hd.1 hq]; rfl
  · rw [opp_none ho] at h; simp at h
theorem ends_le (a b c d : Int × Int) : (endsE a b c d).length ≤ 4 := by
  have : ∀ E p, (addE a b c d E p).length ≤ E.length + 1 := fun E p => by
    unfold addE
    cases onP a b p && onP c d p && !(hasP E p.1 p.2) <;> simp
  simp only [endsE, List.foldl_cons, List.foldl_nil]
  have h1 := this [] a
  have h2 := this (addE a b c d [] a) b
  have h3 := this (addE a b c d (addE a b c d [] a) b) c
  have h4 := this (addE a b c d (addE a b c d (addE a b c d [] a) b) c) d
  simp at h1
  omega
end Go.Proofs.Ythoniopkeiifnaa

/-! Meet -/
namespace Go.Proofs.Ythoniopkeiifnaa
open Go.RowKit

theorem crossS_sm (ax ay bx by' px py : Int) (w : World) (ha : smP ax ay = true) (hb : smP bx by' = true) (hp : smP px py = true) :
    Calls Try.prog 180 #[(.agg #[.int .i64 ax, .int .i64 ay]), (.agg #[.int .i64 bx, .int .i64 by']), (.agg #[.int .i64 px, .int .i64 py])] w fun e w' => e = .returned (.int .i64 (crossP (ax, ay) (bx, by') (px, py))) ∧ Below w.heap.size w w' := by
  have h := crossS_any ax ay bx by' px py w
  rw [cross_wrap_sm ha hb hp] at h
  exact h
theorem crossS_on (ax ay bx by' px py : Int) (w : World) (ha : okP ax ay = true) (hb : okP bx by' = true) (hp : okP px py = true) :
    Calls Try.prog 180 #[(.agg #[.int .i64 ax, .int .i64 ay]), (.agg #[.int .i64 bx, .int .i64 by']), (.agg #[.int .i64 px, .int .i64 py])] w fun e w' => e = .returned (.int .i64 (crossP (ax, ay) (bx, by') (px, py))) ∧ Below w.heap.size w w' := crossS_sm ax ay bx by' px py w (smP_ok ha) (smP_ok hb) (smP_ok hp)
theorem on_sm' (ax ay bx by' px py : Int) (w : World) (ha : smP ax ay = true) (hb : smP bx by' = true) (hp : smP px py = true) :
    Calls Try.prog 193 #[(.agg #[.int .i64 ax, .int .i64 ay]), (.agg #[.int .i64 bx, .int .i64 by']), (.agg #[.int .i64 px, .int .i64 py])] w fun e w' => e = .returned (.bool (onP (ax, ay) (bx, by') (px, py))) ∧ Below w.heap.size w w' := on_sm ax ay bx by' px py w ha hb hp
theorem on_any' (ax ay bx by' px py : Int) (w : World) (ha : okP ax ay = true) (hb : okP bx by' = true) (hp : okP px py = true) :
    Calls Try.prog 193 #[(.agg #[.int .i64 ax, .int .i64 ay]), (.agg #[.int .i64 bx, .int .i64 by']), (.agg #[.int .i64 px, .int .i64 py])] w fun e w' => e = .returned (.bool (onP (ax, ay) (bx, by') (px, py))) ∧ Below w.heap.size w w' := on_any ax ay bx by' px py w ha hb hp
/-- What a filter has let by of the first k. -/
def tillF (f : Int × Int → Bool) (L : List (Int × Int)) (k : Nat) : List (Int × Int) := (L.take k).filter f
theorem tillF_step {f : Int × Int → Bool} {L : List (Int × Int)} {p : Int × Int} {k : Nat} (h : L[k]? = some p) : tillF f L (k + 1) = bif f p then tillF f L k ++ [p] else tillF f L k := by
  have hk : k < L.length := (List.getElem?_eq_some_iff.1 h).1
  have hp : L[k] = p := (List.getElem?_eq_some_iff.1 h).2
  rw [tillF, List.take_succ_eq_append_getElem hk, List.filter_append, hp]
  cases hf : f p <;> simp [tillF, hf]
theorem tillF_len (f : Int × Int → Bool) (L : List (Int × Int)) (k : Nat) : (tillF f L k).length ≤ L.length := by
  unfold tillF
  exact Nat.le_trans (List.length_filter_le _ _) (by rw [List.length_take]; omega)
theorem same_iff (M : List (Int × Int)) (h0 : 0 < M.length) : sameAll M = true ↔ ∀ j (hj : j < M.length), M[j].1 = (M[0]).1 ∧ M[j].2 = (M[0]).2 := by
  cases M with
  | nil => simp at h0
  | cons p t =>
    simp only [sameAll, List.all_eq_true, Bool.and_eq_true, beq_iff_eq]
    constructor
    · intro h j hj
      cases j with
      | zero => exact ⟨rfl, rfl⟩
      | succ j => exact h _ (List.getElem_mem (by simpa using hj))
    · intro h y hy
      obtain ⟨j, hj, rfl⟩ := List.getElem_of_mem hy
      exact h (j + 1) (by simpa using hj)
set_option maxHeartbeats 8000000 in
set_option maxRecDepth 100000 in
theorem meet_any (ax ay bx by' cx cy dx dy : Int) (w : World) (ha : okP ax ay = true) (hb : okP bx by' = true) (hc : okP cx cy = true) (hd : okP dx dy = true) :
    Calls Try.prog 170 #[(.agg #[.int .i64 ax, .int .i64 ay]), (.agg #[.int .i64 bx, .int .i64 by']), (.agg #[.int .i64 cx, .int .i64 cy]), (.agg #[.int .i64 dx, .int .i64 dy])] w fun e w' => e = .returned (.int .i64 (meetI (ax, ay) (bx, by') (cx, cy) (dx, dy))) ∧ Below w.heap.size w w' := by
  obtain ⟨i0, hi0, hz0, hz1, hz2⟩ := info_parts infoPt
  have GP := guard_pt
  have EP := fun w x y x' y' => neq_pt w x y x' y'
  have A1 := Lib.hid (fun w => crossS_on ax ay bx by' cx cy w ha hb hc)
  have A2 := Lib.hid (fun w => crossS_on ax ay bx by' dx dy w ha hb hd)
  have A3 := Lib.hid (fun w => crossS_on cx cy dx dy ax ay w hc hd ha)
  have A4 := Lib.hid (fun w => crossS_on cx cy dx dy bx by' w hc hd hb)
  have m1 := abs_mul (sgn_abs (crossP (ax, ay) (bx, by') (cx, cy))) (sgn_abs (crossP (ax, ay) (bx, by') (dx, dy)))
  have m2 := abs_mul (sgn_abs (crossP (cx, cy) (dx, dy) (ax, ay))) (sgn_abs (crossP (cx, cy) (dx, dy) (bx, by')))
  have HM : Hid (meetI (ax, ay) (bx, by') (cx, cy) (dx, dy) = bif decide (sgn (crossP (ax, ay) (bx, by') (cx, cy)) * sgn (crossP (ax, ay) (bx, by') (dx, dy)) < 0) && decide (sgn (crossP (cx, cy) (dx, dy) (ax, ay)) * sgn (crossP (cx, cy) (dx, dy) (bx, by')) < 0) then 2 else
      bif (sharedS (ax, ay) (bx, by') (cx, cy) (dx, dy)).isEmpty then 0 else bif sameAll (sharedS (ax, ay) (bx, by') (cx, cy) (dx, dy)) then 1 else 3) := rfl
  obtain ⟨u, eu⟩ : ∃ u, u = sgn (crossP (ax, ay) (bx, by') (cx, cy)) * sgn (crossP (ax, ay) (bx, by') (dx, dy)) := ⟨_, rfl⟩
  obtain ⟨v, ev⟩ : ∃ v, v = sgn (crossP (cx, cy) (dx, dy) (ax, ay)) * sgn (crossP (cx, cy) (dx, dy) (bx, by')) := ⟨_, rfl⟩
  rw [← eu] at m1 HM
  rw [← ev] at m2 HM
  have e1 := eu.symm; have e2 := ev.symm
  have e3 : wrap64 u = u := wrap_id (by omega)
  have e4 : wrap64 v = v := wrap_id (by omega)
  have e5 : IntKind.i64.wrap u = u := IntWalk.i64_in _ (by omega)
  have e6 : IntKind.i64.wrap v = v := IntWalk.i64_in _ (by omega)
  clear m1 m2 eu ev
  have HA := Lib.hid ha; have HB := Lib.hid hb; have HC := Lib.hid hc; have HD := Lib.hid hd
  clear ha hb hc hd
  go_enter Try.func170, Try.ntmps170
  go_wp2_with fail
  refine (A1.out _).mono ?_
  rintro e w1 ⟨rfl, hb1⟩
  have t1 := (four0 w ax ay bx by' cx cy dx dy 45).step hb1
  have b1 := below_on (below4 w _ _ _ _) hb1
  clear hb1
  have c1 := t1.1.c0; have c2 := t1.1.c1; have c3 := t1.2.1.c0; have c4 := t1.2.1.c1; have c5 := t1.2.2.1.c0; have c6 := t1.2.2.1.c1; have c7 := t1.2.2.2.c0; have c8 := t1.2.2.2.c1
  go_wp2_with fail
  refine (sign_any _ _).mono ?_
  rintro e _ ⟨rfl, rfl⟩
  go_wp2_with fail
  refine (A2.out _).mono ?_
  rintro e w2 ⟨rfl, hb2⟩
  have t2 := t1.step hb2
  have b2 := below_on b1 hb2
  clear hb2 t1 b1
  clear c1 c2 c3 c4 c5 c6 c7 c8
  have c1 := t2.1.c0; have c2 := t2.1.c1; have c3 := t2.2.1.c0; have c4 := t2.2.1.c1; have c5 := t2.2.2.1.c0; have c6 := t2.2.2.1.c1; have c7 := t2.2.2.2.c0; have c8 := t2.2.2.2.c1
  go_wp2_with fail
  refine (sign_any _ _).mono ?_
  rintro e _ ⟨rfl, rfl⟩
  go_wp2_with fail
  refine (A3.out _).mono ?_
  rintro e w3 ⟨rfl, hb3⟩
  have t3 := t2.step hb3
  have b3 := below_on b2 hb3
  clear hb3 t2 b2
  clear c1 c2 c3 c4 c5 c6 c7 c8
  have c1 := t3.1.c0; have c2 := t3.1.c1; have c3 := t3.2.1.c0; have c4 := t3.2.1.c1; have c5 := t3.2.2.1.c0; have c6 := t3.2.2.1.c1; have c7 := t3.2.2.2.c0; have c8 := t3.2.2.2.c1
  go_wp2_with fail
  refine (sign_any _ _).mono ?_
  rintro e _ ⟨rfl, rfl⟩
  go_wp2_with fail
  refine (A4.out _).mono ?_
  rintro e w4 ⟨rfl, hb4⟩
  have t4 := t3.step hb4
  have b4 := below_on b3 hb4
  clear hb4 t3 b3
  clear c1 c2 c3 c4 c5 c6 c7 c8
  cases h1 : (decide (u < 0) && decide (v < 0))
  case true =>
    have h2 : decide (u < 0) = true := by cases h : decide (u < 0) <;> simp_all
    have h3 : decide (v < 0) = true := by cases h : decide (v < 0) <;> simp_all
    have HR : Hid (meetI (ax, ay) (bx, by') (cx, cy) (dx, dy) = 2) := by
      show _ = _
      rw [HM.out, h1]; rfl
    clear h1
    go_wp2_with fail
    refine (sign_any _ _).mono ?_
    rintro e _ ⟨rfl, rfl⟩
    go_wp2_with fail
    go_ret
    exact ⟨ret_int HR.out.symm, b4⟩
  have HR : Hid (meetI (ax, ay) (bx, by') (cx, cy) (dx, dy) = bif (sharedS (ax, ay) (bx, by') (cx, cy) (dx, dy)).isEmpty then 0 else bif sameAll (sharedS (ax, ay) (bx, by') (cx, cy) (dx, dy)) then 1 else 3) := by
    show _ = _
    rw [HM.out, h1]; rfl
  have hd' : decide (u < 0) = false ∨ (decide (u < 0) = true ∧ decide (v < 0) = false) := by
    cases h : decide (u < 0) <;> simp_all
  clear h1 HM
  have own0 := (World.ownsRow_lit (base := w4.heap.size) (e := 45) (size := 2) w4 #[] 0 (Nat.le_refl _) (by decide) rfl).alloc (.cells #[.int .i64 ax, .int .i64 ay, .int .i64 bx, .int .i64 by'] 45)
  have hP0 := pts2_new (w4.alloc (.cells #[] 45)) ax ay bx by'
  rw [size_alloc] at hP0
  have H4 : Hid (w.heap.size + 1 + 1 + 1 < w4.heap.size) := t4.2.2.2.lt
  have u4 := t4.alloc (.cells #[] 45)
  have c1 := u4.1.c0; have c2 := u4.1.c1; have c3 := u4.2.1.c0; have c4 := u4.2.1.c1
  rcases hd' with hd1 | ⟨hd1, hd2⟩
  all_goals
    go_wp2_with fail
    refine (sign_any _ _).mono ?_
    rintro e w4 ⟨rfl, rfl⟩
    go_wp2_with fail
    clear c1 c2 c3 c4 u4
    go_loopw [13, 15, 55] (fun s _ i wr => ∃ (k g cap : Nat) (M : List (Int × Int)), k ≤ 2 ∧ i = .int .i64 k ∧ s = .slice (some ⟨g, 0, none⟩) M.length cap ∧ Hid (M = tillF (onP (cx, cy) (dx, dy)) [(ax, ay), (bx, by')] k) ∧ wr.ownsRow w4.heap.size 45 2 (.slice (some ⟨g, 0, none⟩) M.length cap) M.length (flat M) ∧
        g ≠ w4.heap.size + 1 ∧ w4.heap.size + 1 < wr.heap.size ∧ Four wr w.heap.size ax ay bx by' cx cy dx dy 45 ∧ Pts wr (w4.heap.size + 1) [(ax, ay), (bx, by')] ∧ Below w.heap.size w wr) (fun _ _ i _ => 2 - (intOf i).toNat)
    case atStart => exact ⟨0, w4.heap.size, 0, [], by omega, rfl, rfl, rfl, own0, by omega, by simp, (t4.alloc _).alloc _, hP0, (b4.alloc b4.size _).alloc (by have := b4.size; simp; omega) _⟩
    case round =>
      obtain ⟨wo, rfl⟩ : ∃ wo : World, wo = wr := ⟨_, rfl⟩
      clear own0 t4 b4 hP0
      obtain ⟨k, g, cp, M, hk, rfl, rfl, HMM, hown, hgs, hgl, t1, hP, b1⟩ := hrel
      by_cases hlt : k < 2
      · obtain ⟨x, y, hxy⟩ : ∃ x y, [(ax, ay), (bx, by')][k]? = some (x, y) := ⟨_, _, List.getElem?_eq_getElem (by simpa using hlt)⟩
        have hok : okP x y = true := by
          have := List.mem_of_getElem? hxy
          simp only [List.mem_cons, Prod.mk.injEq, List.not_mem_nil, or_false] at this
          rcases this with ⟨rfl, rfl⟩ | ⟨rfl, rfl⟩
          · exact HA.out
          · exact HB.out
        have hpk := hP k (by simpa using hlt)
        have hLk : [(ax, ay), (bx, by')][k]'(by simpa using hlt) = (x, y) := (List.getElem?_eq_some_iff.1 hxy).2
        rw [hLk] at hpk
        obtain ⟨p1, p2⟩ := hpk
        simp only at p1 p2
        have hs := tillF_step (f := (onP (cx, cy) (dx, dy))) hxy
        have hE4 : M.length ≤ 4 := by
          have h1 := tillF_len (onP (cx, cy) (dx, dy)) [(ax, ay), (bx, by')] k
          rw [HMM.out]
          simp only [List.length_cons, List.length_nil] at *
          omega
        have HON := Lib.hid (fun w => on_any' cx cy dx dy x y w HC.out HD.out hok)
        have HS : Hid (tillF (onP (cx, cy) (dx, dy)) [(ax, ay), (bx, by')] (k + 1) = bif (onP (cx, cy) (dx, dy)) (x, y) then M ++ [(x, y)] else M) := by
          show _ = _
          rw [HMM.out, hs]
          try (cases (onP (cx, cy) (dx, dy)) (x, y) <;> simp)
        clear hxy hs hLk hok HMM
        have u1 := t1.alloc (.cells #[.int .i64 x, .int .i64 y] 45)
        have n1 := at_new wo x y 45
        have hP1 := hP.alloc hgl (.cells #[.int .i64 x, .int .i64 y] 45)
        have c1 := u1.2.2.1.c0; have c2 := u1.2.2.1.c1; have c3 := u1.2.2.2.c0; have c4 := u1.2.2.2.c1
        go_wp2_with fail
        refine (HON.out _).mono ?_
        rintro e w2 ⟨rfl, hb2⟩
        have t2 := u1.step hb2
        have n2 := n1.step hb2
        have hP2 := hP1.step (by simp; omega) hb2
        have b2 := below_on (b1.alloc b1.size _) hb2
        have own2 := own_below (hown.alloc _) hb2
        have hgl2 : w4.heap.size + 1 < w2.heap.size := by have := hb2.size; simp at this; omega
        clear u1 n1 t1 b1 hown hb2 c1 c2 c3 c4 hP hP1 p1 p2 HON
        cases ho1 : (onP (cx, cy) (dx, dy)) (x, y)
        · have HE : Hid (M = tillF (onP (cx, cy) (dx, dy)) [(ax, ay), (bx, by')] (k + 1)) := by
            show _ = _
            rw [HS.out, ho1]; rfl
          have R := Lib.hid (And.intro own2 (And.intro t2 (And.intro hP2 b2)))
          clear own2 t2 b2 n2 hP2
          go_wp2_with fail
          go_roundw
          case rel => exact ⟨k + 1, g, cp, M, by omega, by go_num, rfl, HE, R.out.1, hgs, hgl2, R.out.2.1, R.out.2.2.1, R.out.2.2.2⟩
          case measure => simp [intOf]; omega
        · have HE : Hid (M ++ [(x, y)] = tillF (onP (cx, cy) (dx, dy)) [(ax, ay), (bx, by')] (k + 1)) := by
            show _ = _
            rw [HS.out, ho1]; rfl
          have c5 := n2.c0; have c6 := n2.c1
          have hB := t2.2.2.2.lt
          go_wp2_with (at_builtin; refine wpList_append_lies _ rfl _ _ 34 rfl w4.heap.size 45 i0 (.agg #[.int .i64 0, .int .i64 0]) 2 16 Try.underlying34 hi0 hz0 hz1 hz2 rfl (by decide) _ _ _ rfl (own2.alloc _) ⟨w2.heap.size, 0, none⟩ 1 1 [.int .i64 x, .int .i64 y] rfl rfl ?d1 ?d2 (by omega) ?d3 ?d4 ?d5 (w2.heap.size + 1) (by simp) ?_)
          case d1 => exact World.news_of_block (cs := #[.int .i64 x, .int .i64 y]) (t := 45) (fr := (0, 0)) (heap_alloc_new w2 _)
          case d2 => simp [Value.oneCell']
          case d3 => unfold maxLen; omega
          case d4 => omega
          case d5 => have := (own2.lt g rfl); simp; omega
          intro g5 cp5 w5 own5 hgrow hat _
          have hr := fun k hk => (own2.lt k hk).1
          have hw4 : w.heap.size + 1 + 1 + 1 < w4.heap.size := H4.out
          have hg5 : g5 ≠ w4.heap.size + 1 := by
            rcases hat with hat | hat
            · simp [Value.ownBlock] at hat; omega
            · omega
          have HN : Hid ((M ++ [(x, y)]).length = M.length + 1) := by simp [Hid]
          have R : Hid (w5.ownsRow w4.heap.size 45 2 (.slice (some ⟨g5, 0, none⟩) (M ++ [(x, y)]).length cp5) (M ++ [(x, y)]).length (flat (M ++ [(x, y)])) ∧ Four w5 w.heap.size ax ay bx by' cx cy dx dy 45 ∧ Pts w5 (w4.heap.size + 1) [(ax, ay), (bx, by')] ∧ Below w.heap.size w w5 ∧ w4.heap.size + 1 < w5.heap.size) :=
            ⟨by rw [flat_append, HN.out]; exact own5, (t2.alloc _).grown hgrow (fun q hq => by have := hr q hq; omega), (hP2.alloc hgl2 _).grown hgrow (by simp [Value.ownBlock]; omega),
              (b2.alloc b2.size _).grown hgrow (by have := b2.size; simp; omega) (fun q hq => by have := hr q hq; omega), by have := hgrow.size; simp at this; omega⟩
          clear own2 own5 hgrow t2 b2 n2 c5 c6 hP2
          go_wp2_with fail
          exact ⟨⟨k + 1, g5, cp5, M ++ [(x, y)], by omega, by go_num, by rw [HN.out], HE, R.out.1, hg5, R.out.2.2.2.2, R.out.2.1, R.out.2.2.1, R.out.2.2.2.1⟩, by simp [intOf]; omega⟩
      · have HK := Lib.hid (show k = 2 by omega)
        replace HMM : Hid (M = tillF (onP (cx, cy) (dx, dy)) [(ax, ay), (bx, by')] 2) := by
          show _ = _
          rw [HMM.out, HK.out]
        have S1len : M.length ≤ 2 := by rw [HMM.out]; simpa using tillF_len (onP (cx, cy) (dx, dy)) [(ax, ay), (bx, by')] 2
        have HSH : Hid (sharedS (ax, ay) (bx, by') (cx, cy) (dx, dy) = M ++ tillF (onP (ax, ay) (bx, by')) [(cx, cy), (dx, dy)] 2) := by
          show _ = _
          rw [HMM.out]; rfl
        obtain ⟨w6, e6⟩ : ∃ w6 : World, w6 = wo := ⟨_, rfl⟩
        obtain ⟨S1, eS⟩ : ∃ S1 : List (Int × Int), S1 = M := ⟨_, rfl⟩
        have hlt6 := (hown.lt g rfl).2
        rw [← e6] at hown t1 b1 hlt6 ⊢
        rw [← eS] at hown HSH S1len ⊢
        clear e6 hP hgl hgs HMM eS
        have own6 := hown; have t6 := t1; have b6 := b1
        clear hown t1 b1
        have c1 := t6.2.2.1.c0; have c2 := t6.2.2.1.c1; have c3 := t6.2.2.2.c0; have c4 := t6.2.2.2.c1
        go_wp2_with fail
        clear c1 c2 c3 c4
        go_loopw [13, 17, 72] (fun s _ i wr => ∃ (k g cap : Nat) (M : List (Int × Int)), k ≤ 2 ∧ i = .int .i64 k ∧ s = .slice (some ⟨g, 0, none⟩) M.length cap ∧ Hid (M = S1 ++ tillF (onP (ax, ay) (bx, by')) [(cx, cy), (dx, dy)] k) ∧ wr.ownsRow w4.heap.size 45 2 (.slice (some ⟨g, 0, none⟩) M.length cap) M.length (flat M) ∧
            g ≠ w6.heap.size ∧ w6.heap.size < wr.heap.size ∧ Four wr w.heap.size ax ay bx by' cx cy dx dy 45 ∧ Pts wr (w6.heap.size) [(cx, cy), (dx, dy)] ∧ Below w.heap.size w wr) (fun _ _ i _ => 2 - (intOf i).toNat)
        case atStart => exact ⟨0, g, cp, S1, by omega, rfl, rfl, by simp [Hid, tillF], own6.alloc _, by omega, by simp, t6.alloc _, pts2_new w6 cx cy dx dy, b6.alloc b6.size _⟩
        case round =>
          obtain ⟨wo, rfl⟩ : ∃ wo : World, wo = wr := ⟨_, rfl⟩
          clear own6 t6 b6
          obtain ⟨k, g, cp, M, hk, rfl, rfl, HMM, hown, hgs, hgl, t1, hP, b1⟩ := hrel
          by_cases hlt : k < 2
          · obtain ⟨x, y, hxy⟩ : ∃ x y, [(cx, cy), (dx, dy)][k]? = some (x, y) := ⟨_, _, List.getElem?_eq_getElem (by simpa using hlt)⟩
            have hok : okP x y = true := by
              have := List.mem_of_getElem? hxy
              simp only [List.mem_cons, Prod.mk.injEq, List.not_mem_nil, or_false] at this
              rcases this with ⟨rfl, rfl⟩ | ⟨rfl, rfl⟩
              · exact HC.out
              · exact HD.out
            have hpk := hP k (by simpa using hlt)
            have hLk : [(cx, cy), (dx, dy)][k]'(by simpa using hlt) = (x, y) := (List.getElem?_eq_some_iff.1 hxy).2
            rw [hLk] at hpk
            obtain ⟨p1, p2⟩ := hpk
            simp only at p1 p2
            have hs := tillF_step (f := (onP (ax, ay) (bx, by'))) hxy
            have hE4 : M.length ≤ 4 := by
              have h1 := tillF_len (onP (ax, ay) (bx, by')) [(cx, cy), (dx, dy)] k
              rw [HMM.out]
              simp only [List.length_append, List.length_cons, List.length_nil] at *
              omega
            have HON := Lib.hid (fun w => on_any' ax ay bx by' x y w HA.out HB.out hok)
            have HS : Hid (S1 ++ tillF (onP (ax, ay) (bx, by')) [(cx, cy), (dx, dy)] (k + 1) = bif (onP (ax, ay) (bx, by')) (x, y) then M ++ [(x, y)] else M) := by
              show _ = _
              rw [HMM.out, hs]
              try (cases (onP (ax, ay) (bx, by')) (x, y) <;> simp)
            clear hxy hs hLk hok HMM
            have u1 := t1.alloc (.cells #[.int .i64 x, .int .i64 y] 45)
            have n1 := at_new wo x y 45
            have hP1 := hP.alloc hgl (.cells #[.int .i64 x, .int .i64 y] 45)
            have c1 := u1.1.c0; have c2 := u1.1.c1; have c3 := u1.2.1.c0; have c4 := u1.2.1.c1
            go_wp2_with fail
            refine (HON.out _).mono ?_
            rintro e w2 ⟨rfl, hb2⟩
            have t2 := u1.step hb2
            have n2 := n1.step hb2
            have hP2 := hP1.step (by simp; omega) hb2
            have b2 := below_on (b1.alloc b1.size _) hb2
            have own2 := own_below (hown.alloc _) hb2
            have hgl2 : w6.heap.size < w2.heap.size := by have := hb2.size; simp at this; omega
            clear u1 n1 t1 b1 hown hb2 c1 c2 c3 c4 hP hP1 p1 p2 HON
            cases ho1 : (onP (ax, ay) (bx, by')) (x, y)
            · have HE : Hid (M = S1 ++ tillF (onP (ax, ay) (bx, by')) [(cx, cy), (dx, dy)] (k + 1)) := by
                show _ = _
                rw [HS.out, ho1]; rfl
              have R := Lib.hid (And.intro own2 (And.intro t2 (And.intro hP2 b2)))
              clear own2 t2 b2 n2 hP2
              go_wp2_with fail
              go_roundw
              case rel => exact ⟨k + 1, g, cp, M, by omega, by go_num, rfl, HE, R.out.1, hgs, hgl2, R.out.2.1, R.out.2.2.1, R.out.2.2.2⟩
              case measure => simp [intOf]; omega
            · have HE : Hid (M ++ [(x, y)] = S1 ++ tillF (onP (ax, ay) (bx, by')) [(cx, cy), (dx, dy)] (k + 1)) := by
                show _ = _
                rw [HS.out, ho1]; rfl
              have c5 := n2.c0; have c6 := n2.c1
              have hB := t2.2.2.2.lt
              go_wp2_with (at_builtin; refine wpList_append_lies _ rfl _ _ 34 rfl w4.heap.size 45 i0 (.agg #[.int .i64 0, .int .i64 0]) 2 16 Try.underlying34 hi0 hz0 hz1 hz2 rfl (by decide) _ _ _ rfl (own2.alloc _) ⟨w2.heap.size, 0, none⟩ 1 1 [.int .i64 x, .int .i64 y] rfl rfl ?d1 ?d2 (by omega) ?d3 ?d4 ?d5 (w2.heap.size + 1) (by simp) ?_)
              case d1 => exact World.news_of_block (cs := #[.int .i64 x, .int .i64 y]) (t := 45) (fr := (0, 0)) (heap_alloc_new w2 _)
              case d2 => simp [Value.oneCell']
              case d3 => unfold maxLen; omega
              case d4 => omega
              case d5 => have := (own2.lt g rfl); simp; omega
              intro g5 cp5 w5 own5 hgrow hat _
              have hr := fun k hk => (own2.lt k hk).1
              have hw4 : w.heap.size + 1 + 1 + 1 < w4.heap.size := H4.out
              have hg5 : g5 ≠ w6.heap.size := by
                rcases hat with hat | hat
                · simp [Value.ownBlock] at hat; omega
                · omega
              have HN : Hid ((M ++ [(x, y)]).length = M.length + 1) := by simp [Hid]
              have R : Hid (w5.ownsRow w4.heap.size 45 2 (.slice (some ⟨g5, 0, none⟩) (M ++ [(x, y)]).length cp5) (M ++ [(x, y)]).length (flat (M ++ [(x, y)])) ∧ Four w5 w.heap.size ax ay bx by' cx cy dx dy 45 ∧ Pts w5 (w6.heap.size) [(cx, cy), (dx, dy)] ∧ Below w.heap.size w w5 ∧ w6.heap.size < w5.heap.size) :=
                ⟨by rw [flat_append, HN.out]; exact own5, (t2.alloc _).grown hgrow (fun q hq => by have := hr q hq; omega), (hP2.alloc hgl2 _).grown hgrow (by simp [Value.ownBlock]; omega),
                  (b2.alloc b2.size _).grown hgrow (by have := b2.size; simp; omega) (fun q hq => by have := hr q hq; omega), by have := hgrow.size; simp at this; omega⟩
              clear own2 own5 hgrow t2 b2 n2 c5 c6 hP2
              go_wp2_with fail
              exact ⟨⟨k + 1, g5, cp5, M ++ [(x, y)], by omega, by go_num, by rw [HN.out], HE, R.out.1, hg5, R.out.2.2.2.2, R.out.2.1, R.out.2.2.1, R.out.2.2.2.1⟩, by simp [intOf]; omega⟩
          · have HK := Lib.hid (show k = 2 by omega)
            replace HMM : Hid (M = S1 ++ tillF (onP (ax, ay) (bx, by')) [(cx, cy), (dx, dy)] 2) := by
              show _ = _
              rw [HMM.out, HK.out]
            have HS2 : Hid (sharedS (ax, ay) (bx, by') (cx, cy) (dx, dy) = M) := by
              show _ = _
              rw [HSH.out, HMM.out]
            have hl4 : M.length ≤ 4 := by
              have h1 := tillF_len (onP (ax, ay) (bx, by')) [(cx, cy), (dx, dy)] 2
              rw [HMM.out]
              simp only [List.length_append, List.length_cons, List.length_nil] at *
              omega
            have HRS : Hid (meetI (ax, ay) (bx, by') (cx, cy) (dx, dy) = bif M.isEmpty then 0 else bif sameAll M then 1 else 3) := by
              show _ = _
              rw [HR.out, HS2.out]
            have HPA := Lib.hid (ptsA_of hown)
            clear HMM HSH HS2 hP hgs hgl t1 hown HR
            rcases Nat.eq_zero_or_pos M.length with h0 | h0
            · obtain rfl : M = [] := List.length_eq_zero_iff.1 h0
              clear h0
              go_wp2_with fail
              go_ret
              exact ⟨ret_int HRS.out.symm, b1⟩
            · have e0 : ((M.length : Int) == 0) = false := by rw [beq_eq_false_iff_ne]; omega
              have e0' : ¬ M = [] := fun h => by rw [h] at h0; simp at h0
              have HE : Hid (M.isEmpty = false) := by
                cases M with
                | nil => simp at h0
                | cons p t => rfl
              obtain ⟨x0, hx0⟩ : ∃ x0, x0 = (M[0]).1 := ⟨_, rfl⟩
              obtain ⟨y0, hy0⟩ : ∃ y0, y0 = (M[0]).2 := ⟨_, rfl⟩
              have HS := Lib.hid (same_iff M h0)
              have HX := Lib.hid (And.intro hx0 hy0)
              clear hx0 hy0
              obtain ⟨w7, e7⟩ : ∃ w7 : World, w7 = wo := ⟨_, rfl⟩
              rw [← e7] at b1 HPA ⊢
              clear e7
              go_wp2_with fail
              go_loopw [19, 90] (fun _ i wr => ∃ k : Nat, k ≤ M.length ∧ i = .int .i64 k ∧ Below w7.heap.size w7 wr ∧ Hid (∀ j (hj : j < M.length), j < k → M[j].1 = x0 ∧ M[j].2 = y0)) (fun _ i _ => M.length - (intOf i).toNat)
              case atStart => exact ⟨0, Nat.zero_le _, rfl, Below.refl _ _, fun j hj h => by omega⟩
              case round =>
                obtain ⟨wo, rfl⟩ : ∃ wo : World, wo = wr := ⟨_, rfl⟩
                obtain ⟨k, hk, rfl, hb, HN⟩ := hrel
                by_cases hlt : k < M.length
                · obtain ⟨g1, hg1, q1, q2⟩ := ptsA_on HPA.out hb k hlt
                  obtain ⟨g2, hg2, q3, q4⟩ := ptsA_on HPA.out hb 0 h0
                  simp only [Option.some.injEq, Addr.mk.injEq, and_true] at hg1 hg2
                  subst hg1
                  subst hg2
                  obtain ⟨x, hx⟩ : ∃ x, x = (M[k]).1 := ⟨_, rfl⟩
                  obtain ⟨y, hy⟩ : ∃ y, y = (M[k]).2 := ⟨_, rfl⟩
                  rw [← hx] at q1
                  rw [← hy] at q2
                  rw [← HX.out.1] at q3
                  rw [← HX.out.2] at q4
                  have HXY := Lib.hid (And.intro hx hy)
                  clear hx hy
                  have hal := (Below.refl wo.heap.size wo).alloc (Nat.le_refl _) (.cells #[.int .i64 x, .int .i64 y] 45)
                  have r3 := cell_on hal rfl q3; have r4 := cell_on hal rfl q4
                  have n1 := at_new wo x y 45
                  have s1 := n1.c0; have s2 := n1.c1
                  have b2 := below_on (b1.trans (hb.mono b1.size)) hal
                  have hb2 := below_on hb hal
                  clear hal n1 hb
                  cases he : (x == x0 && y == y0)
                  · have HV : Hid (meetI (ax, ay) (bx, by') (cx, cy) (dx, dy) = 3) := by
                      have hsm : sameAll M = false := by
                        cases hq : sameAll M
                        · rfl
                        · have := HS.out.1 hq k hlt
                          rw [← HXY.out.1, ← HXY.out.2, ← HX.out.1, ← HX.out.2] at this
                          simp [this.1, this.2] at he
                      show _ = _
                      rw [HRS.out, HE.out, hsm]; rfl
                    have R := Lib.hid b2
                    clear b2 hb2 b1
                    go_wp2_with fail
                    go_quiet (fail)
                    go_wp2_with fail
                    go_ret
                    exact ⟨ret_int HV.out.symm, R.out.os, R.out.tape, R.out.output, R.out.size, R.out.block⟩
                  · have HN2 : Hid (∀ j (hj : j < M.length), j < k + 1 → M[j].1 = x0 ∧ M[j].2 = y0) := fun j hj h => by
                      rcases Nat.lt_or_ge j k with h1 | h1
                      · exact HN.out j hj h1
                      · obtain rfl : j = k := by omega
                        rw [← HXY.out.1, ← HXY.out.2]
                        simpa using he
                    have R := Lib.hid hb2
                    clear b2 hb2
                    go_wp2_with fail
                    go_quiet (fail)
                    go_wp2_with fail
                    go_roundw
                    case rel => exact ⟨k + 1, by omega, by go_num, ⟨R.out.os, R.out.tape, R.out.output, R.out.size, R.out.block⟩, HN2⟩
                    case measure => simp [intOf]; omega
                · have HV : Hid (meetI (ax, ay) (bx, by') (cx, cy) (dx, dy) = 1) := by
                    have hsm : sameAll M = true := HS.out.2 fun j hj => by
                      rw [← HX.out.1, ← HX.out.2]
                      exact HN.out j hj (by omega)
                    show _ = _
                    rw [HRS.out, HE.out, hsm]; rfl
                  have R := Lib.hid (b1.trans (hb.mono b1.size))
                  clear b1 hb
                  go_wp2_with fail
                  go_ret
                  exact ⟨ret_int HV.out.symm, R.out⟩
end Go.Proofs.Ythoniopkeiifnaa

/-! Gcd -/
namespace Go.Proofs.Ythoniopkeiifnaa
open Go.RowKit

theorem tmod_nat (m n : Nat) : Int.tmod (m : Int) (n : Int) = ((m % n : Nat) : Int) := by
  rw [Int.tmod_eq_emod_of_nonneg (by omega)]; simp
theorem gcd_round {m n : Nat} (_ : 0 < n) : Nat.gcd n (m % n) = Nat.gcd m n := by
  rw [Nat.gcd_comm m n, Nat.gcd_rec n m, Nat.gcd_comm]
theorem gcdI_any (m n : Nat) (w : World) (hm : m ≤ 1000000) (hn : n ≤ 1000000) :
    Calls Try.prog 197 #[.int .i64 m, .int .i64 n] w fun e w' => e = .returned (.int .i64 (Nat.gcd m n : Nat)) ∧ Below w.heap.size w w' := by
  go_enter Try.func197, Try.ntmps197
  go_wp2_with fail
  go_loopw [0, 1] (fun x y w' => ∃ p q : Nat, x = .int .i64 p ∧ y = .int .i64 q ∧ p ≤ 1000000 ∧ q ≤ 1000000 ∧ Hid (Nat.gcd p q = Nat.gcd m n) ∧ Below w.heap.size w w') (fun _ y _ => (intOf y).toNat)
  case atStart => exact ⟨m, n, rfl, rfl, hm, hn, rfl, Below.refl _ _⟩
  case round =>
    obtain ⟨wo, rfl⟩ : ∃ wo : World, wo = wr := ⟨_, rfl⟩
    obtain ⟨p, q, rfl, rfl, hp, hq, HG, hb⟩ := hrel
    by_cases hlt : 0 < q
    · have HG2 : Hid (Nat.gcd q (p % q) = Nat.gcd m n) := (gcd_round hlt).trans HG.out
      have hlt' := Nat.mod_lt p hlt
      have hle := Nat.mod_le p q
      obtain ⟨r, hr⟩ : ∃ r : Nat, r = p % q := ⟨_, rfl⟩
      have hmod : Int.tmod (p : Int) (q : Int) = (r : Int) := by rw [tmod_nat, hr]
      rw [← hr] at HG2 hlt' hle
      clear hr
      go_wp2_with fail
      go_quiet (fail)
      go_wp2_with fail
      go_roundw
      case rel => exact ⟨q, r, rfl, rfl, by omega, by omega, HG2, ⟨hb.os, hb.tape, hb.output, hb.size, hb.block⟩⟩
      case measure => simp [intOf]; omega
    · obtain rfl : q = 0 := by omega
      go_wp2_with fail
      go_ret
      exact ⟨ret_int (by rw [← HG.out]; simp), hb⟩
theorem ab (a : Int) : ∃ m : Nat, a.natAbs = m ∧ ((0 < a ∧ a = m) ∨ (a = 0 ∧ (m : Int) = 0) ∨ (a < 0 ∧ -a = m)) := ⟨_, rfl, by omega⟩
end Go.Proofs.Ythoniopkeiifnaa

/-! Poly -/
namespace Go.Proofs.Ythoniopkeiifnaa
open Go.RowKit

def gt (L : List (Int × Int)) (i : Nat) : Int × Int := L.getD i (0, 0)
theorem gt_at {L : List (Int × Int)} {i : Nat} (h : i < L.length) : gt L i = L[i] := by simp [gt, h]
/-- Two sides, by their first corners' indexes i < k, meet as those of a polygon. -/
def adjB (n i k : Nat) : Bool := (k == i + 1) || (i == 0 && k == n - 1)
def pairM (L : List (Int × Int)) (i k : Nat) : Int := meetI (gt L i) (gt L ((i + 1) % L.length)) (gt L k) (gt L ((k + 1) % L.length))
def pairOk (L : List (Int × Int)) (i k : Nat) : Bool := bif adjB L.length i k then pairM L i k == 1 else pairM L i k == 0
def nbB (L : List (Int × Int)) : Bool := (List.range L.length).all fun i => !(eqQ (gt L i) (gt L ((i + 1) % L.length)))
def pairsB (L : List (Int × Int)) : Bool := (List.range L.length).all fun i => (List.range L.length).all fun k => decide (k ≤ i) || pairOk L i k
def polyB (L : List (Int × Int)) : Bool := inB L.length 3 10 && allOk L && nbB L && pairsB L
theorem nb_true {L : List (Int × Int)} (h : ∀ j, j < L.length → eqQ (gt L j) (gt L ((j + 1) % L.length)) = false) : nbB L = true := by
  simp only [nbB, List.all_eq_true, List.mem_range]
  intro j hj; rw [h j hj]; rfl
theorem nb_false {L : List (Int × Int)} {j : Nat} (hj : j < L.length) (h : eqQ (gt L j) (gt L ((j + 1) % L.length)) = true) : nbB L = false := by
  cases hb : nbB L
  · rfl
  · simp only [nbB, List.all_eq_true, List.mem_range] at hb
    have := hb j hj
    rw [h] at this; simp at this
theorem pairs_true {L : List (Int × Int)} (h : ∀ i, i < L.length → ∀ k, i < k → k < L.length → pairOk L i k = true) : pairsB L = true := by
  simp only [pairsB, List.all_eq_true, List.mem_range, Bool.or_eq_true, decide_eq_true_eq]
  intro i hi k hk
  rcases Nat.lt_or_ge i k with h1 | h1
  · exact .inr (h i hi k h1 hk)
  · exact .inl h1
theorem pairs_false {L : List (Int × Int)} {i k : Nat} (hi : i < k) (hk : k < L.length) (h : pairOk L i k = false) : pairsB L = false := by
  cases hb : pairsB L
  · rfl
  · simp only [pairsB, List.all_eq_true, List.mem_range, Bool.or_eq_true, decide_eq_true_eq] at hb
    rcases hb i (by omega) k hk with h1 | h1
    · omega
    · rw [h] at h1; cases h1
theorem all_at {L : List (Int × Int)} (h : allOk L = true) {i : Nat} (hi : i < L.length) : okP (gt L i).1 (gt L i).2 = true := by
  rw [gt_at hi]
  simp only [allOk, List.all_eq_true] at h
  exact h _ (List.getElem_mem hi)
theorem gt_cells {w : World} {g : Nat} {L : List (Int × Int)} (h : PtsA w (some ⟨g, 0, none⟩) L) {i : Nat} (hi : i < L.length) : w.cell? ⟨g, i * 2, none⟩ = some (.int .i64 (gt L i).1) ∧ w.cell? ⟨g, i * 2 + 1, none⟩ = some (.int .i64 (gt L i).2) := by
  obtain ⟨g', hg, h1, h2⟩ := h i hi
  simp only [Option.some.injEq, Addr.mk.injEq, and_true] at hg
  subst hg
  rw [gt_at hi]
  exact ⟨h1, h2⟩
theorem next_int {i n : Nat} (hn : 0 < n) : Int.tmod ((i : Int) + 1) (n : Int) = (((i + 1) % n : Nat) : Int) ∧ (i + 1) % n < n := by
  refine ⟨?_, Nat.mod_lt _ hn⟩
  have : (i : Int) + 1 = ((i + 1 : Nat) : Int) := by omega
  rw [this, tmod_nat]

set_option maxHeartbeats 8000000 in
set_option maxRecDepth 100000 in
theorem spec_poly (A : Option Addr) (c : Nat) (L : List (Int × Int)) (w : World) (hA : PtsA w A L) (hL : L.length ≤ 1048576) :
    Calls Try.prog 133 #[.slice A L.length c] w fun e w' => e = .returned (.bool (polyB L)) ∧ Below w.heap.size w w' := by
  have GP := guard_pt
  have EP := fun w x y x' y' => eql_pt w x y x' y'
  have HV : Hid (polyB L = (inB L.length 3 10 && allOk L && nbB L && pairsB L)) := rfl
  cases hin : inB (L.length : Int) 3 10
  · clear hA
    go_enter Try.func133, Try.ntmps133
    go_wp2_with fail
    refine (in_any _ _ _ _).mono ?_
    rintro e w1 ⟨rfl, rfl⟩
    go_wp2_with fail
    go_ret
    exact ⟨ret_bool (by rw [HV.out, hin]; rfl), Below.refl _ _⟩
  have hn := inB_spec.1 hin
  have h0 : 0 < L.length := by omega
  obtain ⟨g, rfl, -⟩ := hA 0 h0
  have HA := Lib.hid hA; clear hA
  go_enter Try.func133, Try.ntmps133
  go_wp2_with fail
  refine (in_any _ _ _ _).mono ?_
  rintro e w1 ⟨rfl, rfl⟩
  go_wp2_with fail
  go_loopw [4, 16] (fun _ i wr => ∃ k : Nat, k ≤ L.length ∧ i = .int .i64 k ∧ Hid (allOk L = allOk (L.drop k)) ∧ Below w1.heap.size w1 wr) (fun _ i _ => L.length - (intOf i).toNat)
  case atStart => exact ⟨0, Nat.zero_le _, rfl, rfl, Below.refl _ _⟩
  case round =>
    obtain ⟨wo, rfl⟩ : ∃ wo : World, wo = wr := ⟨_, rfl⟩
    obtain ⟨k, hk, rfl, HK, hb⟩ := hrel
    by_cases hlt : k < L.length
    · obtain ⟨c1, c2⟩ := gt_cells (ptsA_on HA.out hb) hlt
      have hd : L.drop k = L[k] :: L.drop (k + 1) := List.drop_eq_getElem_cons hlt
      have HK2 : Hid (allOk L = (okP (gt L k).1 (gt L k).2 && allOk (L.drop (k + 1)))) := by
        show _ = _
        rw [HK.out, hd, gt_at hlt]; rfl
      generalize (gt L k).1 = x at *
      generalize (gt L k).2 = y at *
      clear hd HK
      go_wp2_with fail
      refine (spec_ok _ _ _).mono ?_
      rintro e w2 ⟨rfl, hb2⟩
      have b2 := below_on (hb.alloc hb.size _) hb2
      clear hb hb2 c1 c2
      cases hok : okP x y
      · rw [hok] at HK2
        go_wp2_with fail
        go_ret
        exact ⟨ret_bool (by rw [HV.out, HK2.out, Bool.false_and, Bool.and_false, Bool.false_and, Bool.false_and]), b2⟩
      · rw [hok] at HK2
        go_wp2_with fail
        go_roundw
        case rel => exact ⟨k + 1, by omega, by go_num, HK2, b2⟩
        case measure => simp [intOf]; omega
    · have HAK : Hid (allOk L = true) := by
        show _ = _
        rw [HK.out, List.drop_of_length_le (by omega)]; rfl
      clear HK
      have b1 := hb
      clear hb
      obtain ⟨w2, e2⟩ : ∃ w2 : World, w2 = wo := ⟨_, rfl⟩
      rw [← e2] at b1 ⊢
      clear e2 wo
      have HA2 := Lib.hid (ptsA_on HA.out b1)
      go_wp2_with fail
      clear hlt hk
      go_loopw [6, 28] (fun _ i wr => ∃ k : Nat, k ≤ L.length ∧ i = .int .i64 k ∧ Hid (∀ j, j < L.length → j < k → eqQ (gt L j) (gt L ((j + 1) % L.length)) = false) ∧ Below w2.heap.size w2 wr) (fun _ i _ => L.length - (intOf i).toNat)
      case atStart => exact ⟨0, Nat.zero_le _, rfl, fun j _ h => by omega, Below.refl _ _⟩
      case round =>
        obtain ⟨wo, rfl⟩ : ∃ wo : World, wo = wr := ⟨_, rfl⟩
        obtain ⟨k, hk, rfl, HN, hb⟩ := hrel
        by_cases hlt : k < L.length
        · obtain ⟨hr, hrl⟩ := next_int (i := k) h0
          have hap := ptsA_on HA2.out hb
          obtain ⟨c1, c2⟩ := gt_cells hap hlt
          obtain ⟨c3, c4⟩ := gt_cells hap hrl
          clear hap
          have HE : Hid (eqQ (gt L k) (gt L ((k + 1) % L.length)) = ((gt L k).1 == (gt L ((k + 1) % L.length)).1 && (gt L k).2 == (gt L ((k + 1) % L.length)).2)) := rfl
          have hf1 : IntKind.i64.wrap ((k : Int) + 1) = (k : Int) + 1 := IntWalk.i64_in _ (by omega)
          obtain ⟨r, er⟩ : ∃ r, r = (k + 1) % L.length := ⟨_, rfl⟩
          have HR := Lib.hid er
          rw [← er] at hr hrl c3 c4 HE
          clear er
          have hf2 : IntKind.i64.wrap (r : Int) = (r : Int) := IntWalk.i64_in _ (by omega)
          have hne : ¬ L.length = 0 := by omega
          have hp1 : (r : Int) < (L.length : Int) := by omega
          have hp2 : (0 : Int) ≤ (r : Int) := by omega
          generalize (gt L k).1 = x at *
          generalize (gt L k).2 = y at *
          generalize (gt L r).1 = x' at *
          generalize (gt L r).2 = y' at *
          cases he : (x == x' && y == y')
          · have HN2 : Hid (∀ j, j < L.length → j < k + 1 → eqQ (gt L j) (gt L ((j + 1) % L.length)) = false) := fun j hj h => by
              rcases Nat.lt_or_ge j k with h1 | h1
              · exact HN.out j hj h1
              · obtain rfl : j = k := by omega
                rw [← HR.out, HE.out, he]
            go_wp2_with fail
            go_quiet (fail)
            go_wp2_with fail
            go_roundw
            case rel => exact ⟨k + 1, by omega, by go_num, HN2, ⟨hb.os, hb.tape, hb.output, hb.size, hb.block⟩⟩
            case measure => simp [intOf]; omega
          · have HF : Hid (nbB L = false) := nb_false hlt (by rw [← HR.out, HE.out, he])
            go_wp2_with fail
            go_quiet (fail)
            go_wp2_with fail
            go_ret
            have b3 := below_on b1 hb
            exact ⟨ret_bool (by rw [HV.out, HF.out, Bool.and_false, Bool.false_and]), b3.os, b3.tape, b3.output, b3.size, b3.block⟩
        · have HNB : Hid (nbB L = true) := nb_true fun j hj => HN.out j hj (by omega)
          have b3 := below_on b1 hb
          obtain ⟨w3, e3⟩ : ∃ w3 : World, w3 = wo := ⟨_, rfl⟩
          have HA3 := Lib.hid (ptsA_on HA2.out hb)
          rw [← e3] at b3 HA3 ⊢
          clear e3 hb HN b1
          go_wp2_with fail
          clear hlt hk
          go_loopw [7, 8, 9, 46] (fun _ _ _ i wr => ∃ k : Nat, k ≤ L.length ∧ i = .int .i64 k ∧ Hid (∀ i, i < k → ∀ m, i < m → m < L.length → pairOk L i m = true) ∧ Below w3.heap.size w3 wr) (fun _ _ _ i _ => L.length - (intOf i).toNat)
          case atStart => exact ⟨0, Nat.zero_le _, rfl, fun j h => by omega, Below.refl _ _⟩
          case round =>
            obtain ⟨wo, rfl⟩ : ∃ wo : World, wo = wr := ⟨_, rfl⟩
            obtain ⟨k, hk, rfl, HN, hb⟩ := hrel
            by_cases hlt : k < L.length
            · have hf1 : IntKind.i64.wrap ((k : Int) + 1) = (k : Int) + 1 := IntWalk.i64_in _ (by omega)
              go_wp2_with fail
              go_loopw [8, 9] (fun m _ wr => ∃ q : Nat, k + 1 ≤ q ∧ q ≤ L.length ∧ m = .int .i64 q ∧ Hid (∀ m, k < m → m < q → pairOk L k m = true) ∧ Below w3.heap.size w3 wr) (fun m _ _ => L.length - (intOf m).toNat)
              case atStart => exact ⟨k + 1, Nat.le_refl _, by omega, by go_num, fun m h1 h2 => by omega, hb⟩
              case round =>
                obtain ⟨wi, rfl⟩ : ∃ wi : World, wi = wr := ⟨_, rfl⟩
                clear hb
                obtain ⟨q, hkq, hq, rfl, HM, hb⟩ := hrel
                by_cases hlq : q < L.length
                · obtain ⟨hr, hrl⟩ := next_int (i := k) h0
                  obtain ⟨hs, hsl⟩ := next_int (i := q) h0
                  have hap := ptsA_on HA3.out hb
                  obtain ⟨c1, c2⟩ := gt_cells hap hlt
                  obtain ⟨c3, c4⟩ := gt_cells hap hrl
                  obtain ⟨c5, c6⟩ := gt_cells hap hlq
                  obtain ⟨c7, c8⟩ := gt_cells hap hsl
                  have HCM := Lib.hid (fun w => meet_any _ _ _ _ _ _ _ _ w (all_at HAK.out hlt) (all_at HAK.out hrl) (all_at HAK.out hlq) (all_at HAK.out hsl))
                  have HPM : Hid (pairM L k q = meetI ((gt L k).1, (gt L k).2) ((gt L ((k + 1) % L.length)).1, (gt L ((k + 1) % L.length)).2) ((gt L q).1, (gt L q).2) ((gt L ((q + 1) % L.length)).1, (gt L ((q + 1) % L.length)).2)) := rfl
                  clear hap
                  generalize (k + 1) % L.length = r at *
                  generalize (q + 1) % L.length = t at *
                  generalize (gt L k).1 = x1 at *
                  generalize (gt L k).2 = y1 at *
                  generalize (gt L r).1 = x2 at *
                  generalize (gt L r).2 = y2 at *
                  generalize (gt L q).1 = x3 at *
                  generalize (gt L q).2 = y3 at *
                  generalize (gt L t).1 = x4 at *
                  generalize (gt L t).2 = y4 at *
                  have hf2 : IntKind.i64.wrap (r : Int) = (r : Int) := IntWalk.i64_in _ (by omega)
                  have hf3 : IntKind.i64.wrap ((q : Int) + 1) = (q : Int) + 1 := IntWalk.i64_in _ (by omega)
                  have hf4 : IntKind.i64.wrap (t : Int) = (t : Int) := IntWalk.i64_in _ (by omega)
                  have hne : ¬ L.length = 0 := by omega
                  have hp1 : (r : Int) < (L.length : Int) := by omega
                  have hp2 : (0 : Int) ≤ (r : Int) := by omega
                  have hp3 : (t : Int) < (L.length : Int) := by omega
                  have hp4 : (0 : Int) ≤ (t : Int) := by omega
                  have k1 := cell_regrown c1; have k2 := cell_regrown c2; have k3 := cell_regrown c3; have k4 := cell_regrown c4; have k5 := cell_regrown c5; have k6 := cell_regrown c6; have k7 := cell_regrown c7; have k8 := cell_regrown c8
                  go_wp2_with fail
                  refine wp_region_quiet_below (by kernel_rfl) (by kernel_rfl) ?_
                  repeat (first
                    | go_big_quiet_step (first | exact Calls.regrown_of (HCM.out _))
                    | quiet_step (first | exact Calls.regrown_of (HCM.out _)))
                  refine wpQuiet_nil ?_
                  rintro _ ⟨⟨dq, osq⟩, rfl⟩
                  have hb2 := below_on hb (below_regrown _ dq osq)
                  clear k1 k2 k3 k4 k5 k6 k7 k8 c1 c2 c3 c4 c5 c6 c7 c8 hb
                  simp only at *
                  generalize Go.Sort.grow (redrawn wi dq) osq = w5 at *
                  clear hr hs hf2 hf4 hp1 hp2 hp3 hp4 HCM
                  generalize meetI (x1, y1) (x2, y2) (x3, y3) (x4, y4) = M at *
                  have HAD : Hid (pairOk L k q = bif adjB L.length k q then pairM L k q == 1 else pairM L k q == 0) := rfl
                  have hw1 : wrap64 ((L.length : Int) - 1) = (L.length : Int) - 1 := IntWalk.wrap64_in _ (by omega)
                  have hw2 : IntKind.i64.wrap ((L.length : Int) - 1) = (L.length : Int) - 1 := IntWalk.i64_in _ (by omega)
                  by_cases h1 : q = k + 1
                  · have e1 : ((q : Int) == (k : Int) + 1) = true := by rw [beq_iff_eq]; omega
                    have e1' : ((k + 1 : Nat) : Int) = (k : Int) + 1 := by omega
                    have HJ : Hid (adjB L.length k q = true) := by
                      show _ = _
                      simp [adjB, h1]
                    clear h1
                    cases hM : (M == 1)
                    · have HF : Hid (pairsB L = false) := pairs_false (i := k) (k := q) (by omega) hlq (by rw [HAD.out, HJ.out, HPM.out]; exact hM)
                      have hM' : (M != 1) = true := by simp [bne, hM]
                      go_wp2_with fail
                      go_ret
                      exact ⟨ret_bool (by rw [HV.out, HF.out, Bool.and_false]), below_on b3 hb2⟩
                    · have HM2 : Hid (∀ m, k < m → m < q + 1 → pairOk L k m = true) := fun m h1 h2 => by
                        rcases Nat.lt_or_ge m q with h3 | h3
                        · exact HM.out m h1 h3
                        · obtain rfl : m = q := by omega
                          rw [HAD.out, HJ.out, HPM.out]; exact hM
                      have hM' : (M != 1) = false := by simp [bne, hM]
                      go_wp2_with fail
                      go_roundw
                      case rel => exact ⟨q + 1, by omega, by omega, by go_num, HM2, hb2⟩
                      case measure => simp [intOf]; omega
                  · have e1 : ((q : Int) == (k : Int) + 1) = false := by rw [beq_eq_false_iff_ne]; omega
                    by_cases h2 : k = 0
                    · have e2 : ((k : Int) == 0) = true := by rw [beq_iff_eq]; omega
                      by_cases h3 : q = L.length - 1
                      · have e3 : ((q : Int) == (L.length : Int) - 1) = true := by rw [beq_iff_eq]; omega
                        have HJ : Hid (adjB L.length k q = true) := by
                          show _ = _
                          simp [adjB, h2, h3]
                        clear h3 h2
                        cases hM : (M == 1)
                        · have HF : Hid (pairsB L = false) := pairs_false (i := k) (k := q) (by omega) hlq (by rw [HAD.out, HJ.out, HPM.out]; exact hM)
                          have hM' : (M != 1) = true := by simp [bne, hM]
                          go_wp2_with fail
                          go_ret
                          exact ⟨ret_bool (by rw [HV.out, HF.out, Bool.and_false]), below_on b3 hb2⟩
                        · have HM2 : Hid (∀ m, k < m → m < q + 1 → pairOk L k m = true) := fun m h1 h2 => by
                            rcases Nat.lt_or_ge m q with h3 | h3
                            · exact HM.out m h1 h3
                            · obtain rfl : m = q := by omega
                              rw [HAD.out, HJ.out, HPM.out]; exact hM
                          have hM' : (M != 1) = false := by simp [bne, hM]
                          go_wp2_with fail
                          go_roundw
                          case rel => exact ⟨q + 1, by omega, by omega, by go_num, HM2, hb2⟩
                          case measure => simp [intOf]; omega
                      · have e3 : ((q : Int) == (L.length : Int) - 1) = false := by rw [beq_eq_false_iff_ne]; omega
                        have HJ : Hid (adjB L.length k q = false) := by
                          show _ = _
                          simp [adjB, h3]; omega
                        clear h2
                        cases hM : (M == 0)
                        · have HF : Hid (pairsB L = false) := pairs_false (i := k) (k := q) (by omega) hlq (by rw [HAD.out, HJ.out, HPM.out]; exact hM)
                          have hM' : (M != 0) = true := by simp [bne, hM]
                          go_wp2_with fail
                          go_ret
                          exact ⟨ret_bool (by rw [HV.out, HF.out, Bool.and_false]), below_on b3 hb2⟩
                        · have HM2 : Hid (∀ m, k < m → m < q + 1 → pairOk L k m = true) := fun m h1 h2 => by
                            rcases Nat.lt_or_ge m q with h3 | h3
                            · exact HM.out m h1 h3
                            · obtain rfl : m = q := by omega
                              rw [HAD.out, HJ.out, HPM.out]; exact hM
                          have hM' : (M != 0) = false := by simp [bne, hM]
                          go_wp2_with fail
                          go_roundw
                          case rel => exact ⟨q + 1, by omega, by omega, by go_num, HM2, hb2⟩
                          case measure => simp [intOf]; omega
                    · have e2 : ((k : Int) == 0) = false := by rw [beq_eq_false_iff_ne]; omega
                      have HJ : Hid (adjB L.length k q = false) := by
                        show _ = _
                        simp [adjB, h2]; omega
                      cases hM : (M == 0)
                      · have HF : Hid (pairsB L = false) := pairs_false (i := k) (k := q) (by omega) hlq (by rw [HAD.out, HJ.out, HPM.out]; exact hM)
                        have hM' : (M != 0) = true := by simp [bne, hM]
                        go_wp2_with fail
                        go_ret
                        exact ⟨ret_bool (by rw [HV.out, HF.out, Bool.and_false]), below_on b3 hb2⟩
                      · have HM2 : Hid (∀ m, k < m → m < q + 1 → pairOk L k m = true) := fun m h1 h2 => by
                          rcases Nat.lt_or_ge m q with h3 | h3
                          · exact HM.out m h1 h3
                          · obtain rfl : m = q := by omega
                            rw [HAD.out, HJ.out, HPM.out]; exact hM
                        have hM' : (M != 0) = false := by simp [bne, hM]
                        go_wp2_with fail
                        go_roundw
                        case rel => exact ⟨q + 1, by omega, by omega, by go_num, HM2, hb2⟩
                        case measure => simp [intOf]; omega
                · have HN2 : Hid (∀ i, i < k + 1 → ∀ m, i < m → m < L.length → pairOk L i m = true) := fun i hi m h1 h2 => by
                    rcases Nat.lt_or_ge i k with h3 | h3
                    · exact HN.out i h3 m h1 h2
                    · obtain rfl : i = k := by omega
                      exact HM.out m h1 (by omega)
                  go_wp2_with fail
                  go_roundw
                  case rel => exact ⟨k + 1, by omega, by go_num, HN2, hb⟩
                  case measure => simp [intOf]; omega
            · have HPB : Hid (pairsB L = true) := pairs_true fun i hi m h1 h2 => HN.out i (by omega) m h1 h2
              have b4 := below_on b3 hb
              clear hb b3
              go_wp2_with fail
              go_ret
              exact ⟨ret_bool (by rw [HV.out, hin, HAK.out, HNB.out, HPB.out]; rfl), b4⟩
end Go.Proofs.Ythoniopkeiifnaa

/-! Square -/
namespace Go.Proofs.Ythoniopkeiifnaa
open Go.RowKit

def squareI (ax ay bx by' : Int) : Int := (ax - bx) * (ax - bx) + (ay - by') * (ay - by')
def squareV (ax ay bx by' : Int) : Int := bif okP ax ay && okP bx by' then squareI ax ay bx by' else -1
theorem squareI_flip (ax ay bx by' : Int) : squareI bx by' ax ay = squareI ax ay bx by' := by
  unfold squareI
  rw [← Int.neg_mul_neg (bx - ax), ← Int.neg_mul_neg (by' - ay), Int.neg_sub, Int.neg_sub]
theorem square_wrap {ax ay bx by' : Int} (ha : okP ax ay = true) (hb : okP bx by' = true) :
    wrap64 (wrap64 (wrap64 (ax - bx) * wrap64 (ax - bx)) + wrap64 (wrap64 (ay - by') * wrap64 (ay - by'))) = squareI ax ay bx by' := by
  have := okP_bounds ha; have := okP_bounds hb
  rw [wrap_id (x := ax - bx) (by omega), wrap_id (x := ay - by') (by omega)]
  have h1 := abs_mul (x := ax - bx) (y := ax - bx) (m := 40) (n := 40) (by omega) (by omega)
  have h2 := abs_mul (x := ay - by') (y := ay - by') (m := 40) (n := 40) (by omega) (by omega)
  rw [wrap_id (x := (ax - bx) * (ax - bx)) (by omega), wrap_id (x := (ay - by') * (ay - by')) (by omega)]
  unfold squareI
  generalize (ax - bx) * (ax - bx) = u at *
  generalize (ay - by') * (ay - by') = v at *
  exact wrap_id (by omega)
theorem impl_square (ax ay bx by' : Int) (w : World) :
    Calls Try.prog 64 #[(.agg #[.int .i64 ax, .int .i64 ay]), (.agg #[.int .i64 bx, .int .i64 by'])] w fun e w' => e = .returned (.int .i64 (squareV ax ay bx by')) ∧ Below w.heap.size w w' := by
  have HP := Lib.hid (pts2 w ax ay bx by')
  go_enter Try.func64, Try.ntmps64
  go_wp2_with fail
  refine (all_any _ _ [(ax, ay), (bx, by')] _ HP.out (by simp) (by simp)).mono ?_
  rintro e w1 ⟨rfl, hb1⟩
  have t1 := ((two0 w ax ay bx by' 45).alloc _).step hb1
  have b1 := below_on (below3 w _ _ _) hb1
  clear hb1 HP
  have HO := Lib.hid (all2 ax ay bx by')
  cases hok : allOk [(ax, ay), (bx, by')]
  · go_wp2_with fail
    go_ret
    exact ⟨ret_int (by rw [squareV, ← HO.out, hok]; rfl), b1⟩
  have hok2 := HO.out.symm
  rw [hok] at hok2
  simp only [Bool.and_eq_true] at hok2
  obtain ⟨ha, hb⟩ := hok2
  have c1 := t1.1.c0; have c2 := t1.1.c1; have c3 := t1.2.c0; have c4 := t1.2.c1
  go_wp2_with fail
  refine (minus_any _ _ _ _ _).mono ?_
  rintro e w2 ⟨rfl, hb2⟩
  have b2 := below_on b1 hb2
  clear hb2 t1 b1 c1 c2 c3 c4
  go_wp2_with fail
  go_ret
  exact ⟨ret_int (by rw [square_wrap hb ha, squareI_flip]; simp [squareV, ha, hb]), b2.alloc b2.size _⟩
end Go.Proofs.Ythoniopkeiifnaa

/-! Steps -/
namespace Go.Proofs.Ythoniopkeiifnaa
open Go.RowKit

theorem gcd_le {dx dy : Int} (hx : dx.natAbs ≤ 40) (hy : dy.natAbs ≤ 40) : Nat.gcd dx.natAbs dy.natAbs ≤ 40 := by
  rcases Nat.eq_zero_or_pos dx.natAbs with h | h
  · rw [h, Nat.gcd_zero_left]; exact hy
  · exact Nat.le_trans (Nat.gcd_le_left _ h) hx
def stepsN (ax ay bx by' : Int) : Nat := Nat.gcd (bx - ax).natAbs (by' - ay).natAbs
def stepsV (ax ay bx by' : Int) : Int := bif okP ax ay && okP bx by' then (stepsN ax ay bx by' : Int) else -1
theorem impl_steps (ax ay bx by' : Int) (w : World) :
    Calls Try.prog 176 #[(.agg #[.int .i64 ax, .int .i64 ay]), (.agg #[.int .i64 bx, .int .i64 by'])] w fun e w' => e = .returned (.int .i64 (stepsV ax ay bx by')) ∧ Below w.heap.size w w' := by
  have HP := Lib.hid (pts2 w ax ay bx by')
  go_enter Try.func176, Try.ntmps176
  go_wp2_with fail
  refine (all_any _ _ [(ax, ay), (bx, by')] _ HP.out (by simp) (by simp)).mono ?_
  rintro e w1 ⟨rfl, hb1⟩
  have t1 := ((two0 w ax ay bx by' 45).alloc _).step hb1
  have b1 := below_on (below3 w _ _ _) hb1
  clear hb1 HP
  have HO := Lib.hid (all2 ax ay bx by')
  cases hok : allOk [(ax, ay), (bx, by')]
  · go_wp2_with fail
    go_ret
    exact ⟨ret_int (by rw [stepsV, ← HO.out, hok]; rfl), b1⟩
  have hok2 := HO.out.symm
  rw [hok] at hok2
  simp only [Bool.and_eq_true] at hok2
  obtain ⟨ha, hb⟩ := hok2
  have c1 := t1.1.c0; have c2 := t1.1.c1; have c3 := t1.2.c0; have c4 := t1.2.c1
  go_wp2_with fail
  refine (minus_any _ _ _ _ _).mono ?_
  rintro e w2 ⟨rfl, hb2⟩
  have b2 := below_on b1 hb2
  clear hb2 t1 b1 c1 c2 c3 c4
  have h1 := okP_bounds ha; have h2 := okP_bounds hb
  rw [wrap_id (x := bx - ax) (by omega), wrap_id (x := by' - ay) (by omega)]
  obtain ⟨m, em, hm⟩ := ab (bx - ax)
  obtain ⟨n, en, hn⟩ := ab (by' - ay)
  have HN : Hid (stepsV ax ay bx by' = (Nat.gcd m n : Nat)) := by rw [← em, ← en]; show _ = _; rw [stepsV, ha, hb]; rfl
  have hm1 : m ≤ 1000000 := by omega
  have hn1 : n ≤ 1000000 := by omega
  have hdx : -100 ≤ bx - ax ∧ bx - ax ≤ 100 := by omega
  have hdy : -100 ≤ by' - ay ∧ by' - ay ≤ 100 := by omega
  obtain ⟨dx, hdx0⟩ : ∃ d, d = bx - ax := ⟨_, rfl⟩
  obtain ⟨dy, hdy0⟩ : ∃ d, d = by' - ay := ⟨_, rfl⟩
  rw [← hdx0] at hm hdx ⊢
  rw [← hdy0] at hn hdy ⊢
  clear ha hb h1 h2 em en hok HO hdx0 hdy0
  have HG := Lib.hid (fun w => gcdI_any m n w hm1 hn1)
  rcases hm with ⟨hm, hm'⟩ | ⟨rfl, hm'⟩ | ⟨hm, hm'⟩ <;> rcases hn with ⟨hn, hn'⟩ | ⟨rfl, hn'⟩ | ⟨hn, hn'⟩
  all_goals (
    go_wp2_with fail
    refine (show Calls _ _ _ _ _ from by
      have := HG.out
      try simp only [hm', hn'] at this
      exact this _).mono ?_
    rintro e w3 ⟨rfl, hb3⟩
    have b3 := below_on (b2.alloc b2.size _) hb3
    clear hb3
    go_wp2_with fail
    go_ret
    exact ⟨ret_int HN.out.symm, b3⟩)
end Go.Proofs.Ythoniopkeiifnaa

/-! Area -/
namespace Go.Proofs.Ythoniopkeiifnaa
open Go.RowKit

/-- The sum of the first k terms. -/
def sumT (f : Nat → Int) : Nat → Int
  | 0 => 0
  | k + 1 => sumT f k + f k
theorem sumT_abs {f : Nat → Int} {m : Nat} (n : Nat) (h : ∀ i, i < n → (f i).natAbs ≤ m) : ∀ k, k ≤ n → (sumT f k).natAbs ≤ k * m
  | 0, _ => by simp [sumT]
  | k + 1, hk => by
    have h1 := sumT_abs n h k (by omega)
    have h2 := h k (by omega)
    simp only [sumT]
    have e : (k + 1) * m = k * m + m := Nat.succ_mul k m
    rw [e]
    generalize k * m = a at *
    omega
def nx (L : List (Int × Int)) (i : Nat) : Nat := (i + 1) % L.length
def twiceT (L : List (Int × Int)) (i : Nat) : Int := (gt L i).1 * (gt L (nx L i)).2 - (gt L i).2 * (gt L (nx L i)).1
def twiceI (L : List (Int × Int)) : Int := sumT (twiceT L) L.length
def rimT (L : List (Int × Int)) (i : Nat) : Int := (stepsN (gt L i).1 (gt L i).2 (gt L (nx L i)).1 (gt L (nx L i)).2 : Int)
def rimI (L : List (Int × Int)) : Int := sumT (rimT L) L.length
theorem polyB_all {L : List (Int × Int)} (h : polyB L = true) : 3 ≤ L.length ∧ L.length ≤ 10 ∧ allOk L = true := by
  simp only [polyB, Bool.and_eq_true, inB_spec] at h
  exact ⟨by omega, by omega, h.1.1.2⟩
end Go.Proofs.Ythoniopkeiifnaa

/-! Round -/
namespace Go.Proofs.Ythoniopkeiifnaa
open Go.Sort Go.RowKit

/-- A fence that lets everything by. -/
structure IsWide (F : Fence) : Prop where
  fn : ∀ f, F.fn f
  depth : F.depth = none
  calls : ∀ {n : Nat} {P : Program} {f : FuncId} {args : Array Value} {w : World} {R : Ending → World → Prop}, Calls P f args w R → CallsIn F n P f args w R
theorem wide0 : IsWide Fence.wide := ⟨fun _ => trivial, rfl, fun h => callsIn_wide.2 h⟩
theorem wideR (l : Nat) : IsWide (Fence.wide.inRound l) := ⟨fun _ => trivial, rfl, fun h => CallsIn.inRound l (callsIn_wide.2 h)⟩

def noDeferB (ops : Array Oper) : Bool := ops.all fun o => match o.op with
  | .defer _ => false
  | _ => true
theorem noDefer_at {ops : Array Oper} (h : noDeferB ops = true) {i : Nat} {o : Oper} (ho : ops[i]? = some o) : ∀ c, o.op ≠ .defer c := by
  intro c hc
  have h1 := Array.all_eq_true'.1 h o (Array.mem_of_getElem? ho)
  rw [hc] at h1
  cases h1
theorem semAt_any {ro : Option Nat} {o : Oper} (h : ∀ c, o.op ≠ .defer c) (ρ : Operand → Value) : o.semAt ro ρ = execOp ρ o := by
  cases ro with
  | none => exact Oper.semAt_none _ _
  | some l => exact Oper.semAt_some _ _ _ h

section
variable {F : Fence} {n : Nat} {P : Program} {ops : Array Oper} {md : Region.Mode} {C : World → Prop}

theorem wpOpIn_of_qOp {i : Nat} {a : Act} {K : Act → Prop} {K' : Act → World → Prop} {Q' : Exit → Act → World → Prop} {w : World} (hF : IsWide F) (hd : noDeferB ops = true) (hC : C w)
    (h : ∀ a w', C w' → K a → K' a w') (hh : qOp P ops C i K a) : wpOpIn F n P ops Q' i K' a w := by
  unfold qOp at hh
  unfold wpOpIn
  split
  · rename_i ho
    simp only [ho] at hh
    exact h _ _ hC hh
  · rename_i o ho
    simp only [ho] at hh
    split
    · rename_i hw
      simp only [hw, if_true] at hh
      obtain ⟨v, h1, h2⟩ := hh
      have h3 := h1 w hC
      refine ⟨fun f _ => hF.fn f, ?_⟩
      rw [semAt_any (noDefer_at hd ho)]
      unfold Oper.quietAt at h3
      generalize (execOp a.eval o).run P w = r at *
      cases r with
      | ok nx w' =>
        cases nx <;> simp only [Oper.quietUpon] at h3 <;> simp only [Oper.uponIn]
        case value u =>
          obtain ⟨rfl, rfl⟩ := h3
          exact h _ _ hC h2
        case skip =>
          obtain ⟨rfl, rfl⟩ := h3
          exact h _ _ hC h2
        case enter f args =>
          obtain ⟨rfl, hc⟩ := h3
          refine ⟨fun e => (by rw [hF.depth] at e; cases e), (hF.calls hc).mono ?_⟩
          rintro e w'' ⟨rfl, hw''⟩
          exact h _ _ hw'' h2
      | halt x w' => simp only [Oper.quietUpon] at h3
    · rename_i hw
      simp only [hw] at hh
      exact ⟨fun f _ => hF.fn f, h _ _ hC hh⟩

/-! ### The whole region quiet -/
theorem wpAnyIn_of_quietP {Q : Act → Prop} {Q' : Exit → Act → World → Prop} (hF : IsWide F) (hd : noDeferB ops = true) (hQ : ∀ a w, C w → Q a → Q' .normal a w) : ∀ (fuel : Nat) (listed : Array Bool) (a : Act) (w : World), C w →
    wpAnyQ P md ops C Q fuel listed a → wpAnyIn F n P md ops Q' fuel listed a w
  | 0, _, _, _, hw, h => ⟨h.1, hQ _ _ hw h.2⟩
  | fuel + 1, _, _, _, hw, h => ⟨fun h0 => hQ _ _ hw (h.1 h0), fun i hi => wpOpIn_of_qOp hF hd hw (fun a' w' hw' => wpAnyIn_of_quietP hF hd hQ fuel _ a' w' hw') (h.2 i hi)⟩

theorem region_quiet_in {id : Nat} {Q : Exit → Act → World → Prop} {a : Act} {w : World} {l : List Oper} (hF : IsWide F) (hd : noDeferB l.toArray = true) (hm : P.follows .mixedOrders = true) (hB : Region.lexB .any l.toArray = true)
    (h : wpQuiet P l.toArray (fun w' => ∃ p : Regrown, w' = grow (redrawn w p.d) p.os) (fun a' => ∀ w', (∃ p : Regrown, w' = grow (redrawn w p.d) p.os) → Q .normal a' w') l a) : (Code.region id l.toArray true).wpIn F n P Q a w := by
  simp only [Region.lexB, Bool.and_eq_true] at hB
  have hC : ∃ p : Regrown, ({ w with drawn := w.drawn + 1 } : World) = grow (redrawn w p.d) p.os := ⟨⟨w.drawn + 1, #[]⟩, by rw [grow_empty]; rfl⟩
  refine wpIn_region_any hm (wpAnyIn_of_quietP (Q := fun a' => ∀ w', (∃ p : Regrown, w' = grow (redrawn w p.d) p.os) → Q .normal a' w') hF hd (fun _ w' hw' h => h w' hw') _ _ _ _ hC ?_)
  have := wpAnyQ_lex (P := P) (C := fun w' => ∃ p : Regrown, w' = grow (redrawn w p.d) p.os) (md := .any) hB.1 l 0 (Array.replicate l.toArray.size false) a (by simp) (by simpa using hB.2) h
  simpa using this

/-! ### A quiet head, then a tail -/
def wpAnyQL (P : Program) (md : Region.Mode) (ops : Array Oper) (C : World → Prop) (m : Nat) (L : Array Bool → Act → Prop) : Nat → Array Bool → Act → Prop
  | 0, listed, a => L listed a
  | f + 1, listed, a =>
    Region.ready md ops listed ≠ [] ∧ ∀ i ∈ Region.ready md ops listed, i < m ∧ qOp P ops C i (wpAnyQL P md ops C m L f (listed.setIfInBounds i true)) a

theorem wpAnyIn_of_headQ {m g : Nat} {L : Array Bool → Act → Prop} {Q' : Exit → Act → World → Prop} (hF : IsWide F) (hd : noDeferB ops = true) (hL : ∀ listed a w, C w → L listed a → wpAnyIn F n P md ops Q' g listed a w) :
    ∀ (f : Nat) (listed : Array Bool) (a : Act) (w : World), C w → wpAnyQL P md ops C m L f listed a → wpAnyIn F n P md ops Q' (f + g) listed a w
  | 0, listed, a, w, hw, h => by rw [Nat.zero_add]; exact hL _ _ _ hw h
  | f + 1, listed, a, w, hw, h => by
    rw [show f + 1 + g = (f + g) + 1 by omega]
    exact ⟨fun h0 => absurd h0 h.1, fun i hi => wpOpIn_of_qOp hF hd hw (fun a' w' hw' h' => wpAnyIn_of_headQ hF hd hL f _ a' w' hw' h') (h.2 i hi).2⟩

theorem wpAnyQL_first {m i : Nat} {oi : Oper} {v : Value} {L : Array Bool → Act → Prop} (hi : ops[i]? = some oi) (hsel : ∀ (j : Nat) (o : Oper) cs b, ops[j]? = some o → o.op ≠ .select cs b)
    (hs : Region.sinkB md ops m = true) (hc : Region.chainB md ops m = true) (hn : m < ops.size) (hin : i < m)
    (hdone : ∀ listed a, L listed a → ∀ j ∈ Region.ready md ops listed, m ≤ j) :
    ∀ (f : Nat) (listed : Array Bool) (a : Act), HeadInv md ops m listed →
      (∀ j oj, ops[j]? = some oj → j ≠ i → listed.getD j true = false → (∀ e ∈ oj.after, Region.binds md e = true → e.on ≠ i) → oi.apart ops oj = true) →
      i ∈ Region.ready md ops listed → YieldsIn P ops C oi v a →
      wpAnyQL P md ops C m L f (listed.setIfInBounds i true) (a.put oi.dst v) → wpAnyQL P md ops C m L (f + 1) listed a := by
  intro f
  induction f with
  | zero =>
    intro listed a inv _ hr hy H
    have hun := (mem_ready.1 hr).1
    refine ⟨fun h => (by rw [h] at hr; cases hr), fun j hj => ?_⟩
    have hjn : j < m := by
      rcases Nat.lt_or_ge j m with h | h
      · exact h
      · exact absurd hj (tail_waits hs hc hn inv _ i rfl hin hun j h)
    refine ⟨hjn, ?_⟩
    by_cases hji : j = i
    · subst hji; exact hy.qOp hi H
    · have := hdone _ _ H j (ready_mono hj hji)
      omega
  | succ f ih =>
    intro listed a inv hfree hr hy H
    have hun := (mem_ready.1 hr).1
    refine ⟨fun h => (by rw [h] at hr; cases hr), fun j hj => ?_⟩
    have hjn : j < m := by
      rcases Nat.lt_or_ge j m with h | h
      · exact h
      · exact absurd hj (tail_waits hs hc hn inv _ i rfl hin hun j h)
    refine ⟨hjn, ?_⟩
    by_cases hji : j = i
    · subst hji; exact hy.qOp hi H
    · have h1 := (H.2 j (ready_mono hj hji)).2
      obtain ⟨hjun, oj, hoj, hall⟩ := mem_ready.1 hj
      have hnot : ∀ e ∈ oj.after, Region.binds md e = true → e.on ≠ i := fun e he hb heq => by
        have h1 := hall e he hb
        rw [heq, getD_both hun] at h1
        cases h1
      have h2 := qOp_put hoj (hfree j oj hoj hji hjun hnot) (fun cs b => hsel i oi cs b hi) (fun cs b => hsel j oj cs b hoj) hy h1
      have hfree' : ∀ k ok, ops[k]? = some ok → k ≠ i → (listed.setIfInBounds j true).getD k true = false →
          (∀ e ∈ ok.after, Region.binds md e = true → e.on ≠ i) → oi.apart ops ok = true := fun k ok hk hki hun hno => by
        refine hfree k ok hk hki ?_ hno
        by_cases hjk : j = k
        · subst hjk; exact hjun
        · rw [getD_set_ne true hjk] at hun; exact hun
      refine qOp_mono (fun a' h3 => ih (listed.setIfInBounds j true) a' (inv.set hj hjn) hfree' (ready_mono hr (Ne.symm hji)) h3.1 ?_) h2
      rw [Array.setIfInBounds_comm _ _ hji]
      exact h3.2

theorem wpAnyQL_lex {m g : Nat} {Lq : Act → Prop} (hsel : Region.noSelect ops = true) (hs : Region.sinkB md ops m = true) (hc : Region.chainB md ops m = true) (hn : m < ops.size) :
    ∀ (l : List Oper) (k : Nat) (listed : Array Bool) (a : Act), (∀ j, j < l.length → l[j]? = ops[k + j]?) → k + l.length = m → HeadInv md ops m listed →
    Region.lexHead md ops g l.length k listed = true → wpQuiet P ops C Lq l a →
    wpAnyQL P md ops C m (fun listed' a' => Region.seqB md ops g m listed' = true ∧ Lq a') l.length listed a
  | [], k, listed, a, _, hk, _, hB, h => by
    have : k = m := by simpa using hk
    subst this
    exact ⟨by simpa [Region.lexHead] using hB, h⟩
  | o :: l, k, listed, a, hl, hk, inv, hB, h => by
    have h0 : ops[k]? = some o := by simpa using (hl 0 (by simp)).symm
    simp only [List.length_cons, Region.lexHead, Bool.and_eq_true] at hB
    obtain ⟨⟨hr, hf⟩, hB'⟩ := hB
    have hkn : k < m := by simp only [List.length_cons] at hk; omega
    have hr' : k ∈ Region.ready md ops listed := by simpa using hr
    have hst : qOp P ops C k (wpQuiet P ops C Lq l) a := by unfold qOp; simp only [h0]; exact h
    obtain ⟨v, hy, hK⟩ := yieldsIn_of_qOp h0 hst
    exact wpAnyQL_first h0 (Region.noSelect_spec hsel) hs hc hn hkn (fun listed' a' hL => seqB_ready hL.1) l.length listed a inv (Region.free_spec h0 hf) hr' hy
      (wpAnyQL_lex hsel hs hc hn l (k + 1) _ _ (fun j hj => by have := hl (j + 1) (by simp; omega); simpa [Nat.add_assoc, Nat.add_comm 1 j] using this) (by simp only [List.length_cons] at hk; omega) (inv.set hr' hkn) hB' hK)

theorem wpAnyIn_of_seqP {Q' : Exit → Act → World → Prop} : ∀ (l : List Oper) (k : Nat) (listed : Array Bool) (a : Act) (w : World), (∀ j, l[j]? = ops[k + j]?) →
    Region.seqB md ops l.length k listed = true → wpListIn F n P ops Q' l a w → wpAnyIn F n P md ops Q' l.length listed a w
  | [], _, _, _, _, _, hB, h => ⟨by simpa [Region.seqB] using hB, h⟩
  | o :: l, k, listed, a, w, hl, hB, h => by
    have h0 : ops[k]? = some o := by simpa using (hl 0).symm
    simp only [List.length_cons, Region.seqB, Bool.and_eq_true, decide_eq_true_eq] at hB
    refine ⟨fun h1 => (by rw [hB.1] at h1; cases h1), fun i hi => ?_⟩
    rw [hB.1] at hi
    have hik : i = k := by simpa using hi
    subst hik
    have hw : wpOpIn F n P ops Q' i (wpListIn F n P ops Q' l) a w := by unfold wpOpIn; simp only [h0]; exact h
    exact wpOpIn_mono (fun a' w' h' => wpAnyIn_of_seqP l (i + 1) _ a' w' (fun j => by have := hl (j + 1); simpa [Nat.add_assoc, Nat.add_comm 1 j] using this) hB.2 h') hw

/-- **A quiet head of m operations, then a tail in sequence.** -/
theorem region_tail_in {id : Nat} {Q : Exit → Act → World → Prop} {a : Act} {w : World} {l : List Oper} (m : Nat) (hF : IsWide F) (hd : noDeferB l.toArray = true) (hm : P.follows .mixedOrders = true) (hB : Region.lexTailB .any l.toArray m = true)
    (h : wpQuiet P l.toArray (fun w' => ∃ p : Regrown, w' = grow (redrawn w p.d) p.os) (fun a' => ∀ w', (∃ p : Regrown, w' = grow (redrawn w p.d) p.os) → wpListIn F n P l.toArray Q (l.drop m) a' w') (l.take m) a) :
    (Code.region id l.toArray true).wpIn F n P Q a w := by
  simp only [Region.lexTailB, Bool.and_eq_true, decide_eq_true_eq] at hB
  obtain ⟨⟨⟨⟨hsel, hn⟩, hs⟩, hc⟩, hlex⟩ := hB
  have hn' : m < l.length := by simpa using hn
  have htl : (l.take m).length = m := by simp; omega
  have hdl : (l.drop m).length = l.toArray.size - m := by simp
  have inv0 : HeadInv .any l.toArray m (Array.replicate l.toArray.size false) :=
    ⟨by simp, fun j oj _ hl => (by rw [getD_replicate_false] at hl; cases hl), fun t _ ht => getD_in (by simpa using ht) (getD_replicate_false _ _)⟩
  have H := wpAnyQL_lex (md := .any) (P := P) (C := fun w' => ∃ p : Regrown, w' = grow (redrawn w p.d) p.os) (g := l.toArray.size - m) hsel hs hc hn (l.take m) 0 _ a (fun j hj => by
    have hj' : j < m := by rw [htl] at hj; exact hj
    simp [hj']) (by simpa using htl) inv0 (by rw [htl]; exact hlex) h
  have hC : ∃ p : Regrown, ({ w with drawn := w.drawn + 1 } : World) = grow (redrawn w p.d) p.os := ⟨⟨w.drawn + 1, #[]⟩, by rw [grow_empty]; rfl⟩
  refine wpIn_region_any hm ?_
  have := wpAnyIn_of_headQ (F := F) (n := n) (Q' := Q) (g := l.toArray.size - m) hF hd (fun listed a' w' hw' hL => by
    have := wpAnyIn_of_seqP (F := F) (n := n) (P := P) (md := .any) (Q' := Q) (l.drop m) m listed a' w' (fun j => by simp [List.getElem?_drop]) (by rw [hdl]; exact hL.1) (hL.2 w' hw')
    rwa [hdl] at this) _ _ _ _ hC H
  rw [htl, show m + (l.toArray.size - m) = l.toArray.size by omega] at this
  exact this
end
end Go.Proofs.Ythoniopkeiifnaa

/-! Sides -/
namespace Go.Proofs.Ythoniopkeiifnaa
open Go.RowKit Go.Shelf Go.Sort
attribute [local go_sem] Oper.semAt_some

def sideV (L : List (Int × Int)) (i : Nat) : Value := .agg #[.int .i64 (gt L i).1, .int .i64 (gt L i).2, .int .i64 (gt L (nx L i)).1, .int .i64 (gt L (nx L i)).2]

/-- What lay below m and block B lie as they lay. -/
def KeepP (m B : Nat) (W W' : World) : Prop := Below m W W' ∧ W'.heap[B]? = W.heap[B]?
theorem KeepP.refl (m B : Nat) (W : World) : KeepP m B W W := ⟨Below.refl _ _, rfl⟩
theorem keepP_t {m B : Nat} {X Y Z : World} (h : KeepP m B X Y) (k : KeepP m B Y Z) : KeepP m B X Z := ⟨h.1.trans k.1, k.2.trans h.2⟩
theorem keepP_b {m B : Nat} {w : World} (hn : m ≤ w.heap.size) (hB : B < w.heap.size) (W : World) (l : Nat) (o o' : Obj) (hl : w.heap.size ≤ l) (h : W.heap[l]? = some o) (h1 : o.isCells = false) (h2 : o.isWalk = false) : KeepP m B W (W.putObj l o') :=
  ⟨belowK_b hn W l o o' hl h h1 h2, World.putObj_heap_other (by omega)⟩
theorem KeepP.of_below {m B : Nat} {W W' : World} (h : Below W.heap.size W W') (hm : m ≤ W.heap.size) (hB : B < W.heap.size) : KeepP m B W W' := ⟨h.mono hm, h.block B hB⟩
theorem KeepP.setCell {m B : Nat} {W W' : World} (h : KeepP m B W W') {b : Nat} (hm : m ≤ b) (hB : B ≠ b) (o : Nat) (v : Value) : KeepP m B W (W'.setCell ⟨b, o, none⟩ v) :=
  ⟨h.1.setCell (p := ⟨b, o, none⟩) hm v, (Below.heap_setCell W' ⟨b, o, none⟩ v B hB).trans h.2⟩
theorem grown_of_below {W W' : World} (h : Below W.heap.size W W') : W.grownBy W' none := ⟨h.os, h.tape, h.output, h.size, fun k hk _ => h.block k hk⟩
theorem keepsFrom_below {B : Nat} {W W' : World} (h : Below W.heap.size W W') : KeepsFrom B W W' := ⟨h.size, fun k _ _ h0 _ => (h.block k (Array.getElem?_eq_some_iff.1 h0).1).trans h0⟩

theorem cell_same {X Y : World} {B o : Nat} {v : Value} (h : Y.heap[B]? = X.heap[B]?) (hc : X.cell? ⟨B, o, none⟩ = some v) : Y.cell? ⟨B, o, none⟩ = some v := by
  have : Y.cell? ⟨B, o, none⟩ = X.cell? ⟨B, o, none⟩ := by simp only [World.cell?, h]
  rw [this]; exact hc

theorem sides_any (A : Option Addr) (n c : Nat) (w : World) :
    Calls Try.prog 103 #[.slice A n c] w fun e w' => e = .returned (.func (.func 153) #[] #[.pointer (some ⟨w.heap.size, 0, none⟩)]) ∧ w.alloc (.cells #[.slice A n c] 34) = w' := by
  go_enter Try.func103, Try.ntmps103
  go_wp2_with fail
  go_ret
  exact ⟨rfl, rfl⟩

set_option maxRecDepth 100000 in
set_option maxHeartbeats 4000000 in
theorem sides1 (n l Bs : Nat) (A : Option Addr) (c : Nat) (L : List (Int × Int)) (w0 : World) (h1 : 1 ≤ L.length) (h2 : L.length ≤ 1048576) (hA : PtsA w0 A L) (J Jx : List Nat → World → Prop) (W : World) (hJ : AbidesFrom W.heap.size J)
    (hY : ∀ (pre : List Nat) (x : Nat) (W1 : World), J pre W1 → pre.length < L.length → YieldAt Fence.wide (n - 1) Try.prog l #[.int .i64 (x : Int), sideV L x] W1 fun e W' =>
      (e = .returned (.bool true) ∧ J (pre ++ [x]) W' ∧ KeepP w0.heap.size Bs W1 W') ∨ (e = .returned (.bool false) ∧ Jx (pre ++ [x]) W'))
    (hBl : Bs < W.heap.size) (hBs : W.cell? ⟨Bs, 0, none⟩ = some (.slice A L.length c)) (hW : Below w0.heap.size w0 W) (h0 : J [] W) :
    CallsIn Fence.wide n Try.prog 153 #[.func (.yield l) #[] #[], .pointer (some ⟨Bs, 0, none⟩)] W fun e W' => (∃ v, e = .returned v) ∧
      ((∃ ys, ys = List.range L.length ∧ J ys W') ∨ (∃ pre, (∃ k, k ≤ L.length ∧ pre = List.range k) ∧ Jx pre W')) := by
  obtain ⟨g, rfl, -⟩ := hA 0 h1
  have HA := Lib.hid hA; clear hA
  refine callsIn_of_wp Try.func153 rfl trivial ?_ rfl
  simp only [Try.ntmps153, List.size_toArray, List.length_cons, List.length_nil, Nat.reduceAdd, Nat.reduceSub, Array.replicate_succ, Array.replicate_zero, List.push_toArray, List.append_toArray, List.nil_append, List.cons_append]
  gi_wp2
  gi_loopw [7] (fun i wr => ∃ k : Nat, k ≤ L.length ∧ i = .int .i64 k ∧ J (List.range k) wr ∧ KeepP w0.heap.size Bs W wr)
    (fun i _ => L.length - (intOf i).toNat)
  case atStart => exact ⟨0, Nat.zero_le _, rfl, h0, KeepP.refl _ _ _⟩
  case round =>
    obtain ⟨k, hk, rfl, hJs, hnx⟩ := hrel
    have hsz : W.heap.size ≤ wr.heap.size := hnx.1.size
    have hbox : wr.cell? ⟨Bs, 0, none⟩ = some (.slice (some ⟨g, 0, none⟩) L.length c) := cell_same hnx.2 hBs
    by_cases hlt : k < L.length
    · obtain ⟨c1, c2⟩ := gt_cells (ptsA_on HA.out (hW.trans hnx.1)) hlt
      obtain ⟨m, hm⟩ : ∃ m, m = nx L k := ⟨_, rfl⟩
      have hml : m < L.length := by rw [hm]; exact (next_int (i := k) h1).2
      have e2 : ((k : Int) + 1) % (L.length : Int) = (m : Int) := by rw [hm]; unfold nx; exact (Int.natCast_emod (k + 1) L.length).symm
      obtain ⟨d1, d2⟩ := gt_cells (ptsA_on HA.out (hW.trans hnx.1)) hml
      obtain ⟨x, hx⟩ : ∃ x, x = (gt L k).1 := ⟨_, rfl⟩
      obtain ⟨y, hy⟩ : ∃ y, y = (gt L k).2 := ⟨_, rfl⟩
      obtain ⟨x', hx'⟩ : ∃ x', x' = (gt L m).1 := ⟨_, rfl⟩
      obtain ⟨y', hy'⟩ : ∃ y', y' = (gt L m).2 := ⟨_, rfl⟩
      rw [← hx] at c1; rw [← hy] at c2; rw [← hx'] at d1; rw [← hy'] at d2
      have HV : Hid (sideV L k = .agg #[.int .i64 x, .int .i64 y, .int .i64 x', .int .i64 y']) := by
        show _ = _
        rw [hx, hy, hx', hy', hm]; rfl
      clear hx hy hx' hy' hm
      have hb0 := below1 wr (.cells #[.int .i64 x, .int .i64 y] 45)
      have A0 := at_new wr x y 45
      have k1 := cell_regrown A0.c0
      have k2 := cell_regrown A0.c1
      have k3 := cell_regrown (cell_on hb0 rfl d1)
      have k4 := cell_regrown (cell_on hb0 rfl d2)
      have k5 := cell_regrown (cell_on hb0 rfl hbox)
      have hJ1 : J (List.range k) (wr.alloc (.cells #[.int .i64 x, .int .i64 y] 45)) := hJ _ _ _ none hJs (grown_of_below hb0) (fun r e => by cases e)
      gi_wp2
      refine region_tail_in 12 wide0 (by kernel_rfl) (by kernel_rfl) (by kernel_rfl) ?_
      simp only [List.take_succ_cons, List.take_zero, List.drop_succ_cons, List.drop_zero]
      repeat (first
        | go_big_quiet_step (fail)
        | quiet_step (fail))
      refine wpQuiet_nil ?_
      rintro _ ⟨⟨dq, osq⟩, rfl⟩
      have hb1 := hb0.trans ((below_regrown _ dq osq).mono (by simp))
      have hJ2 : J (List.range k) (grow (redrawn (wr.alloc (.cells #[.int .i64 x, .int .i64 y] 45)) dq) osq) := hJ _ _ _ none hJs (grown_of_below hb1) (fun r e => by cases e)
      clear k1 k2 k3 k4 k5 c1 c2 d1 d2 hJ1 A0
      generalize grow (redrawn (wr.alloc (.cells #[.int .i64 x, .int .i64 y] 45)) dq) osq = w2 at *
      obtain ⟨fn, tmps, assign, body, hy, hR⟩ := hY _ k w2 hJ2 (by rw [List.length_range]; exact hlt)
      rw [HV.out] at hy
      gi_wp2
      refine ⟨fun e => (by cases e), hR.mono ?_⟩
      have hk2 : KeepP w0.heap.size Bs W w2 := keepP_t hnx (KeepP.of_below hb1 (Nat.le_trans hW.size hsz) (by omega))
      rintro e W3 (⟨rfl, hJ3, hk3⟩ | ⟨rfl, hJx3⟩)
      · gi_wp2
        go_roundw
        case rel => exact ⟨k + 1, by omega, by go_num, by rw [List.range_succ]; exact hJ3, keepP_t hk2 hk3⟩
        case measure => simp [intOf]; omega
      · gi_wp2
        refine bodyPost_ret (results_none rfl _ _ _) rfl ?_
        exact ⟨⟨_, rfl⟩, .inr ⟨_, ⟨k + 1, by omega, List.range_succ.symm⟩, hJx3⟩⟩
    · obtain rfl : k = L.length := by omega
      gi_wp2
      go_end0
      exact ⟨⟨_, rfl⟩, .inl ⟨_, rfl, hJs⟩⟩

/-- **The iterator of the sides.** -/
theorem sides_stops (n Bs : Nat) (A : Option Addr) (c : Nat) (L : List (Int × Int)) (w0 w : World) (h1 : 1 ≤ L.length) (h2 : L.length ≤ 1048576) (hA : PtsA w0 A L) (hB : Below w0.heap.size w0 w) (hBl : Bs < w.heap.size) (hBs : w.cell? ⟨Bs, 0, none⟩ = some (.slice A L.length c)) :
    SeqStopsK Fence.wide n Try.prog 153 #[.pointer (some ⟨Bs, 0, none⟩)] (fun i : Nat => #[.int .i64 (i : Int), sideV L i]) (KeepP w0.heap.size Bs) (fun ys => ys = List.range L.length) (fun pre => ∃ k, k ≤ L.length ∧ pre = List.range k) L.length w := fun l J Jx W hW hJ _ hY h0 =>
  sides1 n l Bs A c L w0 h1 h2 hA J Jx W hJ hY (Nat.lt_of_lt_of_le hBl hW.size) ((hW.cell (p := ⟨Bs, 0, none⟩) hBl).trans hBs) (hB.trans (hW.mono hB.size)) h0
/-- Block g holds a side. -/
def SideAt (W : World) (g : Nat) (L : List (Int × Int)) (i : Nat) : Prop := W.heap[g]? = some (.cells #[.int .i64 (gt L i).1, .int .i64 (gt L i).2, .int .i64 (gt L (nx L i)).1, .int .i64 (gt L (nx L i)).2] 99 (0, 0))
theorem sideAt_new (W : World) (L : List (Int × Int)) (i : Nat) : SideAt (W.alloc (.cells #[.int .i64 (gt L i).1, .int .i64 (gt L i).2, .int .i64 (gt L (nx L i)).1, .int .i64 (gt L (nx L i)).2] 99)) W.heap.size L i := heap_alloc_new W _
theorem SideAt.lt {W : World} {g : Nat} {L : List (Int × Int)} {i : Nat} (h : SideAt W g L i) : g < W.heap.size := (Array.getElem?_eq_some_iff.1 h).1
theorem sideAt_own (g : Nat) (L : List (Int × Int)) (i B : Nat) : OwnFrom B (fun (_ : Unit) W => SideAt W g L i) := fun _ X Y row hs hg hr =>
  (hg.block g hs.lt (fun e => by
    obtain ⟨_, o, ho, hc⟩ := hr g e.symm
    rw [show X.heap[g]? = _ from hs] at ho
    cases ho; cases hc)).trans hs
theorem SideAt.cells {W : World} {g : Nat} {L : List (Int × Int)} {i : Nat} (h : SideAt W g L i) :
    W.cell? ⟨g, 0, none⟩ = some (.int .i64 (gt L i).1) ∧ W.cell? ⟨g, 1, none⟩ = some (.int .i64 (gt L i).2) ∧ W.cell? ⟨g, 2, none⟩ = some (.int .i64 (gt L (nx L i)).1) ∧ W.cell? ⟨g, 3, none⟩ = some (.int .i64 (gt L (nx L i)).2) :=
  ⟨cell_of_row W g 0 _ _ _ h, cell_of_row W g 1 _ _ _ h, cell_of_row W g 2 _ _ _ h, cell_of_row W g 3 _ _ _ h⟩

theorem boxed_on {W W' : World} {B : Nat} {t : TypeId} {v : Value} (h : Boxed W B t v) (hb : Below W.heap.size W W') : Boxed W' B t v := (hb.block B h.lt).trans h

theorem gt_ok {L : List (Int × Int)} (h : allOk L = true) (i : Nat) : okP (gt L i).1 (gt L i).2 = true := by
  by_cases hi : i < L.length
  · exact all_at h hi
  · have : gt L i = (0, 0) := by simp [gt, List.getElem?_eq_none (Nat.le_of_not_lt hi)]
    rw [this]; rfl
end Go.Proofs.Ythoniopkeiifnaa

/-! Ends -/
namespace Go.Proofs.Ythoniopkeiifnaa
open Go.RowKit

def tillE (a b c d : Int × Int) (k : Nat) : List (Int × Int) := ([a, b, c, d].take k).foldl (addE a b c d) []
theorem tillE_step {a b c d p : Int × Int} {k : Nat} (h : [a, b, c, d][k]? = some p) : tillE a b c d (k + 1) = addE a b c d (tillE a b c d k) p := by
  have hk : k < [a, b, c, d].length := (List.getElem?_eq_some_iff.1 h).1
  have hp : [a, b, c, d][k] = p := (List.getElem?_eq_some_iff.1 h).2
  rw [tillE, List.take_succ_eq_append_getElem hk, List.foldl_append, hp]; rfl
theorem idx4 (ax ay bx by' cx cy dx dy x y : Int) : ∀ (k : Nat) (_ : [(ax, ay), (bx, by'), (cx, cy), (dx, dy)][k]? = some (x, y)) (w : World),
    (Instr.index 162 (.agg #[.int .i64 ax, .int .i64 ay, .int .i64 bx, .int .i64 by', .int .i64 cx, .int .i64 cy, .int .i64 dx, .int .i64 dy]) (.int .i64 (k : Int))).run Try.prog w = .ok (.agg #[.int .i64 x, .int .i64 y]) w
  | 0, h, w => by
    obtain ⟨rfl, rfl⟩ : ax = x ∧ ay = y := by simpa using h
    simp [go_sem, Instr.index]
  | 1, h, w => by
    obtain ⟨rfl, rfl⟩ : bx = x ∧ by' = y := by simpa using h
    simp [go_sem, Instr.index]
  | 2, h, w => by
    obtain ⟨rfl, rfl⟩ : cx = x ∧ cy = y := by simpa using h
    simp [go_sem, Instr.index]
  | 3, h, w => by
    obtain ⟨rfl, rfl⟩ : dx = x ∧ dy = y := by simpa using h
    simp [go_sem, Instr.index]
  | k + 4, h, w => by simp at h
theorem tillE_len (a b c d : Int × Int) (k : Nat) : (tillE a b c d k).length ≤ 4 := by
  have : ∀ (l : List (Int × Int)) E, (l.foldl (addE a b c d) E).length ≤ E.length + l.length := by
    intro l
    induction l with
    | nil => intro E; simp
    | cons p l ih =>
      intro E
      have h1 := ih (addE a b c d E p)
      have h2 : (addE a b c d E p).length ≤ E.length + 1 := by
        unfold addE
        cases onP a b p && onP c d p && !(hasP E p.1 p.2) <;> simp
      simp only [List.foldl_cons, List.length_cons]
      omega
  have h := this ([a, b, c, d].take k) []
  have h2 : ([a, b, c, d].take k).length ≤ 4 := by rw [List.length_take]; simp; omega
  unfold tillE
  simp only [List.length_nil] at h
  omega
theorem onV_on {ax ay bx by' px py : Int} (ha : okP ax ay = true) (hb : okP bx by' = true) (hp : okP px py = true) : onV ax ay bx by' px py = onP (ax, ay) (bx, by') (px, py) := by
  rw [onV, ha, hb, hp]; rfl
set_option maxHeartbeats 4000000 in
set_option maxRecDepth 100000 in
theorem count_any (ax ay bx by' cx cy dx dy : Int) (w : World) (ha : okP ax ay = true) (hb : okP bx by' = true) (hc : okP cx cy = true) (hd : okP dx dy = true) :
    Calls Try.prog 195 #[(.agg #[.int .i64 ax, .int .i64 ay]), (.agg #[.int .i64 bx, .int .i64 by']), (.agg #[.int .i64 cx, .int .i64 cy]), (.agg #[.int .i64 dx, .int .i64 dy])] w fun e w' => e = .returned (.int .i64 (endsE (ax, ay) (bx, by') (cx, cy) (dx, dy)).length) ∧ Below w.heap.size w w' := by
  have t0 := four0 w ax ay bx by' cx cy dx dy 45
  have b0 := below4 w (.cells #[.int .i64 ax, .int .i64 ay] 45) (.cells #[.int .i64 bx, .int .i64 by'] 45) (.cells #[.int .i64 cx, .int .i64 cy] 45) (.cells #[.int .i64 dx, .int .i64 dy] 45)
  obtain ⟨i0, hi0, hz0, hz1, hz2⟩ := info_parts infoPt
  go_enter Try.func195, Try.ntmps195
  go_wp2_with fail
  generalize (((w.alloc (.cells #[.int .i64 ax, .int .i64 ay] 45)).alloc (.cells #[.int .i64 bx, .int .i64 by'] 45)).alloc (.cells #[.int .i64 cx, .int .i64 cy] 45)).alloc (.cells #[.int .i64 dx, .int .i64 dy] 45) = w1 at *
  have HT := Lib.hid t0; have HB := Lib.hid b0
  clear t0 b0
  go_loopw [9, 11, 17] (fun s _ i wr => ∃ k : Nat, k ≤ 4 ∧ i = .int .i64 k ∧ wr.ownsRow (w.heap.size + 1 + 1 + 1 + 1) 45 2 s (tillE (ax, ay) (bx, by') (cx, cy) (dx, dy) k).length (flat (tillE (ax, ay) (bx, by') (cx, cy) (dx, dy) k)) ∧
      Four wr w.heap.size ax ay bx by' cx cy dx dy 45 ∧ Below w.heap.size w wr) (fun _ _ i _ => 4 - (intOf i).toNat)
  case atStart => exact ⟨0, by omega, rfl, World.ownsRow_nil _ _ _ _, HT.out, HB.out⟩
  case round =>
    obtain ⟨wo, rfl⟩ : ∃ wo : World, wo = wr := ⟨_, rfl⟩
    obtain ⟨k, hk, rfl, hown, t1, b1⟩ := hrel
    by_cases hlt : k < 4
    · obtain ⟨x, y, hxy⟩ : ∃ x y, [(ax, ay), (bx, by'), (cx, cy), (dx, dy)][k]? = some (x, y) := ⟨_, _, List.getElem?_eq_getElem (by simpa using hlt)⟩
      have hok : okP x y = true := by
        have := List.mem_of_getElem? hxy
        simp only [List.mem_cons, Prod.mk.injEq, List.not_mem_nil, or_false] at this
        rcases this with ⟨rfl, rfl⟩ | ⟨rfl, rfl⟩ | ⟨rfl, rfl⟩ | ⟨rfl, rfl⟩ <;> assumption
      have hs := tillE_step hxy
      have hidx := fun w => idx4 ax ay bx by' cx cy dx dy x y k hxy w
      have V1 := Lib.hid (onV_on ha hb hok); have V2 := Lib.hid (onV_on hc hd hok)
      have HS := Lib.hid hs
      have hE4 := tillE_len (ax, ay) (bx, by') (cx, cy) (dx, dy) k
      generalize tillE (ax, ay) (bx, by') (cx, cy) (dx, dy) k = E at *
      clear hxy hs hok
      have u1 := t1.alloc (.cells #[.int .i64 x, .int .i64 y] 45)
      have n1 := at_new wo x y 45
      have c1 := u1.1.c0; have c2 := u1.1.c1; have c3 := u1.2.1.c0; have c4 := u1.2.1.c1
      obtain ⟨_, A, cp, rfl, _⟩ := own_pts hown
      go_wp2_with fail
      refine (impl_on _ _ _ _ _ _ _).mono ?_
      rintro e w2 ⟨rfl, hb2⟩
      have t2 := u1.step hb2
      have n2 := n1.step hb2
      have b2 := below_on (b1.alloc b1.size _) hb2
      have own2 := own_below (hown.alloc _) hb2
      clear u1 n1 t1 b1 hown hb2 c1 c2 c3 c4 hidx
      rw [V1.out]
      cases ho1 : onP (ax, ay) (bx, by') (x, y)
      · have HE : Hid (tillE (ax, ay) (bx, by') (cx, cy) (dx, dy) (k + 1) = E) := by
          show _ = _
          rw [HS.out, addE, ho1]; rfl
        have R := Lib.hid (And.intro own2 (And.intro t2 b2))
        clear own2 t2 b2 n2
        go_wp2_with fail
        go_roundw
        case rel => exact ⟨k + 1, by omega, by go_num, by rw [HE.out]; exact R.out.1, R.out.2.1, R.out.2.2⟩
        case measure => simp [intOf]; omega
      have c1 := t2.2.2.1.c0; have c2 := t2.2.2.1.c1; have c3 := t2.2.2.2.c0; have c4 := t2.2.2.2.c1; have c5 := n2.c0; have c6 := n2.c1
      go_wp2_with fail
      refine (impl_on _ _ _ _ _ _ _).mono ?_
      rintro e w3 ⟨rfl, hb3⟩
      have t3 := t2.step hb3
      have n3 := n2.step hb3
      have b3 := below_on b2 hb3
      have own3 := own_below own2 hb3
      clear t2 n2 b2 own2 hb3 c1 c2 c3 c4 c5 c6
      rw [V2.out]
      cases ho2 : onP (cx, cy) (dx, dy) (x, y)
      · have HE : Hid (tillE (ax, ay) (bx, by') (cx, cy) (dx, dy) (k + 1) = E) := by
          show _ = _
          rw [HS.out, addE, ho1, ho2]; rfl
        have R := Lib.hid (And.intro own3 (And.intro t3 b3))
        clear own3 t3 b3 n3
        go_wp2_with fail
        go_roundw
        case rel => exact ⟨k + 1, by omega, by go_num, by rw [HE.out]; exact R.out.1, R.out.2.1, R.out.2.2⟩
        case measure => simp [intOf]; omega
      have c5 := n3.c0; have c6 := n3.c1
      have HH := Lib.hid (has_any A cp E x y w3 (ptsA_of own3) (by omega))
      go_wp2_with fail
      refine HH.out.mono ?_
      rintro e w4 ⟨rfl, hb4⟩
      have t4 := t3.step hb4
      have n4 := n3.step hb4
      have b4 := below_on b3 hb4
      have own4 := own_below own3 hb4
      clear t3 n3 b3 own3 hb4 c5 c6 HH
      cases ho3 : hasP E x y
      · have HE : Hid (tillE (ax, ay) (bx, by') (cx, cy) (dx, dy) (k + 1) = E ++ [(x, y)]) := by
          show _ = _
          rw [HS.out, addE, ho1, ho2]
          show (bif true && true && !(hasP E x y) then _ else _) = _
          rw [ho3]; rfl
        have c5 := n4.c0; have c6 := n4.c1
        have hB := t4.2.2.2.lt
        go_wp2_with (at_builtin; refine wpList_append_own _ rfl _ _ 34 rfl (w.heap.size + 1 + 1 + 1 + 1) 45 i0 (.agg #[.int .i64 0, .int .i64 0]) 2 16 Try.underlying34 hi0 hz0 hz1 hz2 rfl (by decide) _ _ _ rfl (own4.alloc _) ⟨w4.heap.size, 0, none⟩ 1 1 [.int .i64 x, .int .i64 y] rfl rfl ?d1 ?d2 ?d3 ?d4 ?d5 ?_)
        case d1 => exact World.news_of_block (cs := #[.int .i64 x, .int .i64 y]) (t := 45) (fr := (0, 0)) (heap_alloc_new w4 _)
        case d2 => simp [Value.oneCell']
        case d3 => unfold maxLen; omega
        case d4 => omega
        case d5 => simp; omega
        intro v' w5 own5 hgrow _
        have hr := fun k hk => (own4.lt k hk).1
        have R : Hid (w5.ownsRow (w.heap.size + 1 + 1 + 1 + 1) 45 2 v' (E ++ [(x, y)]).length (flat (E ++ [(x, y)])) ∧ Four w5 w.heap.size ax ay bx by' cx cy dx dy 45 ∧ Below w.heap.size w w5) :=
          ⟨by rw [flat_append, List.length_append]; exact own5, (t4.alloc _).grown hgrow hr, (b4.alloc b4.size _).grown hgrow (by have := b4.size; simp; omega) (fun q hq => by have := hr q hq; omega)⟩
        clear own4 own5 hgrow t4 b4 n4 c5 c6
        go_wp2_with fail
        exact ⟨⟨k + 1, by omega, by go_num, by rw [HE.out]; exact R.out.1, R.out.2.1, R.out.2.2⟩, by simp [intOf]; omega⟩
      · have HE : Hid (tillE (ax, ay) (bx, by') (cx, cy) (dx, dy) (k + 1) = E) := by
          show _ = _
          rw [HS.out, addE, ho1, ho2]
          show (bif true && true && !(hasP E x y) then _ else _) = _
          rw [ho3]; rfl
        have R := Lib.hid (And.intro own4 (And.intro t4 b4))
        clear own4 t4 b4 n4
        go_wp2_with fail
        go_roundw
        case rel => exact ⟨k + 1, by omega, by go_num, by rw [HE.out]; exact R.out.1, R.out.2.1, R.out.2.2⟩
        case measure => simp [intOf]; omega
    · obtain rfl : k = 4 := by omega
      obtain ⟨_, A, c, rfl, _⟩ := own_pts hown
      go_wp2_with fail
      go_ret
      exact ⟨rfl, b1⟩
theorem crossV_on {ax ay bx by' px py : Int} (ha : okP ax ay = true) (hb : okP bx by' = true) (hp : okP px py = true) : crossV ax ay bx by' px py = crossP (ax, ay) (bx, by') (px, py) := by
  rw [crossV, ha, hb, hp]; rfl
set_option maxRecDepth 100000 in
set_option maxHeartbeats 1000000 in
theorem parts_any (ax ay bx by' cx cy dx dy : Int) (w : World) (ha : okP ax ay = true) (hb : okP bx by' = true) (hc : okP cx cy = true) (hd : okP dx dy = true) :
    Calls Try.prog 196 #[(.agg #[.int .i64 ax, .int .i64 ay]), (.agg #[.int .i64 bx, .int .i64 by']), (.agg #[.int .i64 cx, .int .i64 cy]), (.agg #[.int .i64 dx, .int .i64 dy])] w fun e w' => e = .returned (.bool (opp (ax, ay) (bx, by') (cx, cy) (dx, dy))) ∧ Below w.heap.size w w' := by
  have m1 := sgn_abs (crossV ax ay bx by' cx cy)
  have m2 := sgn_abs (crossV ax ay bx by' dx dy)
  have HO : Hid (opp (ax, ay) (bx, by') (cx, cy) (dx, dy) = decide (sgn (crossV ax ay bx by' cx cy) * sgn (crossV ax ay bx by' dx dy) < 0)) := by
    show _ = _
    rw [crossV_on ha hb hc, crossV_on ha hb hd]; rfl
  have hm := abs_mul m1 m2
  obtain ⟨m, em⟩ : ∃ m, m = sgn (crossV ax ay bx by' cx cy) * sgn (crossV ax ay bx by' dx dy) := ⟨_, rfl⟩
  rw [← em] at hm HO
  have e1 : sgn (crossV ax ay bx by' cx cy) * sgn (crossV ax ay bx by' dx dy) = m := em.symm
  have e2 : IntKind.i64.wrap m = m := IntWalk.i64_in _ (by omega)
  have e3 : wrap64 m = m := wrap_id (by omega)
  clear m1 m2 hm em ha hb hc hd
  go_enter Try.func196, Try.ntmps196
  go_wp2_with fail
  obtain ⟨w1, t1, b1, h1⟩ : ∃ w1, Four w1 w.heap.size ax ay bx by' cx cy dx dy 45 ∧ Below w.heap.size w w1 ∧ w1 = _ := ⟨_, four0 w ax ay bx by' cx cy dx dy 45, below4 w _ _ _ _, rfl⟩
  rw [← h1]
  clear h1
  have c1 := t1.1.c0; have c2 := t1.1.c1; have c3 := t1.2.1.c0; have c4 := t1.2.1.c1; have c5 := t1.2.2.1.c0; have c6 := t1.2.2.1.c1; have c7 := t1.2.2.2.c0; have c8 := t1.2.2.2.c1
  have k1 := cell_regrown c1; have k2 := cell_regrown c2; have k3 := cell_regrown c3; have k4 := cell_regrown c4; have k5 := cell_regrown c5; have k6 := cell_regrown c6; have k7 := cell_regrown c7; have k8 := cell_regrown c8
  refine wp_region_quiet_below (by kernel_rfl) (by kernel_rfl) ?_
  repeat (first
    | go_big_quiet_step (first | exact Calls.regrown_of (impl_side _ _ _ _ _ _ _))
    | quiet_step (first | exact Calls.regrown_of (impl_side _ _ _ _ _ _ _)))
  refine wpQuiet_nil ?_
  rintro _ ⟨⟨dq, osq⟩, rfl⟩
  have b2 := b1.trans ((below_regrown w1 dq osq).mono b1.size)
  clear k1 k2 k3 k4 k5 k6 k7 k8 c1 c2 c3 c4 c5 c6 c7 c8 t1 b1
  go_wp2_with fail
  go_ret
  exact ⟨ret_bool (by rw [HO.out]), b2⟩
theorem okQ_pair (x y : Int) : okQ (x, y) = okP x y := rfl
set_option maxRecDepth 100000 in
set_option maxHeartbeats 4000000 in
theorem impl_meet (ax ay bx by' cx cy dx dy : Int) (w : World) :
    Calls Try.prog 173 #[(.agg #[.int .i64 ax, .int .i64 ay]), (.agg #[.int .i64 bx, .int .i64 by']), (.agg #[.int .i64 cx, .int .i64 cy]), (.agg #[.int .i64 dx, .int .i64 dy])] w fun e w' => e = .returned (.int .i64 (meetV (ax, ay) (bx, by') (cx, cy) (dx, dy))) ∧ Below w.heap.size w w' := by
  have HP := Lib.hid (pts4 w ax ay bx by' cx cy dx dy)
  have GP := guard_pt
  have EP := fun w x y x' y' => eql_pt w x y x' y'
  go_enter Try.func173, Try.ntmps173
  go_wp2_with fail
  refine (all_any _ _ [(ax, ay), (bx, by'), (cx, cy), (dx, dy)] _ HP.out (by simp) (by simp)).mono ?_
  rintro e w1 ⟨rfl, hb1⟩
  have t1 := ((four0 w ax ay bx by' cx cy dx dy 45).alloc _).step hb1
  have b1 := below_on ((below4 w _ _ _ _).alloc (by simp; omega) _) hb1
  clear hb1 HP
  have HO := Lib.hid (all4 ax ay bx by' cx cy dx dy)
  cases hok : allOk [(ax, ay), (bx, by'), (cx, cy), (dx, dy)]
  · go_wp2_with fail
    go_ret
    exact ⟨ret_int (by simp only [meetV, okQ_pair]; rw [← HO.out, hok]; rfl), b1⟩
  have hok2 := HO.out.symm
  rw [hok] at hok2
  simp only [Bool.and_eq_true] at hok2
  obtain ⟨⟨⟨ha, hb⟩, hc⟩, hd⟩ := hok2
  have c1 := t1.1.c0; have c2 := t1.1.c1; have c3 := t1.2.1.c0; have c4 := t1.2.1.c1; have c5 := t1.2.2.1.c0; have c6 := t1.2.2.1.c1; have c7 := t1.2.2.2.c0; have c8 := t1.2.2.2.c1
  cases hab : (ax == bx && ay == by')
  case true =>
    go_wp2_with fail
    go_ret
    exact ⟨ret_int (by simp only [meetV, okQ_pair, eqQ]; rw [← HO.out, hok, hab]; rfl), b1⟩
  cases hcd : (cx == dx && cy == dy)
  case true =>
    go_wp2_with fail
    go_ret
    exact ⟨ret_int (by simp only [meetV, okQ_pair, eqQ]; rw [← HO.out, hok, hab, hcd]; rfl), b1⟩
  have HM : Hid (meetV (ax, ay) (bx, by') (cx, cy) (dx, dy) = meetI (ax, ay) (bx, by') (cx, cy) (dx, dy)) := by
    show _ = _
    simp only [meetV, okQ_pair, eqQ]; rw [← HO.out, hok, hab, hcd]; rfl
  have HC := Lib.hid (fun w => count_any ax ay bx by' cx cy dx dy w ha hb hc hd)
  have H1 := Lib.hid (fun w => parts_any ax ay bx by' cx cy dx dy w ha hb hc hd)
  have H2 := Lib.hid (fun w => parts_any cx cy dx dy ax ay bx by' w hc hd ha hb)
  clear ha hb hc hd
  go_wp2_with fail
  refine (HC.out _).mono ?_
  rintro e w2 ⟨rfl, hb2⟩
  have t2 := t1.step hb2
  have b2 := below_on b1 hb2
  clear hb2 t1 b1 c1 c2 c3 c4 c5 c6 c7 c8 hok hab hcd HO
  have hz := fun h => ends_zero (a := (ax, ay)) (b := (bx, by')) (c := (cx, cy)) (d := (dx, dy)) h
  have hs := fun h => ends_some (a := (ax, ay)) (b := (bx, by')) (c := (cx, cy)) (d := (dx, dy)) h
  generalize (endsE (ax, ay) (bx, by') (cx, cy) (dx, dy)).length = m at *
  have HZ := Lib.hid hz; have HS := Lib.hid hs
  clear hz hs
  rcases Nat.lt_or_ge m 1 with hm | hm
  · obtain rfl : m = 0 := by omega
    have HV := Lib.hid (HZ.out rfl)
    have c1 := t2.1.c0; have c2 := t2.1.c1; have c3 := t2.2.1.c0; have c4 := t2.2.1.c1; have c5 := t2.2.2.1.c0; have c6 := t2.2.2.1.c1; have c7 := t2.2.2.2.c0; have c8 := t2.2.2.2.c1
    clear hm
    go_wp2_with fail
    refine (H1.out _).mono ?_
    rintro e w3 ⟨rfl, hb3⟩
    have t3 := t2.step hb3
    have b3 := below_on b2 hb3
    clear hb3 t2 b2 c1 c2 c3 c4 c5 c6 c7 c8
    cases ho : opp (ax, ay) (bx, by') (cx, cy) (dx, dy)
    · go_wp2_with fail
      go_ret
      exact ⟨ret_int (by rw [HM.out, HV.out, ho]; rfl), b3⟩
    have c1 := t3.1.c0; have c2 := t3.1.c1; have c3 := t3.2.1.c0; have c4 := t3.2.1.c1; have c5 := t3.2.2.1.c0; have c6 := t3.2.2.1.c1; have c7 := t3.2.2.2.c0; have c8 := t3.2.2.2.c1
    go_wp2_with fail
    refine (H2.out _).mono ?_
    rintro e w4 ⟨rfl, hb4⟩
    have b4 := below_on b3 hb4
    clear hb4 t3 b3 c1 c2 c3 c4 c5 c6 c7 c8
    cases ho2 : opp (cx, cy) (dx, dy) (ax, ay) (bx, by')
    · go_wp2_with fail
      go_ret
      exact ⟨ret_int (by rw [HM.out, HV.out, ho, ho2]; rfl), b4⟩
    · go_wp2_with fail
      go_ret
      exact ⟨ret_int (by rw [HM.out, HV.out, ho, ho2]; rfl), b4⟩
  · have HV := Lib.hid (HS.out hm)
    by_cases h1 : m = 1
    · subst h1
      clear hm
      go_wp2_with fail
      go_ret
      exact ⟨ret_int (by rw [HM.out, HV.out]; rfl), b2⟩
    · have e0 : ((m : Int) == 0) = false := by simp; omega
      have e1 : ((m : Int) == 1) = false := by simp; omega
      have HV2 : Hid (meetI (ax, ay) (bx, by') (cx, cy) (dx, dy) = 3) := by
        show _ = _
        rw [HV.out, if_neg h1]
      clear hm h1
      go_wp2_with fail
      go_ret
      exact ⟨ret_int (by rw [HM.out, HV2.out]), b2⟩
end Go.Proofs.Ythoniopkeiifnaa

/-! Keep -/
namespace Go.Proofs.Ythoniopkeiifnaa
open Go.RowKit Go.Shelf Go.Sort
attribute [local go_sem] Oper.semAt_some

theorem ownFrom_keepP {β : Type} {m B M : Nat} {W0 : World} (hm : m ≤ W0.heap.size) (hB : B < W0.heap.size) (hM : W0.heap.size ≤ M) : OwnFrom M (fun (_ : β) W => KeepP m B W0 W) :=
  fun _ X Y row hs hg hr => by
    have hX : B < X.heap.size := Nat.lt_of_lt_of_le hB hs.1.size
    refine keepP_t hs ⟨(Below.refl m X).grown hg (Nat.le_trans hm hs.1.size) (fun k e => by have := (hr k e).1; omega), hg.block B hX (fun e => by have := (hr _ e.symm).1; omega)⟩
theorem boxed_side {W W' : World} {B : Nat} {L : List (Int × Int)} {i : Nat} (h : SideAt W B L i) (hb : Below W.heap.size W W') : SideAt W' B L i := (hb.block B h.lt).trans h
theorem boxed_same {W W' : World} {B : Nat} {t : TypeId} {v : Value} (h : Boxed W B t v) (hb : W'.heap[B]? = W.heap[B]?) : Boxed W' B t v := hb.trans h

/-- How the sides i < k of n have to meet. -/
def needI (i k n : Int) : Int := bif wrap64 (k - i) == 1 || wrap64 (k - i) == n - 1 then 1 else 0
theorem need_any (i k n : Int) (w : World) (hn : 0 ≤ n ∧ n ≤ 100) :
    Calls Try.prog 174 #[.int .i64 i, .int .i64 k, .int .i64 n] w fun e w' => e = .returned (.int .i64 (needI i k n)) ∧ w' = w := by
  obtain ⟨d, hd⟩ : ∃ d, d = wrap64 (k - i) := ⟨_, rfl⟩
  have HV : Hid (needI i k n = bif d == 1 || d == n - 1 then 1 else 0) := by
    show _ = _
    rw [hd]; rfl
  have hd2 : wrap64 (k - i) = d := hd.symm
  clear hd
  cases h1 : (d == 1)
  · cases h2 : (d == n - 1)
    all_goals
      rw [h1, h2] at HV
      go_enter Try.func174, Try.ntmps174
      go_wp2_with fail
      go_ret
      exact ⟨ret_int (by rw [HV.out]; rfl), rfl⟩
  · rw [h1] at HV
    go_enter Try.func174, Try.ntmps174
    go_wp2_with fail
    go_ret
    exact ⟨ret_int (by rw [HV.out]; rfl), rfl⟩

theorem need_below (i k n : Int) (w : World) (hn : 0 ≤ n ∧ n ≤ 100) :
    Calls Try.prog 174 #[.int .i64 i, .int .i64 k, .int .i64 n] w fun e w' => e = .returned (.int .i64 (needI i k n)) ∧ Below w.heap.size w w' :=
  (need_any i k n w hn).mono fun _ _ ⟨he, hw⟩ => ⟨he, by rw [hw]; exact Below.refl _ _⟩
theorem meet_pt (a b c d : Int × Int) (w : World) :
    Calls Try.prog 173 #[(.agg #[.int .i64 a.1, .int .i64 a.2]), (.agg #[.int .i64 b.1, .int .i64 b.2]), (.agg #[.int .i64 c.1, .int .i64 c.2]), (.agg #[.int .i64 d.1, .int .i64 d.2])] w fun e w' => e = .returned (.int .i64 (meetV a b c d)) ∧ Below w.heap.size w w' :=
  impl_meet a.1 a.2 b.1 b.2 c.1 c.2 d.1 d.2 w

theorem pts_of {w : World} {g : Nat} {L : List (Int × Int)} (h : PtsA w (some ⟨g, 0, none⟩) L) : Pts w g L := fun k hk => by
  have := gt_cells h hk
  rw [gt_at hk] at this
  exact this

def cellB (L : List (Int × Int)) (i k : Nat) : Bool := !(decide (i < k)) || (meetV (gt L i) (gt L (nx L i)) (gt L k) (gt L (nx L k)) == needI i k L.length)
def rowB (L : List (Int × Int)) (i : Nat) : Bool := (List.range L.length).all (cellB L i)
def keepB (L : List (Int × Int)) : Bool := (List.range L.length).all (rowB L)

set_option maxRecDepth 100000 in
set_option maxHeartbeats 8000000 in
theorem keep_any (A : Option Addr) (c : Nat) (L : List (Int × Int)) (w : World) (hA : PtsA w A L) (h1 : 1 ≤ L.length) (h2 : L.length ≤ 100) :
    Calls Try.prog 146 #[.slice A L.length c] w fun e w' => e = .returned (.bool (keepB L)) ∧ Below w.heap.size w w' := by
  refine (callsIn_wide (n := 9)).1 ?_
  refine callsIn_of_wp_marks Try.func146 rfl trivial ?_ rfl
  simp only [Try.ntmps146, List.size_toArray, List.length_cons, List.length_nil, Nat.reduceAdd, Nat.reduceSub, Array.replicate_succ, Array.replicate_zero, List.push_toArray, List.append_toArray, List.nil_append, List.cons_append]
  gi_wp2
  refine ⟨trivial, (wide0.calls (sides_any A L.length c _)).mono ?_⟩
  rintro e w2 ⟨rfl, rfl⟩
  gi_wp2
  have bP := ((Boxed.new w 34 (.slice A L.length c)).alloc (.cells #[.bool false] 4)).alloc (.cells #[.slice A L.length c] 34)
  have bR := (Boxed.new (w.alloc (.cells #[.slice A L.length c] 34)) 4 (.bool false)).alloc (.cells #[.slice A L.length c] 34)
  have bS := Boxed.new ((w.alloc (.cells #[.slice A L.length c] 34)).alloc (.cells #[.bool false] 4)) 34 (.slice A L.length c)
  simp only [World.size_alloc] at bR bS
  have hB0 : Below w.heap.size w (((w.alloc (.cells #[.slice A L.length c] 34)).alloc (.cells #[.bool false] 4)).alloc (.cells #[.slice A L.length c] 34)) := below3 _ _ _ _
  have hsz : (((w.alloc (.cells #[.slice A L.length c] 34)).alloc (.cells #[.bool false] 4)).alloc (.cells #[.slice A L.length c] 34)).heap.size = w.heap.size + 3 := by simp
  obtain ⟨W0, hW0⟩ : ∃ W0, ((w.alloc (.cells #[.slice A L.length c] 34)).alloc (.cells #[.bool false] 4)).alloc (.cells #[.slice A L.length c] 34) = W0 := ⟨_, rfl⟩
  rw [hW0] at bP bR bS hB0 hsz ⊢
  clear hW0
  refine wpIn_rangeFunc_ownH rfl (by decide) (gf := 153) (lb := #[.pointer (some ⟨w.heap.size + 1 + 1, 0, none⟩)]) rfl trivial (enters_of Try.func153 (by kernel_rfl) rfl)
    (sides_stops 8 (w.heap.size + 1 + 1) A c L w W0 (by omega) (by omega) hA hB0 (by omega) bS.cell) keepP_t (keepP_b (by omega) (by omega)) (Below.refl _ _) (fun _ => rfl)
    (fun pre W => ((((∀ i ∈ pre, rowB L i = true) ∧ Boxed W (w.heap.size + 1) 4 (.bool false)) ∧ Boxed W w.heap.size 34 (.slice A L.length c)) ∧ Boxed W (w.heap.size + 1 + 1) 34 (.slice A L.length c)) ∧ Below w.heap.size w W)
    (fun co pre W => ((co = .ret ∧ ∃ i ∈ pre, rowB L i = false) ∧ Boxed W (w.heap.size + 1) 4 (.bool false)) ∧ Below w.heap.size w W)
    (OwnFrom.and (OwnFrom.and (OwnFrom.and (OwnFrom.and (ownFrom_pure _ _) (Own.from (boxed_own _ _ _) _)) (Own.from (boxed_own _ _ _) _)) (Own.from (boxed_own _ _ _) _)) (ownFrom_below (Nat.le_refl _) (by omega)))
    (fun co => OwnFrom.and (OwnFrom.and (ownFrom_pure _ _) (Own.from (boxed_own _ _ _) _)) (ownFrom_below (Nat.le_refl _) (by omega)))
    ⟨⟨⟨⟨by simp, bR⟩, bP⟩, bS⟩, hB0⟩
    (fun x a' W => ∃ Bi Bs, (w.heap.size + 1 + 1 < Bi ∧ Bi < Bs) ∧ Boxed W Bi 3 (.int .i64 (x : Int)) ∧ SideAt W Bs L x ∧ a' = { tmps := #[.slice A L.length c, .pointer (some ⟨w.heap.size, 0, none⟩), .pointer (some ⟨w.heap.size + 1, 0, none⟩), .pointer (some ⟨Bi, 0, none⟩), .pointer (some ⟨Bs, 0, none⟩), undef, undef, .slice A L.length c, .func (.func 153) #[] #[.pointer (some ⟨w.heap.size + 1 + 1, 0, none⟩)], .int .i64 (x : Int), .agg #[.int .i64 (gt L x).1, .int .i64 (gt L x).2, .int .i64 (gt L (nx L x)).1, .int .i64 (gt L (nx L x)).2], undef, undef, undef, undef, undef, undef, undef, undef, undef, undef, undef, undef, undef, undef, undef, undef, undef, undef, undef, undef, undef, undef, undef, undef], defers := [] })
    (fun x a' _ X Y row hs hg hr => by obtain ⟨Bi, Bs, e1, e2, e3, e4⟩ := hs; exact ⟨Bi, Bs, e1, boxed_own Bi 3 (fun (_ : Unit) => Value.int .i64 (x : Int)) () X Y row e2 hg (fun r e => (hr r e).2), sideAt_own Bs L x _ () X Y row e3 hg hr, e4⟩)
    ?assign ?body ?done ?stop
  case assign =>
    rintro l pre x W K ⟨⟨⟨⟨hp, bR1⟩, bP1⟩, bS1⟩, hB1⟩ hK
    simp only [sideV]
    gi_wp2
    have hs2 := hB1.size
    have hb2 := below2 W (.cells #[.int .i64 (x : Int)] 3) (.cells #[.int .i64 (gt L x).1, .int .i64 (gt L x).2, .int .i64 (gt L (nx L x)).1, .int .i64 (gt L (nx L x)).2] 99)
    exact hK _ _ (keepsFrom_below hb2) (KeepP.of_below hb2 hs2 bS1.lt) ⟨⟨⟨⟨hp, boxed_on bR1 hb2⟩, boxed_on bP1 hb2⟩, boxed_on bS1 hb2⟩, hB1.trans (hb2.mono hs2)⟩
      ⟨W.heap.size, W.heap.size + 1, ⟨bS1.lt, by omega⟩, (Boxed.new W 3 _).alloc _, by have := sideAt_new (W.alloc (.cells #[.int .i64 (x : Int)] 3)) L x; rwa [World.size_alloc] at this, rfl⟩
  case body =>
    rintro l pre x a' W hl ⟨r, hr⟩ ⟨⟨⟨⟨hp, bR1⟩, bP1⟩, bS1⟩, hB1⟩ ⟨Bi, Bs, ⟨hBi, hBs⟩, bI, sX, rfl⟩ hlt
    have cP := bP1.cell
    gi_wp2
    refine ⟨trivial, ((wideR l).calls (sides_any A L.length c _)).mono ?_⟩
    rintro e w' ⟨rfl, rfl⟩
    gi_wp2
    have hsW := hB1.size
    have bN := Boxed.new W 34 (.slice A L.length c)
    have hr' : (W.alloc (.cells #[.slice A L.length c] 34)).heap[l]? = some (.loop r) := (Below.heap_alloc W _ l (Array.getElem?_eq_some_iff.1 hr).1).trans hr
    have hS1 := bS1.lt
    have hW1 := below1 W (.cells #[.slice A L.length c] 34)
    refine wpIn_rangeFunc_ownN (l₀ := l) (r₀ := r) rfl hr' (by decide) (gf := 153) (lb := #[.pointer (some ⟨W.heap.size, 0, none⟩)]) rfl trivial (enters_of Try.func153 (by kernel_rfl) rfl)
      ((sides_stops 6 W.heap.size A c L w _ (by omega) (by omega) hA (hB1.trans (hW1.mono hsW)) (by simp) bN.cell).inRound l) keepP_t (keepP_b (by simp; omega) (by simp)) (Below.refl _ _) (fun _ => rfl)
      (fun pre' W' => (((((∀ k ∈ pre', cellB L x k = true) ∧ Boxed W' (w.heap.size + 1) 4 (.bool false)) ∧ Boxed W' w.heap.size 34 (.slice A L.length c)) ∧ Boxed W' Bi 3 (.int .i64 (x : Int))) ∧ (Boxed W' W.heap.size 34 (.slice A L.length c) ∧ SideAt W' Bs L x)) ∧ (KeepP w.heap.size (w.heap.size + 1 + 1) W W' ∧ KeepsFrom W0.heap.size W W'))
      (fun co pre' W' => ((co = .ret ∧ ∃ k ∈ pre', cellB L x k = false) ∧ Boxed W' (w.heap.size + 1) 4 (.bool false)) ∧ (KeepP w.heap.size (w.heap.size + 1 + 1) W W' ∧ KeepsFrom W0.heap.size W W'))
      (OwnFrom.and (OwnFrom.and (OwnFrom.and (OwnFrom.and (OwnFrom.and (ownFrom_pure _ _) (Own.from (boxed_own _ _ _) _)) (Own.from (boxed_own _ _ _) _)) (Own.from (boxed_own _ _ _) _)) (OwnFrom.and (Own.from (boxed_own _ _ _) _) (fun s X Y row hs hg hr => sideAt_own Bs L x _ () X Y row hs hg hr))) (OwnFrom.and (ownFrom_keepP hsW hS1 (by simp)) (ownFrom_keepsFrom (by simp))))
      (fun co => OwnFrom.and (OwnFrom.and (ownFrom_pure _ _) (Own.from (boxed_own _ _ _) _)) (OwnFrom.and (ownFrom_keepP hsW hS1 (by simp)) (ownFrom_keepsFrom (by simp))))
      ⟨⟨⟨⟨⟨by simp, bR1.alloc _⟩, bP1.alloc _⟩, bI.alloc _⟩, bN, boxed_side sX hW1⟩, KeepP.of_below hW1 hsW hS1, keepsFrom_below hW1⟩
      (fun y a'' W' => ∃ Bt, W.heap.size < Bt ∧ SideAt W' Bt L y ∧ a'' = { tmps := #[.slice A L.length c, .pointer (some ⟨w.heap.size, 0, none⟩), .pointer (some ⟨w.heap.size + 1, 0, none⟩), .pointer (some ⟨Bi, 0, none⟩), .pointer (some ⟨Bs, 0, none⟩), .int .i64 (y : Int), .pointer (some ⟨Bt, 0, none⟩), .slice A L.length c, .func (.func 153) #[] #[.pointer (some ⟨w.heap.size + 1 + 1, 0, none⟩)], .int .i64 (x : Int), .agg #[.int .i64 (gt L x).1, .int .i64 (gt L x).2, .int .i64 (gt L (nx L x)).1, .int .i64 (gt L (nx L x)).2], .slice A L.length c, .func (.func 153) #[] #[.pointer (some ⟨W.heap.size, 0, none⟩)], .int .i64 (y : Int), .agg #[.int .i64 (gt L y).1, .int .i64 (gt L y).2, .int .i64 (gt L (nx L y)).1, .int .i64 (gt L (nx L y)).2], undef, undef, undef, undef, undef, undef, undef, undef, undef, undef, undef, undef, undef, undef, undef, undef, undef, undef, undef, undef], defers := [] })
      (fun y a'' _ X Y row hs hg hr => by obtain ⟨Bt, e1, e2, e3⟩ := hs; exact ⟨Bt, e1, sideAt_own Bt L y _ () X Y row e2 hg hr, e3⟩)
      ?assign2 ?body2 ?done2 ?stop2
    case assign2 =>
      rintro l2 pre' y W' K ⟨⟨⟨⟨⟨hq, bR2⟩, bP2⟩, bI2⟩, bN2, sX2⟩, hKP, hKF⟩ hK
      simp only [sideV]
      gi_wp2
      have hb2 := below1 W' (.cells #[.int .i64 (gt L y).1, .int .i64 (gt L y).2, .int .i64 (gt L (nx L y)).1, .int .i64 (gt L (nx L y)).2] 99)
      have hs2 := hKP.1.size
      exact hK _ _ (keepsFrom_below hb2) (KeepP.of_below hb2 (by omega) bN2.lt) ⟨⟨⟨⟨⟨hq, bR2.alloc _⟩, bP2.alloc _⟩, bI2.alloc _⟩, bN2.alloc _, boxed_side sX2 hb2⟩, keepP_t hKP (KeepP.of_below hb2 (by omega) (by omega)), hKF.trans (keepsFrom_below hb2)⟩
        ⟨W'.heap.size, bN2.lt, sideAt_new W' L y, rfl⟩
    case body2 =>
      rintro l2 pre' y a'' W' - - ⟨⟨⟨⟨⟨hq, bR2⟩, bP2⟩, bI2⟩, bN2, sX2⟩, hKP, hKF⟩ ⟨Bt, hBt, sY2, rfl⟩ -
      have cR := bR2.cell
      have fR := bR2.frozen
      have cI := bI2.cell
      have cP2 := bP2.cell
      obtain ⟨x0, x1, x2, x3⟩ := sX2.cells
      obtain ⟨y0, y1, y2, y3⟩ := sY2.cells
      have HC : Hid (cellB L x y = (!(decide (x < y)) || (meetV (gt L x) (gt L (nx L x)) (gt L y) (gt L (nx L y)) == needI x y L.length))) := rfl
      obtain ⟨mv, hmv⟩ : ∃ mv, mv = meetV (gt L x) (gt L (nx L x)) (gt L y) (gt L (nx L y)) := ⟨_, rfl⟩
      obtain ⟨nv, hnv⟩ : ∃ nv, nv = needI x y L.length := ⟨_, rfl⟩
      have HM := Lib.hid (fun W => meet_pt (gt L x) (gt L (nx L x)) (gt L y) (gt L (nx L y)) W)
      have HN := Lib.hid (fun W => need_below (x : Int) (y : Int) (L.length : Int) W (by omega))
      rw [← hmv] at HC HM
      rw [← hnv] at HC HN
      clear hmv hnv
      have k0 := cell_regrown x0; have k1 := cell_regrown x1; have k2 := cell_regrown x2; have k3 := cell_regrown x3
      have k4 := cell_regrown y0; have k5 := cell_regrown y1; have k6 := cell_regrown y2; have k7 := cell_regrown y3
      have k8 := cell_regrown cI; have k9 := cell_regrown cP2
      by_cases hxy : x < y
      · have dxy : decide ((x : Int) < (y : Int)) = true := by simpa using hxy
        rw [decide_eq_true hxy, Bool.not_true, Bool.false_or] at HC
        by_cases hmn : mv = nv
        · subst hmn
          have HT : Hid (cellB L x y = true) := by
            show _ = _
            rw [HC.out]; simp
          clear HC
          gi_wp2
          refine region_quiet_in (wideR l2) (by kernel_rfl) (by kernel_rfl) (by kernel_rfl) ?_
          repeat (first
            | go_big_quiet_step (first | exact Calls.regrown_of (HM.out _) | exact Calls.regrown_of (HN.out _))
            | quiet_step (first | exact Calls.regrown_of (HM.out _) | exact Calls.regrown_of (HN.out _)))
          refine wpQuiet_nil ?_
          rintro _ ⟨⟨dq, osq⟩, rfl⟩
          have hg := below_regrown W' dq osq
          have hs2 := hKP.1.size
          clear k0 k1 k2 k3 k4 k5 k6 k7 k8 k9
          generalize grow (redrawn W' dq) osq = W2 at *
          gi_wp2
          exact ⟨keepsFrom_below hg, KeepP.of_below hg (by omega) bN2.lt, ⟨⟨⟨⟨fun z hz => (List.mem_append.1 hz).elim (hq z) (fun e => by simp at e; subst e; exact HT.out), boxed_on bR2 hg⟩, boxed_on bP2 hg⟩, boxed_on bI2 hg⟩, boxed_on bN2 hg, boxed_side sX2 hg⟩,
            keepP_t hKP (KeepP.of_below hg (by omega) (by omega)), hKF.trans (keepsFrom_below hg)⟩
        · have HT : Hid (cellB L x y = false) := by
            show _ = _
            rw [HC.out]; simpa using hmn
          have dmn : (mv != nv) = true := by simpa using hmn
          clear HC
          gi_wp2
          refine region_quiet_in (wideR l2) (by kernel_rfl) (by kernel_rfl) (by kernel_rfl) ?_
          repeat (first
            | go_big_quiet_step (first | exact Calls.regrown_of (HM.out _) | exact Calls.regrown_of (HN.out _))
            | quiet_step (first | exact Calls.regrown_of (HM.out _) | exact Calls.regrown_of (HN.out _)))
          refine wpQuiet_nil ?_
          rintro _ ⟨⟨dq, osq⟩, rfl⟩
          have hg := below_regrown W' dq osq
          have hs2 := hKP.1.size
          clear k0 k1 k2 k3 k4 k5 k6 k7 k8 k9
          have bR3 := boxed_on bR2 hg
          generalize grow (redrawn W' dq) osq = W2 at *
          have cR3 := bR3.cell
          have fR3 := bR3.frozen
          gi_wp2
          exact ⟨(keepsFrom_below hg).trans ((KeepsOthers.setCell _ _ _).from _), ⟨⟨rfl, y, List.mem_append.2 (.inr (by simp)), HT.out⟩, bR3.set _⟩,
            keepP_t hKP ((KeepP.of_below hg (by omega) (by omega)).setCell (by omega) (by omega) _ _), hKF.trans ((keepsFrom_below hg).trans ((KeepsOthers.setCell _ _ _).from _))⟩
      · have dxy : decide ((x : Int) < (y : Int)) = false := by simpa using hxy
        have HT : Hid (cellB L x y = true) := by
          show _ = _
          rw [HC.out, decide_eq_false hxy]; rfl
        clear HC
        gi_wp2
        refine region_quiet_in (wideR l2) (by kernel_rfl) (by kernel_rfl) (by kernel_rfl) ?_
        repeat (first
          | go_big_quiet_step (first | exact Calls.regrown_of (HM.out _) | exact Calls.regrown_of (HN.out _))
          | quiet_step (first | exact Calls.regrown_of (HM.out _) | exact Calls.regrown_of (HN.out _)))
        refine wpQuiet_nil ?_
        rintro _ ⟨⟨dq, osq⟩, rfl⟩
        have hg := below_regrown W' dq osq
        have hs2 := hKP.1.size
        clear k0 k1 k2 k3 k4 k5 k6 k7 k8 k9
        generalize grow (redrawn W' dq) osq = W2 at *
        gi_wp2
        exact ⟨keepsFrom_below hg, KeepP.of_below hg (by omega) bN2.lt, ⟨⟨⟨⟨fun z hz => (List.mem_append.1 hz).elim (hq z) (fun e => by simp at e; subst e; exact HT.out), boxed_on bR2 hg⟩, boxed_on bP2 hg⟩, boxed_on bI2 hg⟩, boxed_on bN2 hg, boxed_side sX2 hg⟩,
          keepP_t hKP (KeepP.of_below hg (by omega) (by omega)), hKF.trans (keepsFrom_below hg)⟩
    case done2 =>
      rintro ys' W' rfl ⟨⟨⟨⟨⟨hq, bR2⟩, bP2⟩, bI2⟩, bN2, sX2⟩, hKP, hKF⟩
      gi_wp2
      have hrow : rowB L x = true := by
        simp only [rowB, List.all_eq_true]
        exact hq
      exact ⟨hKF, hKP, ⟨⟨⟨⟨fun z hz => (List.mem_append.1 hz).elim (hp z) (fun e => by simp at e; subst e; exact hrow), bR2⟩, bP2⟩, boxed_same bS1 hKP.2⟩, hB1.trans hKP.1⟩⟩
    case stop2 =>
      rintro co pre' W' ⟨k, hk, rfl⟩ ⟨⟨⟨rfl, j, hj, hjb⟩, bR2⟩, hKP, hKF⟩
      gi_wp2
      have hrow : rowB L x = false := by
        simp only [rowB, List.all_eq_false]
        exact ⟨j, by simp only [List.mem_range] at hj ⊢; omega, by rw [hjb]; exact Bool.false_ne_true⟩
      exact ⟨hKF, ⟨⟨rfl, x, List.mem_append.2 (.inr (by simp)), hrow⟩, bR2⟩, hB1.trans hKP.1⟩
  case done =>
    rintro D zs W hD rfl ⟨⟨⟨⟨hp, bR1⟩, bP1⟩, bS1⟩, hB1⟩ hK
    have cR := bR1.cell
    have fR := bR1.frozen
    gi_wp2
    have hK' := (KeepsOthers.setCell W ⟨w.heap.size + 1, 0, none⟩ (.bool true)).same D _ hK rfl
    refine ⟨by simp, .inl ⟨_, _, rfl, run_takeDeferred hK', ?_⟩⟩
    have hc5 := cell_kept (bR1.set (.bool true)).cell (grownBy_putObj' _ D (.deferred none)) (fun r e => by cases e; exact ⟨_, hK', rfl⟩)
    have hkeep : keepB L = true := by
      simp only [keepB, List.all_eq_true]
      exact hp
    refine ⟨.bool true, ?_, by rw [hkeep], (hB1.setCell (p := ⟨w.heap.size + 1, 0, none⟩) (by simp) _).trans (belowK_b (w := w) (Nat.le_refl _) _ D _ _ (by omega) hK' rfl rfl)⟩
    simp [results, Try.f146, go_sem, hc5]
  case stop =>
    rintro D co pre W hD ⟨k, hk, rfl⟩ ⟨⟨⟨rfl, j, hj, hjb⟩, bR1⟩, hB1⟩ hK
    gi_wp2
    refine ⟨by simp, .inl ⟨_, _, rfl, run_takeDeferred hK, ?_⟩⟩
    have hc5 := cell_kept bR1.cell (grownBy_putObj' _ D (.deferred none)) (fun r e => by cases e; exact ⟨_, hK, rfl⟩)
    have hkeep : keepB L = false := by
      simp only [keepB, List.all_eq_false]
      exact ⟨j, by simp only [List.mem_range] at hj ⊢; omega, by rw [hjb]; exact Bool.false_ne_true⟩
    refine ⟨.bool false, ?_, by rw [hkeep], hB1.trans (belowK_b (w := w) (Nat.le_refl _) _ D _ _ (by omega) hK rfl rfl)⟩
    simp [results, Try.f146, go_sem, hc5]

theorem need_adj {i k n : Nat} (h1 : i < k) (h2 : k < n) (hn : n ≤ 100) : needI i k n = bif adjB n i k then 1 else 0 := by
  have e : wrap64 ((k : Int) - i) = (k : Int) - i := IntWalk.wrap64_in _ (by omega)
  have e1 : ((k : Int) - i == 1 || (k : Int) - i == n - 1) = adjB n i k := by
    rw [Bool.eq_iff_iff]
    simp only [adjB, Bool.or_eq_true, Bool.and_eq_true, beq_iff_eq]
    omega
  rw [needI, e, e1]
theorem meetV_ok {L : List (Int × Int)} (hok : allOk L = true) (i k : Nat) :
    meetV (gt L i) (gt L (nx L i)) (gt L k) (gt L (nx L k)) = bif !(eqQ (gt L i) (gt L (nx L i))) && !(eqQ (gt L k) (gt L (nx L k))) then pairM L i k else 0 := by
  have h := fun j => gt_ok hok j
  unfold meetV okQ
  rw [h i, h (nx L i), h k, h (nx L k)]
  rfl
theorem keep_eq {L : List (Int × Int)} (hin : inB (L.length : Int) 3 10 = true) (hok : allOk L = true) : keepB L = (nbB L && pairsB L) := by
  have hn := inB_spec.1 hin
  rw [Bool.eq_iff_iff]
  simp only [Bool.and_eq_true]
  constructor
  · intro hk
    have hc : ∀ i k, i < k → k < L.length → meetV (gt L i) (gt L (nx L i)) (gt L k) (gt L (nx L k)) = bif adjB L.length i k then 1 else 0 := fun i k h1 h2 => by
      have h3 := List.all_eq_true.1 hk i (List.mem_range.2 (by omega))
      have h4 := List.all_eq_true.1 h3 k (List.mem_range.2 h2)
      unfold cellB at h4
      rw [decide_eq_true h1, Bool.not_true, Bool.false_or, beq_iff_eq, need_adj h1 h2 (by omega)] at h4
      exact h4
    have hnb : ∀ i, i < L.length → eqQ (gt L i) (gt L (nx L i)) = false := fun i hi => by
      cases he : eqQ (gt L i) (gt L (nx L i))
      · rfl
      · rcases Nat.lt_or_ge (i + 1) L.length with h | h
        · have := hc i (i + 1) (by omega) h
          rw [meetV_ok hok, he] at this
          simp [adjB] at this
        · have h0 : i = L.length - 1 := by omega
          have := hc 0 i (by omega) hi
          rw [meetV_ok hok, he] at this
          simp [adjB, h0] at this
    refine ⟨nb_true hnb, pairs_true fun i hi k hik hk => ?_⟩
    have := hc i k hik hk
    rw [meetV_ok hok, hnb i hi, hnb k hk] at this
    simp only [Bool.not_false, Bool.and_self, cond_true] at this
    unfold pairOk
    rw [this]
    cases adjB L.length i k <;> rfl
  · rintro ⟨h1, h2⟩
    have hnb : ∀ i, i < L.length → eqQ (gt L i) (gt L (nx L i)) = false := fun i hi => by
      have := List.all_eq_true.1 h1 i (List.mem_range.2 hi)
      show eqQ (gt L i) (gt L ((i + 1) % L.length)) = false
      simpa using this
    simp only [keepB, List.all_eq_true, List.mem_range]
    intro i hi
    simp only [rowB, List.all_eq_true, List.mem_range]
    intro k hk
    unfold cellB
    by_cases hik : i < k
    · rw [decide_eq_true hik, Bool.not_true, Bool.false_or, beq_iff_eq, need_adj hik hk (by omega), meetV_ok hok, hnb i hi, hnb k hk]
      simp only [Bool.not_false, Bool.and_self, cond_true]
      have h3 := List.all_eq_true.1 (List.all_eq_true.1 h2 i (List.mem_range.2 hi)) k (List.mem_range.2 hk)
      simp only [Bool.or_eq_true, decide_eq_true_eq] at h3
      rcases h3 with h3 | h3
      · omega
      · unfold pairOk at h3
        cases ha : adjB L.length i k
        · rw [ha] at h3; simpa using h3
        · rw [ha] at h3; simpa using h3
    · rw [decide_eq_false hik]; rfl

set_option maxRecDepth 100000 in
set_option maxHeartbeats 800000 in
theorem impl_poly (A : Option Addr) (c : Nat) (L : List (Int × Int)) (w : World) (hA : PtsA w A L) (hL : L.length ≤ 1048576) :
    Calls Try.prog 96 #[.slice A L.length c] w fun e w' => e = .returned (.bool (polyB L)) ∧ Below w.heap.size w w' := by
  cases hin : inB (L.length : Int) 3 10
  · have HV : Hid (polyB L = false) := by
      show _ = _
      rw [polyB, hin]; rfl
    go_enter Try.func96, Try.ntmps96
    go_wp2_with fail
    refine (from_any _ _ _ _).mono ?_
    rintro e w1 ⟨rfl, rfl⟩
    go_wp2_with fail
    go_ret
    exact ⟨ret_bool HV.out.symm, Below.refl _ _⟩
  have hn := inB_spec.1 hin
  obtain ⟨g, rfl, -⟩ := hA 0 (by omega)
  have hg : g < w.heap.size := by
    obtain ⟨g', hg', h1, -⟩ := hA 0 (by omega)
    cases hg'
    exact World.block_lt_of_cell? w _ h1
  have HP := Lib.hid (fun (W : World) (hb : Below w.heap.size w W) => all_any g c L W (pts_of (ptsA_on hA hb)) (Nat.lt_of_lt_of_le hg hb.size) hL)
  have HK := Lib.hid (fun (W : World) (hb : Below w.heap.size w W) => keep_any (some ⟨g, 0, none⟩) c L W (ptsA_on hA hb) (by omega) (by omega))
  cases hok : allOk L
  · have HV : Hid (polyB L = false) := by
      show _ = _
      rw [polyB, hin, hok]; rfl
    rw [hok] at HP
    clear hA HK
    go_enter Try.func96, Try.ntmps96
    go_wp2_with fail
    refine (from_any _ _ _ _).mono ?_
    rintro e w1 ⟨rfl, rfl⟩
    go_wp2_with fail
    refine (HP.out _ (Below.refl _ _)).mono ?_
    rintro e w2 ⟨rfl, hb2⟩
    go_wp2_with fail
    go_ret
    exact ⟨ret_bool HV.out.symm, hb2⟩
  · have HV : Hid (polyB L = keepB L) := by
      show _ = _
      rw [keep_eq hin hok, polyB, hin, hok]
      simp only [Bool.true_and]
    rw [hok] at HP
    clear hA
    go_enter Try.func96, Try.ntmps96
    go_wp2_with fail
    refine (from_any _ _ _ _).mono ?_
    rintro e w1 ⟨rfl, rfl⟩
    go_wp2_with fail
    refine (HP.out _ (Below.refl _ _)).mono ?_
    rintro e w2 ⟨rfl, hb2⟩
    go_wp2_with fail
    refine (HK.out _ hb2).mono ?_
    rintro e w3 ⟨rfl, hb3⟩
    go_wp2_with fail
    go_ret
    exact ⟨ret_bool HV.out.symm, hb2.trans (hb3.mono hb2.size)⟩
end Go.Proofs.Ythoniopkeiifnaa

/-! Rim -/
namespace Go.Proofs.Ythoniopkeiifnaa
open Go.RowKit

def onRim (L : List (Int × Int)) (p : Int × Int) : Bool := (List.range L.length).any fun i => onP (gt L i) (gt L (nx L i)) p
theorem onRim_true {L : List (Int × Int)} {p : Int × Int} {i : Nat} (hi : i < L.length) (h : onP (gt L i) (gt L (nx L i)) p = true) : onRim L p = true := by
  simp only [onRim, List.any_eq_true, List.mem_range]
  exact ⟨i, hi, h⟩
theorem onRim_false {L : List (Int × Int)} {p : Int × Int} (h : ∀ i, i < L.length → onP (gt L i) (gt L (nx L i)) p = false) : onRim L p = false := by
  cases hb : onRim L p
  · rfl
  · simp only [onRim, List.any_eq_true, List.mem_range] at hb
    obtain ⟨i, hi, h2⟩ := hb
    rw [h i hi] at h2; cases h2
/-- Does the side from corner i on flip what is inside at p? -/
def flipT (L : List (Int × Int)) (p : Int × Int) (i : Nat) : Bool :=
  (decide (p.2 < (gt L i).2) != decide (p.2 < (gt L (nx L i)).2)) && ((decide ((gt L i).2 < (gt L (nx L i)).2) && decide (0 < crossP (gt L i) (gt L (nx L i)) p)) || (decide ((gt L (nx L i)).2 < (gt L i).2) && decide (crossP (gt L i) (gt L (nx L i)) p < 0)))
def insT (f : Nat → Bool) : Nat → Bool
  | 0 => false
  | k + 1 => bif f k then !(insT f k) else insT f k
def insideB (L : List (Int × Int)) (p : Int × Int) : Bool := onRim L p || insT (flipT L p) L.length
end Go.Proofs.Ythoniopkeiifnaa

/-! Turn -/
namespace Go.Proofs.Ythoniopkeiifnaa
open Go.RowKit

/-- The first corner and then m of the others, from the last one back. -/
def turnTill (L : List (Int × Int)) (m : Nat) : List (Int × Int) := gt L 0 :: (List.range m).map fun (j : Nat) => gt L (L.length - 1 - j)
def turnL (L : List (Int × Int)) : List (Int × Int) := turnTill L (L.length - 1)
theorem turn_step (L : List (Int × Int)) (m : Nat) : turnTill L (m + 1) = turnTill L m ++ [gt L (L.length - 1 - m)] := by
  simp [turnTill, List.range_succ]
theorem turn_len (L : List (Int × Int)) (m : Nat) : (turnTill L m).length = m + 1 := by simp [turnTill]
def turnV (L : List (Int × Int)) : List (Int × Int) := bif polyB L then turnL L else []
/-- A function that hands back a new list of points. -/
def Lists (w : World) (M : List (Int × Int)) (e : Ending) (w' : World) : Prop := ∃ v, e = .returned v ∧ w'.ownsRow w.heap.size 45 2 v M.length (flat M) ∧ Below w.heap.size w w'
set_option maxRecDepth 100000 in
set_option maxHeartbeats 2000000 in
theorem turn_any (A : Option Addr) (c : Nat) (L : List (Int × Int)) (w : World) (hA : PtsA w A L) (h1 : 1 ≤ L.length) (h2 : L.length ≤ 1000) :
    Calls Try.prog 134 #[.slice A L.length c] w (Lists w (turnL L)) := by
  obtain ⟨g, rfl, -⟩ := hA 0 h1
  obtain ⟨c1, c2⟩ := gt_cells hA h1
  simp only [Nat.zero_mul, Nat.zero_add] at c1 c2
  have HA := Lib.hid hA; clear hA
  obtain ⟨i0, hi0, hz0, hz1, hz2⟩ := info_parts infoPt
  have own0 := World.ownsRow_lit (base := w.heap.size) (e := 45) (size := 2) w #[.int .i64 (gt L 0).1, .int .i64 (gt L 0).2] 1 (Nat.le_refl _) (by decide) rfl
  have b0 := below1 w (.cells #[.int .i64 (gt L 0).1, .int .i64 (gt L 0).2] 45)
  have hM0 : Hid ([((gt L 0).1, (gt L 0).2)] = turnTill L 0) := rfl
  generalize (gt L 0).1 = x0 at *
  generalize (gt L 0).2 = y0 at *
  have f1 : wrap64 ((L.length : Int) - 1) = ((L.length - 1 : Nat) : Int) := by rw [IntWalk.wrap64_in _ (by omega)]; omega
  have f2 : (L.length : Int) - 1 = ((L.length - 1 : Nat) : Int) := by omega
  go_enter Try.func134, Try.ntmps134
  go_wp2_with fail
  clear c1 c2 f1 f2
  go_loopw [3, 4] (fun s i wr => ∃ (q g5 cap : Nat) (M : List (Int × Int)), q ≤ L.length - 1 ∧ i = .int .i64 q ∧ s = .slice (some ⟨g5, 0, none⟩) M.length cap ∧ Hid (M = turnTill L (L.length - 1 - q)) ∧ wr.ownsRow w.heap.size 45 2 (.slice (some ⟨g5, 0, none⟩) M.length cap) M.length (flat M) ∧ Below w.heap.size w wr) (fun _ i _ => (intOf i).toNat)
  case atStart => exact ⟨L.length - 1, w.heap.size, 1, [(x0, y0)], Nat.le_refl _, by first | rfl | go_num, rfl, by rw [Nat.sub_self]; exact hM0, own0, b0⟩
  case round =>
    obtain ⟨wo, rfl⟩ : ∃ wo : World, wo = wr := ⟨_, rfl⟩
    clear own0 b0
    obtain ⟨q, g5, cap, M, hq, rfl, rfl, HM, hown, hb⟩ := hrel
    by_cases hlt : 0 < q
    · obtain ⟨c1, c2⟩ := gt_cells (ptsA_on HA.out hb) (i := q) (by omega)
      have hML : M.length ≤ 1000 := by rw [HM.out, turn_len]; omega
      have HM2 : Hid (M ++ [((gt L q).1, (gt L q).2)] = turnTill L (L.length - 1 - (q - 1))) := by
        show _ = _
        have e1 : L.length - 1 - (q - 1) = (L.length - 1 - q) + 1 := by omega
        have e2 : L.length - 1 - (L.length - 1 - q) = q := by omega
        rw [e1, turn_step, e2, HM.out]
      clear HM
      generalize (gt L q).1 = x at *
      generalize (gt L q).2 = y at *
      have hp1 : (q : Int) < (L.length : Int) := by omega
      have hsz := hb.size
      have f3 : wrap64 ((q : Int) - 1) = ((q - 1 : Nat) : Int) := by rw [IntWalk.wrap64_in _ (by omega)]; omega
      have f4 : (q : Int) - 1 = ((q - 1 : Nat) : Int) := by omega
      go_wp2_with (at_builtin; refine wpList_append_lies _ rfl _ _ 34 rfl w.heap.size 45 i0 (.agg #[.int .i64 0, .int .i64 0]) 2 16 Try.underlying34 hi0 hz0 hz1 hz2 rfl (by decide) _ _ _ rfl (hown.alloc _) ⟨wo.heap.size, 0, none⟩ 1 1 [.int .i64 x, .int .i64 y] rfl rfl ?d1 ?d2 (by omega) ?d3 ?d4 ?d5 (wo.heap.size + 1) (by simp) ?_)
      case d1 => exact World.news_of_block (cs := #[.int .i64 x, .int .i64 y]) (t := 45) (fr := (0, 0)) (heap_alloc_new wo _)
      case d2 => simp [Value.oneCell']
      case d3 => unfold maxLen; omega
      case d4 => omega
      case d5 => simp; omega
      intro g6 cp6 w6 own6 hgrow _ _
      have hr := fun k hk => (hown.lt k hk).1
      have HN : Hid ((M ++ [(x, y)]).length = M.length + 1) := by simp [Hid]
      have R : Hid (w6.ownsRow w.heap.size 45 2 (.slice (some ⟨g6, 0, none⟩) (M ++ [(x, y)]).length cp6) (M ++ [(x, y)]).length (flat (M ++ [(x, y)])) ∧ Below w.heap.size w w6) :=
        ⟨by rw [flat_append, HN.out]; exact own6, (hb.alloc hb.size _).grown hgrow (by simp; omega) hr⟩
      clear hown own6 hgrow hb c1 c2
      go_wp2_with fail
      first
        | exact ⟨⟨q - 1, g6, cp6, M ++ [(x, y)], by omega, by first | rfl | go_num, by rw [HN.out], HM2, R.out.1, R.out.2⟩, by simp [intOf]; omega⟩
        | (go_roundw
           case rel => exact ⟨q - 1, g6, cp6, M ++ [(x, y)], by omega, by first | rfl | go_num, by rw [HN.out], HM2, R.out.1, R.out.2⟩
           case measure => simp [intOf]; omega)
    · have HQ : Hid (M = turnL L) := by
        show _ = _
        rw [HM.out, show q = 0 from by omega]; rfl
      have R := Lib.hid hown
      clear hown HM
      go_wp2_with fail
      go_ret
      exact ⟨_, rfl, by rw [← HQ.out]; exact R.out, hb⟩
end Go.Proofs.Ythoniopkeiifnaa

/-! In -/
namespace Go.Proofs.Ythoniopkeiifnaa
open Go.RowKit

def insideV (L : List (Int × Int)) (p : Int × Int) : Bool := polyB L && okQ p && insideB L p
/-- The corner before. -/
def pv (L : List (Int × Int)) (i : Nat) : Nat := (i + L.length - 1) % L.length
def bentB (L : List (Int × Int)) (i : Nat) : Bool := !(crossP (gt L (pv L i)) (gt L i) (gt L (nx L i)) == 0)
def straightTill (L : List (Int × Int)) : Nat → List (Int × Int)
  | 0 => []
  | k + 1 => bif bentB L k then straightTill L k ++ [gt L k] else straightTill L k
def straightL (L : List (Int × Int)) : List (Int × Int) := straightTill L L.length
theorem straight_len (L : List (Int × Int)) : ∀ k, (straightTill L k).length ≤ k
  | 0 => Nat.le_refl _
  | k + 1 => by
    have := straight_len L k
    simp only [straightTill]
    cases bentB L k <;> simp <;> omega
def straightV (L : List (Int × Int)) : List (Int × Int) := bif polyB L then straightL L else []
set_option maxHeartbeats 4000000 in
set_option maxRecDepth 100000 in
theorem straight_any (A : Option Addr) (c : Nat) (L : List (Int × Int)) (w : World) (hA : PtsA w A L) (h1 : 1 ≤ L.length) (h2 : L.length ≤ 10) (hok : allOk L = true) :
    Calls Try.prog 163 #[.slice A L.length c] w (Lists w (straightL L)) := by
  obtain ⟨g, rfl, -⟩ := hA 0 h1
  have HA := Lib.hid hA; have HOK := Lib.hid hok
  clear hA hok
  obtain ⟨i0, hi0, hz0, hz1, hz2⟩ := info_parts infoPt
  have own0 := World.ownsRow_lit (base := w.heap.size) (e := 45) (size := 2) w #[] 0 (Nat.le_refl _) (by decide) rfl
  have b0 := below1 w (.cells #[] 45)
  go_enter Try.func163, Try.ntmps163
  go_wp2_with fail
  go_loopw [3, 5, 6, 12] (fun s _ _ i wr => ∃ (k g5 cap : Nat) (M : List (Int × Int)), k ≤ L.length ∧ i = .int .i64 k ∧ s = .slice (some ⟨g5, 0, none⟩) M.length cap ∧ Hid (M = straightTill L k) ∧ wr.ownsRow w.heap.size 45 2 (.slice (some ⟨g5, 0, none⟩) M.length cap) M.length (flat M) ∧ Below w.heap.size w wr) (fun _ _ _ i _ => L.length - (intOf i).toNat)
  case atStart => exact ⟨0, w.heap.size, 0, [], Nat.zero_le _, rfl, rfl, rfl, own0, b0⟩
  case round =>
    obtain ⟨wo, rfl⟩ : ∃ wo : World, wo = wr := ⟨_, rfl⟩
    clear own0 b0
    obtain ⟨k, g5, cap, M, hk, rfl, rfl, HM, hown, hb⟩ := hrel
    by_cases hlt : k < L.length
    · obtain ⟨hr, hrl⟩ := next_int (i := k) h1
      have hpl : (k + L.length - 1) % L.length < L.length := Nat.mod_lt _ (by omega)
      have hpr : Int.tmod ((k : Int) + (L.length : Int) - 1) (L.length : Int) = (((k + L.length - 1) % L.length : Nat) : Int) := by
        have : (k : Int) + (L.length : Int) - 1 = ((k + L.length - 1 : Nat) : Int) := by omega
        rw [this, tmod_nat]
      have hap := ptsA_on HA.out hb
      obtain ⟨c1, c2⟩ := gt_cells hap hlt
      obtain ⟨c3, c4⟩ := gt_cells hap hrl
      obtain ⟨c5, c6⟩ := gt_cells hap hpl
      have HCR := Lib.hid (fun w => crossS_on _ _ _ _ _ _ w (all_at HOK.out hpl) (all_at HOK.out hlt) (all_at HOK.out hrl))
      have HBE : Hid (bentB L k = !(crossP ((gt L ((k + L.length - 1) % L.length)).1, (gt L ((k + L.length - 1) % L.length)).2) ((gt L k).1, (gt L k).2) ((gt L ((k + 1) % L.length)).1, (gt L ((k + 1) % L.length)).2) == 0)) := rfl
      have HST : Hid (straightTill L (k + 1) = bif bentB L k then M ++ [((gt L k).1, (gt L k).2)] else M) := by
        show _ = _
        rw [HM.out]; rfl
      have hML : M.length ≤ 10 := by rw [HM.out]; have := straight_len L k; omega
      clear hap HM
      generalize (k + 1) % L.length = r at *
      generalize (k + L.length - 1) % L.length = t at *
      generalize (gt L k).1 = x at *
      generalize (gt L k).2 = y at *
      generalize (gt L r).1 = x' at *
      generalize (gt L r).2 = y' at *
      generalize (gt L t).1 = x'' at *
      generalize (gt L t).2 = y'' at *
      generalize crossP (x'', y'') (x, y) (x', y') = C at *
      have f1 : IntKind.i64.wrap ((k : Int) + 1) = (k : Int) + 1 := IntWalk.i64_in _ (by omega)
      have f2 : IntKind.i64.wrap ((k : Int) + (L.length : Int)) = (k : Int) + (L.length : Int) := IntWalk.i64_in _ (by omega)
      have f3 : IntKind.i64.wrap ((k : Int) + (L.length : Int) - 1) = (k : Int) + (L.length : Int) - 1 := IntWalk.i64_in _ (by omega)
      have f4 : IntKind.i64.wrap (r : Int) = (r : Int) := IntWalk.i64_in _ (by omega)
      have f5 : IntKind.i64.wrap (t : Int) = (t : Int) := IntWalk.i64_in _ (by omega)
      have hp1 : (r : Int) < (L.length : Int) := by omega
      have hp2 : (0 : Int) ≤ (r : Int) := by omega
      have hp3 : (t : Int) < (L.length : Int) := by omega
      have hp4 : (0 : Int) ≤ (t : Int) := by omega
      have hne : ¬ L.length = 0 := by omega
      have hal := (Below.refl wo.heap.size wo).alloc (Nat.le_refl _) (.cells #[.int .i64 x, .int .i64 y] 45)
      have d3 := cell_on hal rfl c3; have d4 := cell_on hal rfl c4; have d5 := cell_on hal rfl c5; have d6 := cell_on hal rfl c6
      have n1 := at_new wo x y 45
      have d1 := n1.c0; have d2 := n1.c1
      have b2 := hb.alloc hb.size (.cells #[.int .i64 x, .int .i64 y] 45)
      have own2 := hown.alloc (.cells #[.int .i64 x, .int .i64 y] 45)
      have k1 := cell_regrown d1; have k2 := cell_regrown d2; have k3 := cell_regrown d3; have k4 := cell_regrown d4; have k5 := cell_regrown d5; have k6 := cell_regrown d6
      clear hal hb hown
      go_wp2_with fail
      refine wp_region_quiet_below (by kernel_rfl) (by kernel_rfl) ?_
      repeat (first
        | go_big_quiet_step (first | exact Calls.regrown_of (HCR.out _))
        | quiet_step (first | exact Calls.regrown_of (HCR.out _)))
      refine wpQuiet_nil ?_
      rintro _ ⟨⟨dq, osq⟩, rfl⟩
      have hst := below_regrown (wo.alloc (.cells #[.int .i64 x, .int .i64 y] 45)) dq osq
      have b3 := below_on b2 hst
      have own3 := own_below own2 hst
      have n3 := n1.step hst
      clear k1 k2 k3 k4 k5 k6 d1 d2 d3 d4 d5 d6 b2 own2 n1 hst c1 c2 c3 c4 c5 c6
      simp only at *
      generalize Go.Sort.grow (redrawn (wo.alloc (.cells #[.int .i64 x, .int .i64 y] 45)) dq) osq = w3 at *
      clear hr hpr f1 f2 f3 f4 f5 hp1 hp2 hp3 hp4
      cases hC : (C == 0)
      · have hC' : (C != 0) = true := by simp [bne, hC]
        have HE : Hid (M ++ [(x, y)] = straightTill L (k + 1)) := by
          show _ = _
          rw [HST.out, HBE.out, hC]; rfl
        have d1 := n3.c0; have d2 := n3.c1
        go_wp2_with (at_builtin; refine wpList_append_lies _ rfl _ _ 34 rfl w.heap.size 45 i0 (.agg #[.int .i64 0, .int .i64 0]) 2 16 Try.underlying34 hi0 hz0 hz1 hz2 rfl (by decide) _ _ _ rfl (own3.alloc _) ⟨w3.heap.size, 0, none⟩ 1 1 [.int .i64 x, .int .i64 y] rfl rfl ?d1 ?d2 (by omega) ?d3 ?d4 ?d5 (w3.heap.size + 1) (by simp) ?_)
        case d1 => exact World.news_of_block (cs := #[.int .i64 x, .int .i64 y]) (t := 45) (fr := (0, 0)) (heap_alloc_new w3 _)
        case d2 => simp [Value.oneCell']
        case d3 => unfold maxLen; omega
        case d4 => omega
        case d5 => have := b3.size; simp; omega
        intro g6 cp6 w6 own6 hgrow _ _
        have hrw := fun k hk => (own3.lt k hk).1
        have HN : Hid ((M ++ [(x, y)]).length = M.length + 1) := by simp [Hid]
        have R : Hid (w6.ownsRow w.heap.size 45 2 (.slice (some ⟨g6, 0, none⟩) (M ++ [(x, y)]).length cp6) (M ++ [(x, y)]).length (flat (M ++ [(x, y)])) ∧ Below w.heap.size w w6) :=
          ⟨by rw [flat_append, HN.out]; exact own6, (b3.alloc b3.size _).grown hgrow (by have := b3.size; simp; omega) hrw⟩
        clear own3 own6 hgrow b3 d1 d2 n3
        go_wp2_with fail
        exact ⟨⟨k + 1, g6, cp6, M ++ [(x, y)], by omega, by go_num, by rw [HN.out], HE, R.out.1, R.out.2⟩, by simp [intOf]; omega⟩
      · have hC' : (C != 0) = false := by simp [bne, hC]
        have HE : Hid (M = straightTill L (k + 1)) := by
          show _ = _
          rw [HST.out, HBE.out, hC]; rfl
        have R := Lib.hid (And.intro own3 b3)
        clear own3 b3 n3
        go_wp2_with fail
        go_roundw
        case rel => exact ⟨k + 1, g5, cap, M, by omega, by go_num, rfl, HE, R.out.1, R.out.2⟩
        case measure => simp [intOf]; omega
    · have HQ : Hid (M = straightL L) := by
        show _ = _
        rw [HM.out, show k = L.length from by omega]; rfl
      have R := Lib.hid hown
      clear hown HM
      go_wp2_with fail
      go_ret
      exact ⟨_, rfl, by rw [← HQ.out]; exact R.out, hb⟩
end Go.Proofs.Ythoniopkeiifnaa

/-! Around -/
namespace Go.Proofs.Ythoniopkeiifnaa
open Go.RowKit Go.Shelf Go.Sort
attribute [local go_sem] Oper.semAt_some

theorem at_own (g : Nat) (x y : Int) (t : TypeId) (B : Nat) : OwnFrom B (fun (_ : Unit) W => At W g x y t) := fun _ X Y row hs hg hr =>
  (hg.block g hs.lt (fun e => by
    obtain ⟨_, o, ho, hc⟩ := hr g e.symm
    rw [show X.heap[g]? = _ from hs] at ho
    cases ho; cases hc)).trans hs
def flipL (L : List (Int × Int)) (p : Int × Int) (l : List Nat) : Bool := l.foldl (fun b i => bif rightB (gt L i) (gt L (nx L i)) p then !b else b) false
theorem flipL_snoc (L : List (Int × Int)) (p : Int × Int) (l : List Nat) (x : Nat) : flipL L p (l ++ [x]) = bif rightB (gt L x) (gt L (nx L x)) p then !(flipL L p l) else flipL L p l := by simp [flipL]
theorem crossI_swap (ax ay bx by' px py : Int) : crossI bx by' ax ay px py = -(crossI ax ay bx by' px py) := by
  unfold crossI
  simp only [Int.sub_mul, Int.mul_sub, Int.neg_sub]
  simp only [Int.mul_comm]
  omega
theorem sgn_gt (n : Int) : decide (0 < sgn n) = decide (0 < n) := by
  unfold sgn
  by_cases h : 0 < n
  · simp [h]
  · by_cases h2 : n < 0 <;> simp [h, h2]
theorem right_flip (L : List (Int × Int)) (p : Int × Int) (i : Nat) : rightB (gt L i) (gt L (nx L i)) p = flipT L p i := by
  unfold rightB flipT loB crossP
  rw [crossI_swap (gt L i).1 (gt L i).2]
  generalize crossI (gt L i).1 (gt L i).2 (gt L (nx L i)).1 (gt L (nx L i)).2 p.1 p.2 = s
  generalize (gt L i).2 = ay
  generalize (gt L (nx L i)).2 = by'
  generalize p.2 = py
  rw [Bool.eq_iff_iff]
  by_cases h : by' < ay
  · have e1 : decide (by' < ay) = true := decide_eq_true h
    have e2 : decide (ay < by') = false := decide_eq_false (by omega)
    rw [e1, e2]
    simp only [cond_true, Bool.false_and, Bool.false_or, Bool.true_and, Bool.and_eq_true, decide_eq_true_eq, bne_iff_ne, ne_eq, decide_eq_decide]
    omega
  · have e1 : decide (by' < ay) = false := decide_eq_false h
    rw [e1]
    simp only [cond_false, Bool.false_and, Bool.or_false, Bool.and_eq_true, decide_eq_true_eq, bne_iff_ne, ne_eq, decide_eq_decide]
    omega
theorem flipL_range (L : List (Int × Int)) (p : Int × Int) (n : Nat) : flipL L p (List.range n) = insT (flipT L p) n := by
  induction n with
  | zero => rfl
  | succ n ih => rw [List.range_succ, flipL_snoc, ih, right_flip]; rfl
/-- Whether a ray to the right passes through an odd number of sides. -/
def aroundB (L : List (Int × Int)) (p : Int × Int) : Bool := insT (flipT L p) L.length
theorem right_pt (a b p : Int × Int) (w : World) (ha : smP a.1 a.2 = true) (hb : smP b.1 b.2 = true) (hp : smP p.1 p.2 = true) :
    Calls Try.prog 159 #[.agg #[.int .i64 a.1, .int .i64 a.2, .int .i64 b.1, .int .i64 b.2], (.agg #[.int .i64 p.1, .int .i64 p.2])] w fun e w' => e = .returned (.bool (rightB a b p)) ∧ Below w.heap.size w w' := right_sm a.1 a.2 b.1 b.2 p.1 p.2 w ha hb hp

set_option maxRecDepth 100000 in
set_option maxHeartbeats 4000000 in
theorem around_sm (A : Option Addr) (c : Nat) (L : List (Int × Int)) (p : Int × Int) (w : World) (hA : PtsA w A L) (h1 : 1 ≤ L.length) (h2 : L.length ≤ 10) (hok : ∀ i, smP (gt L i).1 (gt L i).2 = true) (hq : smP p.1 p.2 = true) :
    Calls Try.prog 115 #[.slice A L.length c, (.agg #[.int .i64 p.1, .int .i64 p.2])] w fun e w' => e = .returned (.bool (aroundB L p)) ∧ Below w.heap.size w w' := by
  refine (callsIn_wide (n := 6)).1 ?_
  refine callsIn_of_wp_marks Try.func115 rfl trivial ?_ rfl
  simp only [Try.ntmps115, List.size_toArray, List.length_cons, List.length_nil, Nat.reduceAdd, Nat.reduceSub, Array.replicate_succ, Array.replicate_zero, List.push_toArray, List.append_toArray, List.nil_append, List.cons_append]
  gi_wp2
  refine ⟨trivial, (wide0.calls (sides_any A L.length c _)).mono ?_⟩
  rintro e w3 ⟨rfl, rfl⟩
  gi_wp2
  have bX3 := ((at_new w p.1 p.2 45).alloc (.cells #[.bool false] 4)).alloc (.cells #[.slice A L.length c] 34)
  have bI := (Boxed.new (w.alloc (.cells #[.int .i64 p.1, .int .i64 p.2] 45)) 4 (.bool false)).alloc (.cells #[.slice A L.length c] 34)
  have bN := Boxed.new ((w.alloc (.cells #[.int .i64 p.1, .int .i64 p.2] 45)).alloc (.cells #[.bool false] 4)) 34 (.slice A L.length c)
  simp only [World.size_alloc] at bI bN
  have hB0 : Below w.heap.size w (((w.alloc (.cells #[.int .i64 p.1, .int .i64 p.2] 45)).alloc (.cells #[.bool false] 4)).alloc (.cells #[.slice A L.length c] 34)) := below3 _ _ _ _
  have hsz : (((w.alloc (.cells #[.int .i64 p.1, .int .i64 p.2] 45)).alloc (.cells #[.bool false] 4)).alloc (.cells #[.slice A L.length c] 34)).heap.size = w.heap.size + 3 := by simp
  obtain ⟨W0, hW0⟩ : ∃ W0, ((w.alloc (.cells #[.int .i64 p.1, .int .i64 p.2] 45)).alloc (.cells #[.bool false] 4)).alloc (.cells #[.slice A L.length c] 34) = W0 := ⟨_, rfl⟩
  rw [hW0] at bX3 bI bN hB0 hsz ⊢
  clear hW0
  refine wpIn_rangeFunc_ownH rfl (by decide) (gf := 153) (lb := #[.pointer (some ⟨w.heap.size + 1 + 1, 0, none⟩)]) rfl trivial (enters_of Try.func153 (by kernel_rfl) rfl)
    (sides_stops 5 (w.heap.size + 1 + 1) A c L w W0 (by omega) (by omega) hA hB0 (by omega) bN.cell) keepP_t (keepP_b (by omega) (by omega)) (Below.refl _ _) (fun _ => rfl)
    (fun pre W => ((Boxed W (w.heap.size + 1) 4 (.bool (flipL L p pre)) ∧ Boxed W (w.heap.size + 1 + 1) 34 (.slice A L.length c)) ∧ At W w.heap.size p.1 p.2 45) ∧ Below w.heap.size w W)
    (fun _ _ _ => False)
    (OwnFrom.and (OwnFrom.and (OwnFrom.and (Own.from (boxed_own _ _ _) _) (Own.from (boxed_own _ _ _) _)) (fun s X Y row hs hg hr => at_own _ _ _ _ _ () X Y row hs hg hr)) (ownFrom_below (Nat.le_refl _) (by omega)))
    (fun _ => ownFrom_pure _ (fun _ => False))
    ⟨⟨⟨bI, bN⟩, bX3⟩, hB0⟩
    (fun x a' W => ∃ Bx, w.heap.size + 1 + 1 < Bx ∧ SideAt W Bx L x ∧ a' = { tmps := #[.slice A L.length c, .agg #[.int .i64 p.1, .int .i64 p.2], undef, .pointer (some ⟨w.heap.size, 0, none⟩), .bool false, .pointer (some ⟨w.heap.size + 1, 0, none⟩), undef, .pointer (some ⟨Bx, 0, none⟩), .slice A L.length c, .func (.func 153) #[] #[.pointer (some ⟨w.heap.size + 1 + 1, 0, none⟩)], .int .i64 (x : Int), .agg #[.int .i64 (gt L x).1, .int .i64 (gt L x).2, .int .i64 (gt L (nx L x)).1, .int .i64 (gt L (nx L x)).2], undef, undef, undef, undef, undef, undef], defers := [] })
    (fun x a' _ X Y row hs hg hr => by obtain ⟨Bx, e1, e2, e3⟩ := hs; exact ⟨Bx, e1, sideAt_own Bx L x _ () X Y row e2 hg hr, e3⟩)
    ?assign ?body ?done ?stop
  case assign =>
    rintro l pre x W K ⟨⟨⟨bI4, bN4⟩, bX4⟩, hB4⟩ hK
    simp only [sideV]
    gi_wp2
    have hs4 := hB4.size
    have hb := below1 W (.cells #[.int .i64 (gt L x).1, .int .i64 (gt L x).2, .int .i64 (gt L (nx L x)).1, .int .i64 (gt L (nx L x)).2] 99)
    exact hK _ _ (keepsFrom_below hb) (KeepP.of_below hb hs4 bN4.lt) ⟨⟨⟨boxed_on bI4 hb, boxed_on bN4 hb⟩, bX4.step hb⟩, hB4.trans (hb.mono hs4)⟩ ⟨W.heap.size, bN4.lt, sideAt_new W L x, rfl⟩
  case body =>
    rintro l pre x a' W hl - ⟨⟨⟨bI5, bN5⟩, bX5⟩, hB5⟩ ⟨Bx, hBx, sX, rfl⟩ hlt
    have hs5 := hB5.size
    have HR := Lib.hid (fun W => right_pt (gt L x) (gt L (nx L x)) p W (hok _) (hok _) hq)
    have HF := Lib.hid (flipL_snoc L p pre x)
    obtain ⟨x0, x1, x2, x3⟩ := sX.cells
    have c0 := bX5.c0; have c1 := bX5.c1
    gi_wp2
    refine ⟨trivial, ((wideR l).calls (HR.out _)).mono ?_⟩
    rintro e W6 ⟨rfl, hb6⟩
    have hB6 := hB5.trans (hb6.mono hs5)
    have bI6 := boxed_on bI5 hb6
    have bN6 := boxed_on bN5 hb6
    have bX6 := bX5.step hb6
    have hK6 := KeepP.of_below hb6 hs5 bN5.lt
    have hF6 := keepsFrom_below (B := W0.heap.size) hb6
    clear hb6 hB5 bI5 bN5 bX5 sX x0 x1 x2 x3 c0 c1
    have cI := bI6.cell
    have fI := bI6.frozen
    generalize flipL L p pre = fb at *
    cases hr : rightB (gt L x) (gt L (nx L x)) p
    · rw [hr] at HF
      gi_wp2
      exact ⟨hF6, hK6, ⟨⟨by rw [HF.out]; exact bI6, bN6⟩, bX6⟩, hB6⟩
    · rw [hr] at HF
      gi_wp2
      exact ⟨hF6.trans ((KeepsOthers.setCell _ _ _).from _), hK6.setCell (by omega) (by omega) _ _, ⟨⟨by rw [HF.out]; exact bI6.set _, bN6.other (by omega) _⟩, at_set bX6 (by omega) _ _⟩, hB6.setCell (p := ⟨w.heap.size + 1, 0, none⟩) (by simp) _⟩
  case done =>
    rintro D zs W hD rfl ⟨⟨⟨bI4, bN4⟩, bX4⟩, hB4⟩ hK
    have cI := bI4.cell
    have HF := Lib.hid (flipL_range L p L.length)
    gi_wp2
    refine ⟨by simp, .inl ⟨_, _, rfl, run_takeDeferred hK, ?_⟩⟩
    exact ⟨_, results_tmp rfl _ _ _, by rw [HF.out]; rfl, hB4.trans (belowK_b (w := w) (Nat.le_refl _) W D _ _ (by omega) hK rfl rfl)⟩
  case stop =>
    rintro D k pre W hD hpre h hK
    exact h.elim
end Go.Proofs.Ythoniopkeiifnaa

/-! Inside -/
namespace Go.Proofs.Ythoniopkeiifnaa
open Go.RowKit Go.Shelf Go.Sort
attribute [local go_sem] Oper.semAt_some

def onQ (a b p : Int × Int) : Bool := onV a.1 a.2 b.1 b.2 p.1 p.2
theorem onQ_ok {a b p : Int × Int} (ha : okP a.1 a.2 = true) (hb : okP b.1 b.2 = true) (hp : okP p.1 p.2 = true) : onQ a b p = onP a b p := by
  unfold onQ onV onP
  rw [ha, hb, hp]; rfl
theorem crossV_ok {ax ay bx by' px py : Int} (ha : okP ax ay = true) (hb : okP bx by' = true) (hp : okP px py = true) : crossV ax ay bx by' px py = crossI ax ay bx by' px py := by
  unfold crossV
  rw [ha, hb, hp]; rfl
theorem on_pt (a b p : Int × Int) (w : World) :
    Calls Try.prog 114 #[(.agg #[.int .i64 a.1, .int .i64 a.2]), (.agg #[.int .i64 b.1, .int .i64 b.2]), (.agg #[.int .i64 p.1, .int .i64 p.2])] w fun e w' => e = .returned (.bool (onQ a b p)) ∧ Below w.heap.size w w' := impl_on a.1 a.2 b.1 b.2 p.1 p.2 w
set_option maxRecDepth 100000 in
set_option maxHeartbeats 4000000 in
theorem impl_inside_yes (A : Option Addr) (c : Nat) (L : List (Int × Int)) (p : Int × Int) (w : World) (hA : PtsA w A L) (hp : polyB L = true) (hq : okP p.1 p.2 = true) :
    Calls Try.prog 57 #[.slice A L.length c, (.agg #[.int .i64 p.1, .int .i64 p.2])] w fun e w' => e = .returned (.bool (insideB L p)) ∧ Below w.heap.size w w' := by
  obtain ⟨h3, h10, hok⟩ := polyB_all hp
  refine (callsIn_wide (n := 6)).1 ?_
  refine callsIn_of_wp_marks Try.func57 rfl trivial ?_ rfl
  simp only [Try.ntmps57, List.size_toArray, List.length_cons, List.length_nil, Nat.reduceAdd, Nat.reduceSub, Array.replicate_succ, Array.replicate_zero, List.push_toArray, List.append_toArray, List.nil_append, List.cons_append]
  have PC := Lib.hid (fun (W : World) (hb : Below w.heap.size w W) => impl_poly A c L W (ptsA_on hA hb) (by omega))
  rw [hp] at PC
  have bX := at_new w p.1 p.2 45
  have hB0 := below2 w (.cells #[.int .i64 p.1, .int .i64 p.2] 45) (.cells #[.bool false] 4)
  gi_wp2
  refine ⟨trivial, (wide0.calls (PC.out _ hB0)).mono ?_⟩
  rintro e w1 ⟨rfl, hb1⟩
  have hB1 := hB0.trans (hb1.mono hB0.size)
  have bX1 := (bX.alloc (.cells #[.bool false] 4)).step hb1
  have bR1 := boxed_on (Boxed.new (w.alloc (.cells #[.int .i64 p.1, .int .i64 p.2] 45)) 4 (.bool false)) hb1
  simp only [size_alloc] at bR1
  have hs1 : w.heap.size + 2 ≤ w1.heap.size := by have := hb1.size; simp at this; omega
  have c0 := bX1.c0; have c1 := bX1.c1
  clear hb1 bX hB0
  gi_wp2
  refine ⟨trivial, (wide0.calls (impl_ok p.1 p.2 w1)).mono ?_⟩
  rintro e w2 ⟨rfl, hb2⟩
  rw [hq]
  have hB2 := hB1.trans (hb2.mono hB1.size)
  have bX2 := bX1.step hb2
  have bR2 := boxed_on bR1 hb2
  have hs2 : w.heap.size + 2 ≤ w2.heap.size := by have := hb2.size; omega
  have c0 := bX2.c0; have c1 := bX2.c1
  clear hb2 hB1 bX1 bR1 hs1
  gi_wp2
  refine ⟨trivial, (wide0.calls (sides_any A L.length c _)).mono ?_⟩
  rintro e w3 ⟨rfl, rfl⟩
  gi_wp2
  have bX3 := bX2.alloc (.cells #[.slice A L.length c] 34)
  have bR3 := bR2.alloc (.cells #[.slice A L.length c] 34)
  have bN := Boxed.new w2 34 (.slice A L.length c)
  have hB0 : Below w.heap.size w (w2.alloc (.cells #[.slice A L.length c] 34)) := hB2.alloc (by omega) _
  have hsz : (w2.alloc (.cells #[.slice A L.length c] 34)).heap.size = w2.heap.size + 1 := by simp
  obtain ⟨W0, hW0⟩ : ∃ W0, w2.alloc (.cells #[.slice A L.length c] 34) = W0 := ⟨_, rfl⟩
  rw [hW0] at bX3 bR3 bN hB0 hsz ⊢
  clear hW0 c0 c1
  refine wpIn_rangeFunc_ownH rfl (by decide) (gf := 153) (lb := #[.pointer (some ⟨w2.heap.size, 0, none⟩)]) rfl trivial (enters_of Try.func153 (by kernel_rfl) rfl)
    (sides_stops 5 w2.heap.size A c L w W0 (by omega) (by omega) hA hB0 (by omega) bN.cell) keepP_t (keepP_b (by omega) (by omega)) (Below.refl _ _) (fun _ => rfl)
    (fun pre W => ((((∀ i ∈ pre, onQ (gt L i) (gt L (nx L i)) p = false) ∧ Boxed W (w.heap.size + 1) 4 (.bool false)) ∧ Boxed W w2.heap.size 34 (.slice A L.length c)) ∧ At W w.heap.size p.1 p.2 45) ∧ Below w.heap.size w W)
    (fun co pre W => ((co = .ret ∧ ∃ i ∈ pre, onQ (gt L i) (gt L (nx L i)) p = true) ∧ Boxed W (w.heap.size + 1) 4 (.bool true)) ∧ Below w.heap.size w W)
    (OwnFrom.and (OwnFrom.and (OwnFrom.and (OwnFrom.and (ownFrom_pure _ _) (Own.from (boxed_own _ _ _) _)) (Own.from (boxed_own _ _ _) _)) (fun s X Y row hs hg hr => at_own _ _ _ _ _ () X Y row hs hg hr)) (ownFrom_below (Nat.le_refl _) (by omega)))
    (fun co => OwnFrom.and (OwnFrom.and (ownFrom_pure _ _) (Own.from (boxed_own _ _ _) _)) (ownFrom_below (Nat.le_refl _) (by omega)))
    ⟨⟨⟨⟨by simp, bR3⟩, bN⟩, bX3⟩, hB0⟩
    (fun x a' W => ∃ Bx, w2.heap.size < Bx ∧ SideAt W Bx L x ∧ a' = { tmps := #[.slice A L.length c, .agg #[.int .i64 p.1, .int .i64 p.2], undef, .pointer (some ⟨w.heap.size, 0, none⟩), .pointer (some ⟨w.heap.size + 1, 0, none⟩), undef, .pointer (some ⟨Bx, 0, none⟩), .slice A L.length c, .bool true, .bool false, .bool false, .agg #[.int .i64 p.1, .int .i64 p.2], .bool true, .bool false, .bool false, .slice A L.length c, .func (.func 153) #[] #[.pointer (some ⟨w2.heap.size, 0, none⟩)], .int .i64 (x : Int), .agg #[.int .i64 (gt L x).1, .int .i64 (gt L x).2, .int .i64 (gt L (nx L x)).1, .int .i64 (gt L (nx L x)).2], undef, undef, undef, undef, undef, undef, undef, undef, undef], defers := [] })
    (fun x a' _ X Y row hs hg hr => by obtain ⟨Bx, e1, e2, e3⟩ := hs; exact ⟨Bx, e1, sideAt_own Bx L x _ () X Y row e2 hg hr, e3⟩)
    ?assign ?body ?done ?stop
  case assign =>
    rintro l pre x W K ⟨⟨⟨⟨hq1, bR4⟩, bN4⟩, bX4⟩, hB4⟩ hK
    simp only [sideV]
    gi_wp2
    have hs4 := hB4.size
    have hb := below1 W (.cells #[.int .i64 (gt L x).1, .int .i64 (gt L x).2, .int .i64 (gt L (nx L x)).1, .int .i64 (gt L (nx L x)).2] 99)
    exact hK _ _ (keepsFrom_below hb) (KeepP.of_below hb hs4 bN4.lt) ⟨⟨⟨⟨hq1, boxed_on bR4 hb⟩, boxed_on bN4 hb⟩, bX4.step hb⟩, hB4.trans (hb.mono hs4)⟩ ⟨W.heap.size, bN4.lt, sideAt_new W L x, rfl⟩
  case body =>
    rintro l pre x a' W hl - ⟨⟨⟨⟨hq1, bR4⟩, bN4⟩, bX4⟩, hB4⟩ ⟨Bx, hBx, sX, rfl⟩ hlt
    have hs4 := hB4.size
    have HO := Lib.hid (fun W => on_pt (gt L x) (gt L (nx L x)) p W)
    obtain ⟨x0, x1, x2, x3⟩ := sX.cells
    have c0 := bX4.c0; have c1 := bX4.c1
    cases hon : onQ (gt L x) (gt L (nx L x)) p
    · rw [hon] at HO
      have HN : Hid (∀ i ∈ pre ++ [x], onQ (gt L i) (gt L (nx L i)) p = false) := fun z hz => (List.mem_append.1 hz).elim (hq1 z) (fun e => by simp at e; subst e; exact hon)
      clear hon hq1
      gi_wp2
      refine ⟨trivial, ((wideR l).calls (HO.out _)).mono ?_⟩
      rintro e W5 ⟨rfl, hb5⟩
      gi_wp2
      exact ⟨keepsFrom_below (B := W0.heap.size) hb5, KeepP.of_below hb5 hs4 bN4.lt, ⟨⟨⟨HN.out, boxed_on bR4 hb5⟩, boxed_on bN4 hb5⟩, bX4.step hb5⟩, hB4.trans (hb5.mono hs4)⟩
    · rw [hon] at HO
      gi_wp2
      refine ⟨trivial, ((wideR l).calls (HO.out _)).mono ?_⟩
      rintro e W5 ⟨rfl, hb5⟩
      have hB5 := hB4.trans (hb5.mono hs4)
      have bR5 := boxed_on bR4 hb5
      have cR := bR5.cell
      have fR := bR5.frozen
      gi_wp2
      exact ⟨(keepsFrom_below hb5).trans ((KeepsOthers.setCell _ _ _).from _), ⟨⟨rfl, x, List.mem_append.2 (.inr (by simp)), hon⟩, bR5.set _⟩, hB5.setCell (p := ⟨w.heap.size + 1, 0, none⟩) (by simp) _⟩
  case done =>
    rintro D zs W hD rfl ⟨⟨⟨⟨hq1, bR4⟩, bN4⟩, bX4⟩, hB4⟩ hK
    have c0 := bX4.c0; have c1 := bX4.c1
    have HR := Lib.hid (around_sm A c L p W (ptsA_on hA hB4) (by omega) h10 (fun i => smP_ok (gt_ok hok i)) (smP_ok hq))
    have hv : insideB L p = aroundB L p := by
      rw [insideB, onRim_false (fun i hi => by rw [← onQ_ok (gt_ok hok i) (gt_ok hok (nx L i)) hq]; exact hq1 i (List.mem_range.2 hi)), Bool.false_or]; rfl
    generalize aroundB L p = fb at *
    gi_wp2
    refine ⟨trivial, (wide0.calls HR.out).mono ?_⟩
    rintro e W5 ⟨rfl, hb5⟩
    have hB5 := hB4.trans (hb5.mono hB4.size)
    have bR5 := boxed_on bR4 hb5
    have cR := bR5.cell
    have fR := bR5.frozen
    have hK5 := (hb5.block D (Array.getElem?_eq_some_iff.1 hK).1).trans hK
    gi_wp2
    have hK' := (KeepsOthers.setCell W5 ⟨w.heap.size + 1, 0, none⟩ (.bool fb)).same D _ hK5 rfl
    refine ⟨by simp, .inl ⟨_, _, rfl, run_takeDeferred hK', ?_⟩⟩
    have hc5 := cell_kept (bR5.set (.bool fb)).cell (grownBy_putObj' _ D (.deferred none)) (fun r e => by cases e; exact ⟨_, hK', rfl⟩)
    refine ⟨.bool fb, ?_, by rw [hv], (hB5.setCell (p := ⟨w.heap.size + 1, 0, none⟩) (by simp) _).trans (belowK_b (w := w) (Nat.le_refl _) _ D _ _ (by omega) hK' rfl rfl)⟩
    simp [results, Try.f57, go_sem, hc5]
  case stop =>
    rintro D co pre W hD ⟨k, hk, rfl⟩ ⟨⟨⟨rfl, j, hj, hjb⟩, bR1⟩, hB1⟩ hK
    gi_wp2
    refine ⟨by simp, .inl ⟨_, _, rfl, run_takeDeferred hK, ?_⟩⟩
    have hc5 := cell_kept bR1.cell (grownBy_putObj' _ D (.deferred none)) (fun r e => by cases e; exact ⟨_, hK, rfl⟩)
    refine ⟨.bool true, ?_, ?_, hB1.trans (belowK_b (w := w) (Nat.le_refl _) _ D _ _ (by omega) hK rfl rfl)⟩
    · simp [results, Try.f57, go_sem, hc5]
    · rw [onQ_ok (gt_ok hok j) (gt_ok hok (nx L j)) hq] at hjb
      rw [insideB, onRim_true (i := j) (by simp only [List.mem_range] at hj; omega) hjb]; rfl

theorem impl_inside (A : Option Addr) (c : Nat) (L : List (Int × Int)) (px py : Int) (w : World) (hA : PtsA w A L) (hL : L.length ≤ 1048576) :
    Calls Try.prog 57 #[.slice A L.length c, (.agg #[.int .i64 px, .int .i64 py])] w fun e w' => e = .returned (.bool (insideV L (px, py))) ∧ Below w.heap.size w w' := by
  cases hp : polyB L
  · have HV : Hid (insideV L (px, py) = false) := by
      show _ = _
      rw [insideV, hp]; rfl
    have PC := Lib.hid (fun (W : World) (hb : Below w.heap.size w W) => impl_poly A c L W (ptsA_on hA hb) hL)
    rw [hp] at PC
    have hB0 := below2 w (.cells #[.int .i64 px, .int .i64 py] 45) (.cells #[.bool false] 4)
    go_enter Try.func57, Try.ntmps57
    go_wp2_with fail
    refine (PC.out _ hB0).mono ?_
    rintro e w1 ⟨rfl, hb1⟩
    have bR1 := boxed_on (Boxed.new (w.alloc (.cells #[.int .i64 px, .int .i64 py] 45)) 4 (.bool false)) hb1
    simp only [size_alloc] at bR1
    have hB1 := hB0.trans (hb1.mono hB0.size)
    have cR := bR1.cell
    have fR := bR1.frozen
    clear hb1 hB0
    go_wp2_with fail
    have cR' := (bR1.set (.bool false)).cell
    refine bodyPost_ret (v := .bool false) (by simp [results, Try.results57, go_sem, cR']) rfl ⟨ret_bool HV.out.symm, hB1.setCell (p := ⟨w.heap.size + 1, 0, none⟩) (by simp) _⟩
  · cases hq : okP px py
    · have HV : Hid (insideV L (px, py) = false) := by
        show _ = _
        rw [insideV, hp, okQ_pair, hq]; rfl
      have PC := Lib.hid (fun (W : World) (hb : Below w.heap.size w W) => impl_poly A c L W (ptsA_on hA hb) hL)
      rw [hp] at PC
      have hB0 := below2 w (.cells #[.int .i64 px, .int .i64 py] 45) (.cells #[.bool false] 4)
      have bX := at_new w px py 45
      go_enter Try.func57, Try.ntmps57
      go_wp2_with fail
      refine (PC.out _ hB0).mono ?_
      rintro e w1 ⟨rfl, hb1⟩
      have bX1 := (bX.alloc (.cells #[.bool false] 4)).step hb1
      have bR1 := boxed_on (Boxed.new (w.alloc (.cells #[.int .i64 px, .int .i64 py] 45)) 4 (.bool false)) hb1
      simp only [size_alloc] at bR1
      have hB1 := hB0.trans (hb1.mono hB0.size)
      have c0 := bX1.c0; have c1 := bX1.c1
      clear hb1 hB0 bX
      go_wp2_with fail
      refine (impl_ok px py w1).mono ?_
      rintro e w2 ⟨rfl, hb2⟩
      rw [hq]
      have bR2 := boxed_on bR1 hb2
      have hB2 := hB1.trans (hb2.mono hB1.size)
      have cR := bR2.cell
      have fR := bR2.frozen
      clear hb2 hB1 bR1
      go_wp2_with fail
      have cR' := (bR2.set (.bool false)).cell
      refine bodyPost_ret (v := .bool false) (by simp [results, Try.results57, go_sem, cR']) rfl ⟨ret_bool HV.out.symm, hB2.setCell (p := ⟨w.heap.size + 1, 0, none⟩) (by simp) _⟩
    · have hv : insideV L (px, py) = insideB L (px, py) := by rw [insideV, hp, okQ_pair, hq]; rfl
      rw [hv]
      exact impl_inside_yes A c L (px, py) w hA hp hq
end Go.Proofs.Ythoniopkeiifnaa
