/-
  Walks and facts of this seat, part Ka (merged by a script of this repo out of smaller texts).
-/
import Derived.Test.YtncahchhinfneaaProg
import Derived.WalkKit
import Derived.Handy
import Derived.IntWalk
import Derived.Lib.Hide
import Derived.Lib.QuietBelow
import Derived.BigQuiet
import Derived.Deep.QuietTactic
import Derived.Deep.RegionHeld3
import Derived.Laws.Bits64
import Derived.OwnWalk
import Derived.Deep.WholeRow
import Derived.StillTail
import Derived.RangeFuncNested
import Derived.TacticsIn
import Derived.OrdersIn
import Derived.Deep.AppendLies
import Derived.Laws.Pointers
import Derived.RegionTactic
import Derived.Deep.DeepCutAuto
import Derived.ChangeAlike
import Derived.Laws.StructEq
import Derived.RangeFuncLeaves
import Derived.Shelf.Abstract
import Derived.OwnWalkIn
import Derived.TacticsInMore
import Derived.LoopNIn
import Derived.LoopIn
/-! Pt -/
namespace Go.Proofs.Ytncahchhinfneaa
open Go.RowKit

/-- Block g holds a struct of two ints. -/
def At (w : World) (g : Nat) (x y : Int) (t : TypeId) : Prop := w.heap[g]? = some (.cells #[.int .i64 x, .int .i64 y] t (0, 0))
theorem at_new (w : World) (x y : Int) (t : TypeId) : At (w.alloc (.cells #[.int .i64 x, .int .i64 y] t)) w.heap.size x y t := heap_alloc_new w _
theorem At.lt {w : World} {g : Nat} {x y : Int} {t : TypeId} (h : At w g x y t) : g < w.heap.size := (Array.getElem?_eq_some_iff.1 h).1
theorem At.alloc {w : World} {g : Nat} {x y : Int} {t : TypeId} (h : At w g x y t) (o : Obj) : At (w.alloc o) g x y t := (Below.heap_alloc w o g h.lt).trans h
theorem At.step {w w' : World} {g : Nat} {x y : Int} {t : TypeId} (h : At w g x y t) (hb : Below w.heap.size w w') : At w' g x y t := (hb.block g h.lt).trans h
theorem At.c0 {w : World} {g : Nat} {x y : Int} {t : TypeId} (h : At w g x y t) : w.cell? ⟨g, 0, none⟩ = some (.int .i64 x) := cell_of_row w g 0 _ _ _ h
theorem At.c1 {w : World} {g : Nat} {x y : Int} {t : TypeId} (h : At w g x y t) : w.cell? ⟨g, 1, none⟩ = some (.int .i64 y) := cell_of_row w g 1 _ _ _ h

/-- Two, three, four points in blocks that follow each other. -/
def Two (w : World) (g : Nat) (ax ay bx by' : Int) (t : TypeId) : Prop := At w g ax ay t ∧ At w (g + 1) bx by' t
def Three (w : World) (g : Nat) (ax ay bx by' px py : Int) (t : TypeId) : Prop := At w g ax ay t ∧ At w (g + 1) bx by' t ∧ At w (g + 1 + 1) px py t
def Four (w : World) (g : Nat) (ax ay bx by' px py qx qy : Int) (t : TypeId) : Prop := At w g ax ay t ∧ At w (g + 1) bx by' t ∧ At w (g + 1 + 1) px py t ∧ At w (g + 1 + 1 + 1) qx qy t
theorem size_alloc (w : World) (o : Obj) : (w.alloc o).heap.size = w.heap.size + 1 := by simp
theorem two0 (w : World) (ax ay bx by' : Int) (t : TypeId) : Two ((w.alloc (.cells #[.int .i64 ax, .int .i64 ay] t)).alloc (.cells #[.int .i64 bx, .int .i64 by'] t)) w.heap.size ax ay bx by' t :=
  ⟨(at_new w ax ay t).alloc _, by have := at_new (w.alloc (.cells #[.int .i64 ax, .int .i64 ay] t)) bx by' t; rwa [size_alloc] at this⟩
theorem three0 (w : World) (ax ay bx by' px py : Int) (t : TypeId) :
    Three (((w.alloc (.cells #[.int .i64 ax, .int .i64 ay] t)).alloc (.cells #[.int .i64 bx, .int .i64 by'] t)).alloc (.cells #[.int .i64 px, .int .i64 py] t)) w.heap.size ax ay bx by' px py t :=
  ⟨(two0 w ax ay bx by' t).1.alloc _, (two0 w ax ay bx by' t).2.alloc _, by
    have := at_new ((w.alloc (.cells #[.int .i64 ax, .int .i64 ay] t)).alloc (.cells #[.int .i64 bx, .int .i64 by'] t)) px py t
    rwa [size_alloc, size_alloc] at this⟩
theorem four0 (w : World) (ax ay bx by' px py qx qy : Int) (t : TypeId) :
    Four ((((w.alloc (.cells #[.int .i64 ax, .int .i64 ay] t)).alloc (.cells #[.int .i64 bx, .int .i64 by'] t)).alloc (.cells #[.int .i64 px, .int .i64 py] t)).alloc (.cells #[.int .i64 qx, .int .i64 qy] t)) w.heap.size ax ay bx by' px py qx qy t :=
  ⟨(three0 w ax ay bx by' px py t).1.alloc _, (three0 w ax ay bx by' px py t).2.1.alloc _, (three0 w ax ay bx by' px py t).2.2.alloc _, by
    have := at_new (((w.alloc (.cells #[.int .i64 ax, .int .i64 ay] t)).alloc (.cells #[.int .i64 bx, .int .i64 by'] t)).alloc (.cells #[.int .i64 px, .int .i64 py] t)) qx qy t
    rwa [size_alloc, size_alloc, size_alloc] at this⟩
section
variable {w w' : World} {g : Nat} {ax ay bx by' px py qx qy : Int} {t : TypeId}
theorem Two.alloc (h : Two w g ax ay bx by' t) (o : Obj) : Two (w.alloc o) g ax ay bx by' t := ⟨h.1.alloc o, h.2.alloc o⟩
theorem Two.step (h : Two w g ax ay bx by' t) (hb : Below w.heap.size w w') : Two w' g ax ay bx by' t := ⟨h.1.step hb, h.2.step hb⟩
theorem Three.alloc (h : Three w g ax ay bx by' px py t) (o : Obj) : Three (w.alloc o) g ax ay bx by' px py t := ⟨h.1.alloc o, h.2.1.alloc o, h.2.2.alloc o⟩
theorem Three.step (h : Three w g ax ay bx by' px py t) (hb : Below w.heap.size w w') : Three w' g ax ay bx by' px py t := ⟨h.1.step hb, h.2.1.step hb, h.2.2.step hb⟩
theorem Four.alloc (h : Four w g ax ay bx by' px py qx qy t) (o : Obj) : Four (w.alloc o) g ax ay bx by' px py qx qy t := ⟨h.1.alloc o, h.2.1.alloc o, h.2.2.1.alloc o, h.2.2.2.alloc o⟩
theorem Four.step (h : Four w g ax ay bx by' px py qx qy t) (hb : Below w.heap.size w w') : Four w' g ax ay bx by' px py qx qy t := ⟨h.1.step hb, h.2.1.step hb, h.2.2.1.step hb, h.2.2.2.step hb⟩
end

def inB (x lo hi : Int) : Bool := decide (lo ≤ x) && decide (x ≤ hi)
theorem inB_spec {x lo hi : Int} : inB x lo hi = true ↔ lo ≤ x ∧ x ≤ hi := by simp [inB]
def okP (x y : Int) : Bool := inB x 0 40 && inB y 0 40
theorem okP_bounds {x y : Int} (h : okP x y = true) : 0 ≤ x ∧ x ≤ 40 ∧ 0 ≤ y ∧ y ≤ 40 := by
  simp only [okP, Bool.and_eq_true, inB_spec] at h
  omega
theorem ret_bool {a b : Bool} (h : a = b) : Ending.returned (.bool a) = .returned (.bool b) := by rw [h]
theorem ret_int {a b : Int} (h : a = b) : Ending.returned (.int .i64 a) = .returned (.int .i64 b) := by rw [h]

theorem in_any (x lo hi : Int) (w : World) :
    Calls Try.prog 130 #[.int .i64 x, .int .i64 lo, .int .i64 hi] w fun e w' => e = .returned (.bool (inB x lo hi)) ∧ w' = w := by
  cases h : decide (lo ≤ x)
  all_goals (
    go_enter Try.func130, Try.ntmps130
    go_wp2_with fail
    go_ret
    exact ⟨ret_bool (by simp only [inB, h, Bool.false_and, Bool.true_and]), rfl⟩)
theorem from_any (x lo hi : Int) (w : World) :
    Calls Try.prog 68 #[.int .i64 x, .int .i64 lo, .int .i64 hi] w fun e w' => e = .returned (.bool (inB x lo hi)) ∧ w' = w := by
  cases h : decide (lo ≤ x)
  all_goals (
    go_enter Try.func68, Try.ntmps68
    go_wp2_with fail
    go_ret
    exact ⟨ret_bool (by simp only [inB, h, Bool.false_and, Bool.true_and]), rfl⟩)
theorem spec_ok (x y : Int) (w : World) :
    Calls Try.prog 191 #[(.agg #[.int .i64 x, .int .i64 y])] w fun e w' => e = .returned (.bool (okP x y)) ∧ Below w.heap.size w w' := by
  cases h : inB x 0 40
  all_goals (
    go_enter Try.func191, Try.ntmps191
    go_wp2_with fail
    refine (in_any _ _ _ _).mono ?_
    rintro e w1 ⟨rfl, rfl⟩
    go_wp2_with fail)
  · go_ret
    exact ⟨ret_bool (by simp only [okP, h, Bool.false_and]), (Below.refl _ _).alloc (Nat.le_refl _) _⟩
  · refine (in_any _ _ _ _).mono ?_
    rintro e w1 ⟨rfl, rfl⟩
    go_wp2_with fail
    go_ret
    exact ⟨ret_bool (by simp only [okP, h, Bool.true_and]), (Below.refl _ _).alloc (Nat.le_refl _) _⟩
theorem impl_ok (x y : Int) (w : World) :
    Calls Try.prog 80 #[(.agg #[.int .i64 x, .int .i64 y])] w fun e w' => e = .returned (.bool (okP x y)) ∧ Below w.heap.size w w' := by
  cases h : inB x 0 40
  all_goals (
    go_enter Try.func80, Try.ntmps80
    go_wp2_with fail
    refine (from_any _ _ _ _).mono ?_
    rintro e w1 ⟨rfl, rfl⟩
    go_wp2_with fail)
  · go_ret
    exact ⟨ret_bool (by simp only [okP, h, Bool.false_and]), (Below.refl _ _).alloc (Nat.le_refl _) _⟩
  · refine (from_any _ _ _ _).mono ?_
    rintro e w1 ⟨rfl, rfl⟩
    go_wp2_with fail
    go_ret
    exact ⟨ret_bool (by simp only [okP, h, Bool.true_and]), (Below.refl _ _).alloc (Nat.le_refl _) _⟩
/-- The blocks of two, three boxed arguments lie behind the old heap. -/
theorem below1 (w : World) (o : Obj) : Below w.heap.size w (w.alloc o) := (Below.refl _ _).alloc (Nat.le_refl _) _
theorem below2 (w : World) (o p : Obj) : Below w.heap.size w ((w.alloc o).alloc p) := (below1 w o).alloc (by simp) _
theorem below3 (w : World) (o p q : Obj) : Below w.heap.size w (((w.alloc o).alloc p).alloc q) := (below2 w o p).alloc (by simp; omega) _
theorem below4 (w : World) (o p q r : Obj) : Below w.heap.size w ((((w.alloc o).alloc p).alloc q).alloc r) := (below3 w o p q).alloc (by simp; omega) _
/-- One more step, at the newest world's own size. -/
theorem below_on {a w w' : World} (h : Below a.heap.size a w) (hb : Below w.heap.size w w') : Below a.heap.size a w' := h.trans (hb.mono h.size)
theorem minus_any (ax ay bx by' : Int) (w : World) :
    Calls Try.prog 84 #[(.agg #[.int .i64 ax, .int .i64 ay]), (.agg #[.int .i64 bx, .int .i64 by'])] w fun e w' => e = .returned (.agg #[.int .i64 (wrap64 (ax - bx)), .int .i64 (wrap64 (ay - by'))]) ∧ Below w.heap.size w w' := by
  go_enter Try.func84, Try.ntmps84
  go_wp2_with fail
  go_returns
  exact ⟨rfl, below3 _ _ _ _⟩
theorem crossM_any (ax ay bx by' : Int) (w : World) :
    Calls Try.prog 78 #[(.agg #[.int .i64 ax, .int .i64 ay]), (.agg #[.int .i64 bx, .int .i64 by'])] w fun e w' => e = .returned (.int .i64 (wrap64 (wrap64 (ax * by') - wrap64 (ay * bx)))) ∧ Below w.heap.size w w' := by
  go_enter Try.func78, Try.ntmps78
  go_wp2_with fail
  go_ret
  exact ⟨rfl, below2 _ _ _⟩
theorem crossS_any (ax ay bx by' px py : Int) (w : World) :
    Calls Try.prog 200 #[(.agg #[.int .i64 ax, .int .i64 ay]), (.agg #[.int .i64 bx, .int .i64 by']), (.agg #[.int .i64 px, .int .i64 py])] w fun e w' => e = .returned (.int .i64 (wrap64 (wrap64 (wrap64 (bx - ax) * wrap64 (py - ay)) - wrap64 (wrap64 (by' - ay) * wrap64 (px - ax))))) ∧ Below w.heap.size w w' := by
  go_enter Try.func200, Try.ntmps200
  go_wp2_with fail
  go_ret
  exact ⟨rfl, below3 _ _ _ _⟩
end Go.Proofs.Ytncahchhinfneaa

/-! BitN -/
namespace Go.Proofs.Ytncahchhinfneaa
open Go.RowKit

/-! ### Plain numbers -/
theorem bit_mod (M i : Nat) : (M >>> i) % 2 = if M.testBit i then 1 else 0 := by
  rw [Nat.testBit_eq_decide_div_mod_eq, Nat.shiftRight_eq_div_pow]
  have : M / 2 ^ i % 2 < 2 := Nat.mod_lt _ (by omega)
  by_cases h : M / 2 ^ i % 2 = 1
  · simp [h]
  · have h0 : M / 2 ^ i % 2 = 0 := by omega
    simp [h0]
/-- The mask of the places below k at which F holds. -/
def ofF (F : Nat → Bool) : Nat → Nat
  | 0 => 0
  | k + 1 => if F k then ofF F k ||| 2 ^ k else ofF F k
theorem testBit_ofF (F : Nat → Bool) (k j : Nat) : (ofF F k).testBit j = (decide (j < k) && F j) := by
  induction k with
  | zero => simp [ofF]
  | succ k ih =>
    simp only [ofF]
    by_cases h : F k = true
    · rw [if_pos h, Nat.testBit_or, ih, Nat.testBit_two_pow]
      by_cases e : k = j
      · subst e; simp [h]
      · have : decide (j < k + 1) = decide (j < k) := by rw [decide_eq_decide]; omega
        simp [e, this]
    · rw [if_neg h, ih]
      by_cases e : k = j
      · subst e; simp [Bool.eq_false_iff.2 h]
      · have : decide (j < k + 1) = decide (j < k) := by rw [decide_eq_decide]; omega
        rw [this]
theorem ofF_lt (F : Nat → Bool) (k : Nat) : ofF F k < 2 ^ k := by
  apply Nat.lt_pow_two_of_testBit
  intro i hi
  rw [testBit_ofF]
  simp [Nat.not_lt.2 hi]
theorem ofF_self {M n : Nat} (h : M < 2 ^ n) : ofF M.testBit n = M := by
  apply Nat.eq_of_testBit_eq
  intro j
  rw [testBit_ofF]
  by_cases hj : j < n
  · simp [hj]
  · rw [Nat.testBit_lt_two_pow (Nat.lt_of_lt_of_le h (Nat.pow_le_pow_right (by omega) (by omega)))]
    simp
theorem ofF_congr {F G : Nat → Bool} {n : Nat} (h : ∀ j, j < n → F j = G j) : ofF F n = ofF G n := by
  apply Nat.eq_of_testBit_eq
  intro j
  rw [testBit_ofF, testBit_ofF]
  by_cases hj : j < n
  · rw [h j hj]
  · simp [hj]
theorem and_zero_of {a b : Nat} (h : ∀ j, a.testBit j = true → b.testBit j = false) : a &&& b = 0 := by
  apply Nat.eq_of_testBit_eq
  intro j
  rw [Nat.testBit_and, Nat.zero_testBit]
  cases ha : a.testBit j
  · rfl
  · rw [h j ha]; rfl
/-- Numbers without a bit in common: the sum is the union. -/
theorem add_or : ∀ (a b : Nat), a &&& b = 0 → a + b = a ||| b := by
  intro a
  induction a using Nat.strongRecOn with
  | _ a ih =>
    intro b h
    rcases Nat.eq_zero_or_pos a with rfl | hp
    · simp
    · have h2 : (a / 2) &&& (b / 2) = 0 := by
        rw [← Nat.and_div_two, h]
      have := ih (a / 2) (by omega) (b / 2) h2
      have hd : (a ||| b) / 2 = a / 2 ||| b / 2 := Nat.or_div_two
      have hm : (a ||| b) % 2 = a % 2 + b % 2 := by
        have e0 : (a &&& b).testBit 0 = false := by rw [h]; simp
        rw [Nat.testBit_and, Nat.testBit_zero, Nat.testBit_zero] at e0
        have e1 : (a ||| b).testBit 0 = (a.testBit 0 || b.testBit 0) := Nat.testBit_or _ _ _
        rw [Nat.testBit_zero, Nat.testBit_zero, Nat.testBit_zero] at e1
        rcases Nat.mod_two_eq_zero_or_one a with ha | ha <;> rcases Nat.mod_two_eq_zero_or_one b with hb | hb <;> rcases Nat.mod_two_eq_zero_or_one (a ||| b) with hc | hc <;> rw [ha, hb] at e0 e1 <;> rw [hc] at e1 <;> simp at e0 e1 <;> rw [ha, hb, hc]
      have := Nat.div_add_mod (a ||| b) 2
      omega
theorem testBit_add {a b : Nat} (h : ∀ j, a.testBit j = true → b.testBit j = false) (j : Nat) : (a + b).testBit j = (a.testBit j || b.testBit j) := by
  rw [add_or _ _ (and_zero_of h), Nat.testBit_or]
theorem add_two_pow {m i : Nat} (h : m.testBit i = false) : m + 2 ^ i = m ||| 2 ^ i := by
  apply add_or
  apply and_zero_of
  intro j hj
  rw [Nat.testBit_two_pow]
  by_cases e : i = j
  · subst e; rw [h] at hj; cases hj
  · simp [e]
/-- p lies in m. -/
def SubM (p m : Nat) : Prop := ∀ j, p.testBit j = true → m.testBit j = true
theorem SubM.le {p m : Nat} (h : SubM p m) : p ≤ m := by
  have e : p &&& m = p := by
    apply Nat.eq_of_testBit_eq
    intro j
    rw [Nat.testBit_and]
    cases hp : p.testBit j
    · rfl
    · rw [h j hp]; rfl
  rw [← e]; exact Nat.and_le_right
theorem testBit_sub {p m : Nat} (h : SubM p m) (j : Nat) : (m - p).testBit j = (m.testBit j && !p.testBit j) := by
  obtain ⟨n, hn⟩ : ∃ n, m < 2 ^ n := ⟨m, Nat.lt_two_pow_self⟩
  obtain ⟨d, hd⟩ : ∃ d, d = ofF (fun j => m.testBit j && !p.testBit j) n := ⟨_, rfl⟩
  have hdt : ∀ j, d.testBit j = (m.testBit j && !p.testBit j) := by
    intro j
    rw [hd, testBit_ofF]
    by_cases hj : j < n
    · simp [hj]
    · rw [Nat.testBit_lt_two_pow (Nat.lt_of_lt_of_le hn (Nat.pow_le_pow_right (by omega) (by omega)))]
      simp
  have hs : d + p = m := by
    apply Nat.eq_of_testBit_eq
    intro j
    rw [testBit_add (fun j hj => by rw [hdt] at hj; simp at hj; exact hj.2), hdt]
    cases hp : p.testBit j
    · simp
    · rw [h j hp]; rfl
  have : m - p = d := by omega
  rw [this, hdt]
theorem exists_bit {m : Nat} (h : 0 < m) : ∃ k, m.testBit k = true ∧ ∀ j, j < k → m.testBit j = false := by
  obtain ⟨k, hk⟩ := Nat.exists_testBit_of_ne_zero (x := m) (by omega)
  induction k using Nat.strongRecOn with
  | _ k ih =>
    by_cases hh : ∃ j, j < k ∧ m.testBit j = true
    · obtain ⟨j, hj, e⟩ := hh
      exact ih j hj e
    · exact ⟨k, hk, fun j hj => by
        cases e : m.testBit j
        · rfl
        · exact absurd ⟨j, hj, e⟩ hh⟩
/-- The bits of a number less one, below, at and above its least bit. -/
theorem testBit_pred {m k : Nat} (hk : m.testBit k = true) (hl : ∀ j, j < k → m.testBit j = false) (j : Nat) : (m - 1).testBit j = (decide (j < k) || (decide (k < j) && m.testBit j)) := by
  obtain ⟨d, hd⟩ : ∃ d, d = m - 2 ^ k := ⟨_, rfl⟩
  have hs : SubM (2 ^ k) m := fun j hj => by
    rw [Nat.testBit_two_pow] at hj
    simp at hj
    subst hj; exact hk
  have hle := hs.le
  have hdt : ∀ j, d.testBit j = (m.testBit j && !(2 ^ k).testBit j) := fun j => by rw [hd]; exact testBit_sub hs j
  have hp : 0 < 2 ^ k := Nat.two_pow_pos k
  have e : m - 1 = (2 ^ k - 1) + d := by omega
  rw [e, testBit_add (fun j hj => by
    rw [Nat.testBit_two_pow_sub_one] at hj
    simp at hj
    rw [hdt, hl j hj]; rfl), Nat.testBit_two_pow_sub_one, hdt, Nat.testBit_two_pow]
  by_cases h1 : j < k
  · simp [h1]
  · by_cases h2 : k = j
    · subst h2; simp
    · have : k < j := by omega
      simp [h1, h2, this]

/-! ### The program's operations at numbers that are not negative -/
theorem bv_nat {a : Nat} (h : a < 2 ^ 62) : (BitVec.ofInt 64 (a : Int)).toNat = a := by
  rw [BitVec.ofInt_natCast, BitVec.toNat_ofNat]; exact Nat.mod_eq_of_lt (by omega)
theorem and_nat {a b : Nat} (ha : a < 2 ^ 62) (hb : b < 2 ^ 62) : bits BinOp.and IntKind.i64 (a : Int) (b : Int) = ((a &&& b : Nat) : Int) := by
  have h4 : bits BinOp.and IntKind.i64 (a : Int) b = IntKind.i64.wrap ((BitVec.ofInt 64 (a : Int) &&& BitVec.ofInt 64 (b : Int)).toNat : Int) := rfl
  rw [h4, BitVec.toNat_and, bv_nat ha, bv_nat hb]
  have : a &&& b ≤ a := Nat.and_le_left
  exact IntWalk.i64_in _ (by omega)
theorem or_nat {a b : Nat} (ha : a < 2 ^ 62) (hb : b < 2 ^ 62) : bits BinOp.or IntKind.i64 (a : Int) (b : Int) = ((a ||| b : Nat) : Int) := by
  have h4 : bits BinOp.or IntKind.i64 (a : Int) b = IntKind.i64.wrap ((BitVec.ofInt 64 (a : Int) ||| BitVec.ofInt 64 (b : Int)).toNat : Int) := rfl
  rw [h4, BitVec.toNat_or, bv_nat ha, bv_nat hb]
  have : a ||| b < 2 ^ 62 := Nat.or_lt_two_pow ha hb
  exact IntWalk.i64_in _ (by omega)
/-- 'm & -m' is the least bit. -/
theorem least_bit {m k : Nat} (h : m < 2 ^ 62) (hk : m.testBit k = true) (hl : ∀ j, j < k → m.testBit j = false) : bits BinOp.and IntKind.i64 (m : Int) (-(m : Int)) = ((2 ^ k : Nat) : Int) := by
  have h4 : bits BinOp.and IntKind.i64 (m : Int) (-(m : Int)) = IntKind.i64.wrap ((BitVec.ofInt 64 (m : Int) &&& BitVec.ofInt 64 (-(m : Int))).toNat : Int) := rfl
  have hp : 0 < m := by
    rcases Nat.eq_zero_or_pos m with rfl | h
    · simp at hk
    · exact h
  have hn : (BitVec.ofInt 64 (-(m : Int))).toNat = 2 ^ 64 - ((m - 1) + 1) := by
    rw [BitVec.toNat_ofInt]; omega
  have hkl : k < 62 := by
    rcases Nat.lt_or_ge k 62 with h' | h'
    · exact h'
    · rw [Nat.testBit_lt_two_pow (Nat.lt_of_lt_of_le h (Nat.pow_le_pow_right (by omega) h'))] at hk; cases hk
  have e : m &&& (2 ^ 64 - ((m - 1) + 1)) = 2 ^ k := by
    apply Nat.eq_of_testBit_eq
    intro j
    rw [Nat.testBit_and, Nat.testBit_two_pow_sub_succ (by omega), testBit_pred hk hl, Nat.testBit_two_pow]
    by_cases h1 : j < k
    · have : ¬ k = j := by omega
      simp [h1, this, hl j h1]
    · by_cases h2 : k = j
      · subst h2
        have : k < 64 := by omega
        simp [hk, this]
      · have : k < j := by omega
        cases hj : m.testBit j <;> simp [h1, h2, this]
  rw [h4, BitVec.toNat_and, bv_nat h, hn, e]
  have : 2 ^ k < 2 ^ 62 := Nat.pow_lt_pow_of_lt (by omega) hkl
  exact IntWalk.i64_in _ (by omega)
theorem pow_cast (n : Nat) : ((2 : Int) ^ n) = ((2 ^ n : Nat) : Int) := by simp
theorem shr_cast (M i : Nat) : (M : Int) / 2 ^ i = ((M >>> i : Nat) : Int) := by
  rw [pow_cast, ← Int.natCast_ediv, Nat.shiftRight_eq_div_pow]
end Go.Proofs.Ytncahchhinfneaa

/-! Cell -/
namespace Go.Proofs.Ytncahchhinfneaa
open Go.RowKit

def shapeB (w h M : Int) : Bool := inB w 1 6 && inB h 1 6 && inB M 0 (2 ^ (w * h).toNat - 1)
theorem mul_le36 {w h : Int} (hw : 1 ≤ w ∧ w ≤ 6) (hh : 1 ≤ h ∧ h ≤ 6) : 1 ≤ w * h ∧ w * h ≤ 36 := by
  obtain ⟨h1, h2⟩ := hw
  have : w = 1 ∨ w = 2 ∨ w = 3 ∨ w = 4 ∨ w = 5 ∨ w = 6 := by omega
  rcases this with rfl | rfl | rfl | rfl | rfl | rfl <;> omega
theorem pow_le36 {n : Nat} (h : n ≤ 36) : (2 : Int) ^ n ≤ 68719476736 ∧ 1 ≤ (2 : Int) ^ n := by
  have h1 : (2 : Nat) ^ n ≤ 2 ^ 36 := Nat.pow_le_pow_right (by omega) h
  have h2 : 0 < (2 : Nat) ^ n := Nat.two_pow_pos n
  rw [pow_cast]
  omega
set_option maxRecDepth 100000 in
theorem spec_shape (w h M : Int) (W : World) : Calls Try.prog 118 #[.int .i64 w, .int .i64 h, .int .i64 M] W fun e w' => e = .returned (.bool (shapeB w h M)) ∧ w' = W := by
  have HB : Hid (shapeB w h M = (inB w 1 6 && inB h 1 6 && inB M 0 (2 ^ (w * h).toNat - 1))) := rfl
  cases h1 : inB w 1 6
  · rw [h1] at HB
    go_enter Try.func118, Try.ntmps118
    go_wp2_with fail
    refine (in_any _ _ _ _).mono ?_
    rintro e w1 ⟨rfl, rfl⟩
    rw [h1]
    go_wp2_with fail
    go_ret
    exact ⟨ret_bool HB.out.symm, rfl⟩
  cases h2 : inB h 1 6
  · rw [h1, h2] at HB
    go_enter Try.func118, Try.ntmps118
    go_wp2_with fail
    refine (in_any _ _ _ _).mono ?_
    rintro e w1 ⟨rfl, rfl⟩
    rw [h1]
    go_wp2_with fail
    refine (in_any _ _ _ _).mono ?_
    rintro e w1 ⟨rfl, rfl⟩
    rw [h2]
    go_wp2_with fail
    go_ret
    exact ⟨ret_bool HB.out.symm, rfl⟩
  have hm := mul_le36 (inB_spec.1 h1) (inB_spec.1 h2)
  rw [h1, h2] at HB
  obtain ⟨n, hn⟩ : ∃ n : Nat, w * h = n := ⟨(w * h).toNat, by omega⟩
  go_enter Try.func118, Try.ntmps118
  go_wp2_with fail
  refine (in_any _ _ _ _).mono ?_
  rintro e w1 ⟨rfl, rfl⟩
  rw [h1]
  go_wp2_with fail
  refine (in_any _ _ _ _).mono ?_
  rintro e w1 ⟨rfl, rfl⟩
  rw [h2]
  go_wp2_with fail
  refine (in_any _ _ _ _).mono ?_
  rintro e w1 ⟨rfl, rfl⟩
  go_wp2_with fail
  go_ret
  exact ⟨ret_bool (by
    have e1 := pow_le36 (n := n) (by omega)
    have e2 : wrap64 (2 ^ n) = 2 ^ n := IntWalk.wrap64_in _ (by omega)
    have e3 : wrap64 (2 ^ n - 1) = 2 ^ n - 1 := IntWalk.wrap64_in _ (by omega)
    rw [HB.out, e2, e3, hn]; simp), rfl⟩
set_option maxRecDepth 100000 in
theorem impl_shape (w h M : Int) (W : World) : Calls Try.prog 47 #[.int .i64 w, .int .i64 h, .int .i64 M] W fun e w' => e = .returned (.bool (shapeB w h M)) ∧ w' = W := by
  have HB : Hid (shapeB w h M = (inB w 1 6 && inB h 1 6 && inB M 0 (2 ^ (w * h).toNat - 1))) := rfl
  cases h1 : inB w 1 6
  · rw [h1] at HB
    go_enter Try.func47, Try.ntmps47
    go_wp2_with fail
    refine (from_any _ _ _ _).mono ?_
    rintro e w1 ⟨rfl, rfl⟩
    rw [h1]
    go_wp2_with fail
    go_ret
    exact ⟨ret_bool HB.out.symm, rfl⟩
  cases h2 : inB h 1 6
  · rw [h1, h2] at HB
    go_enter Try.func47, Try.ntmps47
    go_wp2_with fail
    refine (from_any _ _ _ _).mono ?_
    rintro e w1 ⟨rfl, rfl⟩
    rw [h1]
    go_wp2_with fail
    refine (from_any _ _ _ _).mono ?_
    rintro e w1 ⟨rfl, rfl⟩
    rw [h2]
    go_wp2_with fail
    go_ret
    exact ⟨ret_bool HB.out.symm, rfl⟩
  have hm := mul_le36 (inB_spec.1 h1) (inB_spec.1 h2)
  rw [h1, h2] at HB
  obtain ⟨n, hn⟩ : ∃ n : Nat, w * h = n := ⟨(w * h).toNat, by omega⟩
  go_enter Try.func47, Try.ntmps47
  go_wp2_with fail
  refine (from_any _ _ _ _).mono ?_
  rintro e w1 ⟨rfl, rfl⟩
  rw [h1]
  go_wp2_with fail
  refine (from_any _ _ _ _).mono ?_
  rintro e w1 ⟨rfl, rfl⟩
  rw [h2]
  go_wp2_with fail
  refine (from_any _ _ _ _).mono ?_
  rintro e w1 ⟨rfl, rfl⟩
  go_wp2_with fail
  go_ret
  exact ⟨ret_bool (by
    have e1 := pow_le36 (n := n) (by omega)
    have e2 : wrap64 (2 ^ n) = 2 ^ n := IntWalk.wrap64_in _ (by omega)
    have e3 : wrap64 (2 ^ n - 1) = 2 ^ n - 1 := IntWalk.wrap64_in _ (by omega)
    rw [HB.out, e2, e3, hn]; simp), rfl⟩
end Go.Proofs.Ytncahchhinfneaa

/-! Reach -/
namespace Go.Proofs.Ytncahchhinfneaa
open Go.RowKit

/-- What can be reached from i within F by steps of A. -/
inductive Rc (A : Nat → Nat → Prop) (F : Nat → Bool) (i : Nat) : Nat → Prop where
  | here : F i = true → Rc A F i i
  | step {j k : Nat} : Rc A F i j → A j k → F k = true → Rc A F i k
section
variable {A : Nat → Nat → Prop} {F G : Nat → Bool} {i j k : Nat}
theorem Rc.mem (h : Rc A F i j) : F j = true := by
  cases h <;> assumption
theorem Rc.start (h : Rc A F i j) : F i = true := by
  induction h with
  | here h => exact h
  | step _ _ _ ih => exact ih
theorem Rc.trans (h : Rc A F i j) (h2 : Rc A F j k) : Rc A F i k := by
  induction h2 with
  | here _ => exact h
  | step _ a f ih => exact .step ih a f
theorem Rc.symm (hA : ∀ a b, A a b → A b a) (h : Rc A F i j) : Rc A F j i := by
  induction h with
  | here h => exact .here h
  | @step j k h1 a f ih => exact Rc.trans (.step (.here f) (hA _ _ a) h1.mem) ih
theorem Rc.mono (hFG : ∀ j, F j = true → G j = true) (h : Rc A F i j) : Rc A G i j := by
  induction h with
  | here h => exact .here (hFG _ h)
  | step _ a f ih => exact .step ih a (hFG _ f)
/-- A closed set that holds the start holds all that can be reached. -/
theorem Rc.closed {S : Nat → Bool} (h0 : S i = true) (hc : ∀ a b, S a = true → A a b → F b = true → S b = true) (h : Rc A F i j) : S j = true := by
  induction h with
  | here _ => exact h0
  | step _ a f ih => exact hc _ _ ih a f
/-- Once a set with no way out is gone, what can be reached from elsewhere stays. -/
theorem Rc.without {S : Nat → Bool} (hA : ∀ a b, A a b → A b a) (hc : ∀ a b, S a = true → A a b → F b = true → S b = true) (hi : S i = false) (h : Rc A F i j) : Rc A (fun j => F j && !S j) i j := by
  induction h with
  | here h => exact .here (by simp [h, hi])
  | @step j k h1 a f ih =>
    refine .step ih a ?_
    have hj := ih.mem
    simp only [Bool.and_eq_true, Bool.not_eq_true'] at hj ⊢
    refine ⟨f, ?_⟩
    cases hk : S k
    · rfl
    · rw [hc k j hk (hA _ _ a) hj.1] at hj; exact absurd hj.2 (by simp)
end

/-- The mask p is the part of i in F. -/
def PartOf (A : Nat → Nat → Prop) (F : Nat → Bool) (i p : Nat) : Prop := ∀ j, p.testBit j = true ↔ Rc A F i j
theorem PartOf.uniq {A : Nat → Nat → Prop} {F : Nat → Bool} {i p q : Nat} (h : PartOf A F i p) (h2 : PartOf A F i q) : p = q := by
  apply Nat.eq_of_testBit_eq
  intro j
  rw [Bool.eq_iff_iff, h j, h2 j]
theorem PartOf.sub {A : Nat → Nat → Prop} {m i p : Nat} (h : PartOf A m.testBit i p) : SubM p m := fun j hj => ((h j).1 hj).mem

/-- The list of the parts of a mask, by their least cells. -/
inductive PartsR (A : Nat → Nat → Prop) : Nat → List Nat → Prop where
  | none : PartsR A 0 []
  | more {m k p : Nat} {L : List Nat} : m.testBit k = true → (∀ j, j < k → m.testBit j = false) → PartOf A m.testBit k p → PartsR A (m - p) L → PartsR A m (p :: L)
theorem least_uniq {m k k' : Nat} (h : m.testBit k = true) (hl : ∀ j, j < k → m.testBit j = false) (h' : m.testBit k' = true) (hl' : ∀ j, j < k' → m.testBit j = false) : k = k' := by
  rcases Nat.lt_trichotomy k k' with a | a | a
  · rw [hl' k a] at h; cases h
  · exact a
  · rw [hl k' a] at h'; cases h'
theorem PartsR.uniq {A : Nat → Nat → Prop} {m : Nat} {L L' : List Nat} (h : PartsR A m L) (h' : PartsR A m L') : L = L' := by
  induction h generalizing L' with
  | none =>
    cases h' with
    | none => rfl
    | more hk _ _ _ => simp at hk
  | more hk hl hp _ ih =>
    cases h' with
    | none => simp at hk
    | more hk' hl' hp' h2 =>
      obtain rfl := least_uniq hk hl hk' hl'
      obtain rfl := hp.uniq hp'
      rw [ih h2]
/-- One part exactly: the part of the least cell is all. -/
theorem PartsR.one {A : Nat → Nat → Prop} {m k p : Nat} {L : List Nat} (h : PartsR A m L) (hk : m.testBit k = true) (hl : ∀ j, j < k → m.testBit j = false) (hp : PartOf A m.testBit k p) : L.length = 1 ↔ p = m := by
  cases h with
  | none => simp at hk
  | more hk' hl' hp' h2 =>
    obtain rfl := least_uniq hk hl hk' hl'
    obtain rfl := hp.uniq hp'
    have hle := hp.sub.le
    constructor
    · intro h1
      have : m - p = 0 := by
        generalize m - p = d at h2
        cases h2 with
        | none => rfl
        | more _ _ _ _ => simp at h1
      omega
    · rintro rfl
      rw [Nat.sub_self] at h2
      cases h2 with
      | none => rfl
      | more hk2 _ _ _ => simp at hk2

/-! ### Neighbors in a table -/
def Adj (w h : Nat) (i j : Nat) : Prop := i < w * h ∧ j < w * h ∧ ((i % w = j % w ∧ (i / w + 1 = j / w ∨ j / w + 1 = i / w)) ∨ (i / w = j / w ∧ (i % w + 1 = j % w ∨ j % w + 1 = i % w)))
theorem Adj.symm {w h i j : Nat} (a : Adj w h i j) : Adj w h j i := by
  unfold Adj at *; omega

/-! ### Growth: the cells that are near, step by step -/
/-- What a cell brings: its neighbors. -/
def sides (w h k : Nat) (o : Nat) : Nat :=
  let x := k % w
  let y := k / w
  let o := if 0 < x then o ||| 2 ^ (k - 1) else o
  let o := if x + 1 < w then o ||| 2 ^ (k + 1) else o
  let o := if 0 < y then o ||| 2 ^ (k - w) else o
  if y + 1 < h then o ||| 2 ^ (k + w) else o
def nearT (w h M : Nat) : Nat → Nat
  | 0 => M
  | k + 1 => if M.testBit k then sides w h k (nearT w h M k) else nearT w h M k
theorem tb_or_pow {o a j : Nat} : (o ||| 2 ^ a).testBit j = (o.testBit j || decide (a = j)) := by
  rw [Nat.testBit_or, Nat.testBit_two_pow]
theorem tb_if {c : Prop} [Decidable c] {o a j : Nat} : (if c then o ||| 2 ^ a else o).testBit j = (o.testBit j || (decide c && decide (a = j))) := by
  by_cases h : c
  · rw [if_pos h, tb_or_pow]; simp [h]
  · rw [if_neg h]; simp [h]
theorem row_col {w k x y : Nat} (hw : 0 < w) (hx : x < w) (e : k = y * w + x) : k % w = x ∧ k / w = y := by
  subst e
  constructor
  · rw [Nat.add_comm, Nat.add_mul_mod_self_right, Nat.mod_eq_of_lt hx]
  · rw [Nat.add_comm, Nat.add_mul_div_right _ _ hw, Nat.div_eq_of_lt hx, Nat.zero_add]
theorem in_tab {w h x y : Nat} (hx : x < w) (hy : y < h) : y * w + x < w * h := by
  have : (y + 1) * w ≤ h * w := Nat.mul_le_mul_right w hy
  rw [Nat.add_mul, Nat.one_mul] at this
  rw [Nat.mul_comm w h]
  omega
theorem adj_iff {w h k j : Nat} (hw : 0 < w) (hk : k < w * h) :
    Adj w h k j ↔ ((0 < k % w ∧ k - 1 = j) ∨ (k % w + 1 < w ∧ k + 1 = j) ∨ (0 < k / w ∧ k - w = j) ∨ (k / w + 1 < h ∧ k + w = j)) := by
  have hkd : k = k / w * w + k % w := by have := Nat.div_add_mod k w; rw [Nat.mul_comm] at this; omega
  have hjd : j = j / w * w + j % w := by have := Nat.div_add_mod j w; rw [Nat.mul_comm] at this; omega
  have hkm := Nat.mod_lt k hw
  have hjm := Nat.mod_lt j hw
  have hky : k / w < h := by rw [Nat.div_lt_iff_lt_mul hw, Nat.mul_comm]; exact hk
  constructor
  · rintro ⟨-, hj, h1⟩
    have hjy : j / w < h := by rw [Nat.div_lt_iff_lt_mul hw, Nat.mul_comm]; exact hj
    generalize k / w = a at *
    generalize j / w = b at *
    generalize k % w = c at *
    generalize j % w = d at *
    rcases h1 with ⟨e, e2 | e2⟩ | ⟨e, e2 | e2⟩
    · refine .inr (.inr (.inr ⟨by omega, ?_⟩))
      have hm : b * w = a * w + w := by rw [← e2, Nat.add_mul, Nat.one_mul]
      omega
    · refine .inr (.inr (.inl ⟨by omega, ?_⟩))
      have hm : a * w = b * w + w := by rw [← e2, Nat.add_mul, Nat.one_mul]
      omega
    · refine .inr (.inl ⟨by omega, ?_⟩)
      subst e; omega
    · refine .inl ⟨by omega, ?_⟩
      subst e; omega
  · rintro (⟨h1, rfl⟩ | ⟨h1, rfl⟩ | ⟨h1, rfl⟩ | ⟨h1, rfl⟩)
    · obtain ⟨a, b⟩ := row_col hw (show k % w - 1 < w by omega) (show k - 1 = k / w * w + (k % w - 1) by omega)
      exact ⟨hk, by omega, .inr ⟨b.symm, .inr (by rw [a]; omega)⟩⟩
    · obtain ⟨a, b⟩ := row_col hw h1 (show k + 1 = k / w * w + (k % w + 1) by omega)
      have := in_tab (h := h) h1 hky
      exact ⟨hk, by omega, .inr ⟨b.symm, .inl a.symm⟩⟩
    · have e : k / w * w = (k / w - 1) * w + w := by
        have : k / w = (k / w - 1) + 1 := by omega
        rw [show k / w * w = ((k / w - 1) + 1) * w by rw [← this], Nat.add_mul, Nat.one_mul]
      obtain ⟨a, b⟩ := row_col hw hkm (show k - w = (k / w - 1) * w + k % w by omega)
      exact ⟨hk, by omega, .inl ⟨a.symm, .inr (by rw [b]; omega)⟩⟩
    · have e : (k / w + 1) * w = k / w * w + w := by rw [Nat.add_mul, Nat.one_mul]
      obtain ⟨a, b⟩ := row_col hw hkm (show k + w = (k / w + 1) * w + k % w by omega)
      have := in_tab (x := k % w) hkm h1
      exact ⟨hk, by omega, .inl ⟨a.symm, .inl b.symm⟩⟩
theorem testBit_sides {w h k : Nat} (o j : Nat) (hw : 0 < w) (hk : k < w * h) : (sides w h k o).testBit j = true ↔ o.testBit j = true ∨ Adj w h k j := by
  rw [adj_iff hw hk]
  unfold sides
  simp only [tb_if, Bool.or_eq_true, Bool.and_eq_true, decide_eq_true_eq]
  constructor
  · rintro ((((h | h) | h) | h) | h)
    · exact .inl h
    · exact .inr (.inl h)
    · exact .inr (.inr (.inl h))
    · exact .inr (.inr (.inr (.inl h)))
    · exact .inr (.inr (.inr (.inr h)))
  · rintro (h | h | h | h | h)
    · exact .inl (.inl (.inl (.inl h)))
    · exact .inl (.inl (.inl (.inr h)))
    · exact .inl (.inl (.inr h))
    · exact .inl (.inr h)
    · exact .inr h
theorem testBit_nearT {w h M : Nat} (hw : 0 < w) (j : Nat) : ∀ k, k ≤ w * h → ((nearT w h M k).testBit j = true ↔ M.testBit j = true ∨ ∃ i, i < k ∧ M.testBit i = true ∧ Adj w h i j) := by
  intro k
  induction k with
  | zero => intro _; simp [nearT]
  | succ k ih =>
    intro hk
    have ih := ih (by omega)
    simp only [nearT]
    by_cases hm : M.testBit k = true
    · rw [if_pos hm, testBit_sides _ _ hw (by omega), ih]
      constructor
      · rintro ((h | ⟨i, a, b, c⟩) | h)
        · exact .inl h
        · exact .inr ⟨i, by omega, b, c⟩
        · exact .inr ⟨k, by omega, hm, h⟩
      · rintro (h | ⟨i, a, b, c⟩)
        · exact .inl (.inl h)
        · rcases Nat.lt_or_ge i k with h | h
          · exact .inl (.inr ⟨i, h, b, c⟩)
          · obtain rfl : i = k := by omega
            exact .inr c
    · rw [if_neg hm, ih]
      constructor
      · rintro (h | ⟨i, a, b, c⟩)
        · exact .inl h
        · exact .inr ⟨i, by omega, b, c⟩
      · rintro (h | ⟨i, a, b, c⟩)
        · exact .inl h
        · rcases Nat.lt_or_ge i k with h | h
          · exact .inr ⟨i, h, b, c⟩
          · obtain rfl : i = k := by omega
            exact absurd b hm
theorem nearT_lt {w h M : Nat} (hw : 0 < w) (hM : M < 2 ^ (w * h)) (k : Nat) (hk : k ≤ w * h) : nearT w h M k < 2 ^ (w * h) := by
  apply Nat.lt_pow_two_of_testBit
  intro j hj
  rw [← Bool.not_eq_true, testBit_nearT hw j k hk]
  rintro (h | ⟨i, _, _, a⟩)
  · rw [Nat.testBit_lt_two_pow (Nat.lt_of_lt_of_le hM (Nat.pow_le_pow_right (by omega) hj))] at h; cases h
  · exact absurd a.2.1 (by omega)
/-- One step of growth within m. -/
def grow1 (w h m p : Nat) : Nat := nearT w h p (w * h) &&& m
theorem testBit_grow1 {w h m p : Nat} (hw : 0 < w) (hs : SubM p m) (j : Nat) : (grow1 w h m p).testBit j = true ↔ p.testBit j = true ∨ (m.testBit j = true ∧ ∃ i, p.testBit i = true ∧ Adj w h i j) := by
  unfold grow1
  rw [Nat.testBit_and, Bool.and_eq_true, testBit_nearT hw j _ (Nat.le_refl _)]
  constructor
  · rintro ⟨h | ⟨i, _, a, b⟩, c⟩
    · exact .inl h
    · exact .inr ⟨c, i, a, b⟩
  · rintro (h | ⟨c, i, a, b⟩)
    · exact ⟨.inl h, hs j h⟩
    · exact ⟨.inr ⟨i, b.1, a, b⟩, c⟩
/-- What growth keeps: all is reached from k, k is in it, it lies in m. -/
def Grown (w h m k p : Nat) : Prop := p.testBit k = true ∧ ∀ j, p.testBit j = true → Rc (Adj w h) m.testBit k j
theorem Grown.sub {w h m k p : Nat} (g : Grown w h m k p) : SubM p m := fun j hj => (g.2 j hj).mem
theorem Grown.start {w h m k : Nat} (hk : m.testBit k = true) : Grown w h m k (2 ^ k) :=
  ⟨by simp, fun j hj => by
    rw [Nat.testBit_two_pow] at hj
    simp at hj
    subst hj
    exact .here hk⟩
theorem lt_of_sub {m p n : Nat} (hs : SubM p m) (hm : m < 2 ^ n) : p < 2 ^ n := Nat.lt_of_le_of_lt hs.le hm
theorem Grown.next {w h m k p : Nat} (hw : 0 < w) (g : Grown w h m k p) : Grown w h m k (grow1 w h m p) ∧ p ≤ grow1 w h m p := by
  have ht := testBit_grow1 (h := h) hw g.sub
  refine ⟨⟨(ht k).2 (.inl g.1), fun j hj => ?_⟩, SubM.le fun j hj => (ht j).2 (.inl hj)⟩
  rcases (ht j).1 hj with h | ⟨a, i, b, c⟩
  · exact g.2 j h
  · exact .step (g.2 i b) c a
theorem Grown.done {w h m k p : Nat} (hw : 0 < w) (g : Grown w h m k p) (he : grow1 w h m p = p) : PartOf (Adj w h) m.testBit k p := fun j => by
  refine ⟨g.2 j, fun hr => ?_⟩
  have ht := testBit_grow1 (h := h) hw g.sub
  rw [he] at ht
  exact hr.closed (S := p.testBit) g.1 (fun a b h1 h2 h3 => (ht b).2 (.inr ⟨h3, a, h1, h2⟩))

/-! ### Taking: a cell, then what can be reached from each neighbor in what is left -/
def rem1 (F : Nat → Bool) (i : Nat) : Nat → Bool := fun j => F j && !decide (j = i)
def less (F : Nat → Bool) (p : Nat) : Nat → Bool := fun j => F j && !p.testBit j
theorem less_zero (F : Nat → Bool) : less F 0 = F := by funext j; simp [less]
theorem less_or (F : Nat → Bool) (p q : Nat) : less (less F p) q = less F (p ||| q) := by
  funext j; simp [less, Nat.testBit_or, Bool.and_assoc]
theorem less_pow (F : Nat → Bool) (i : Nat) : less F (2 ^ i) = rem1 F i := by
  funext j
  simp only [less, rem1, Nat.testBit_two_pow]
  congr 2
  rw [decide_eq_decide]; omega
/-- P is what can be reached from the place o, if it is one. -/
def Took (A : Nat → Nat → Prop) (F : Nat → Bool) (o : Option Nat) (P : Nat) : Prop := ∀ j, P.testBit j = true ↔ ∃ k, o = some k ∧ Rc A F k j
theorem Took.none {A : Nat → Nat → Prop} {F : Nat → Bool} : Took A F .none 0 := fun j => by simp
theorem Took.off {A : Nat → Nat → Prop} {F : Nat → Bool} {k : Nat} (h : F k = false) : Took A F (some k) 0 := fun j => by
  simp only [Nat.zero_testBit, Bool.false_eq_true, false_iff]
  rintro ⟨k', e, r⟩
  cases e
  have := r.start
  rw [h] at this; cases this
theorem Took.part {A : Nat → Nat → Prop} {F : Nat → Bool} {k P : Nat} (h : Took A F (some k) P) : PartOf A F k P := fun j => by
  rw [h j]; simp
def Taking (A : Nat → Nat → Prop) (F : Nat → Bool) (i : Nat) (os : List (Option Nat)) (P : Nat) : Prop := ∀ j, P.testBit j = true ↔ j = i ∨ ∃ k, some k ∈ os ∧ Rc A (rem1 F i) k j
theorem Taking.start {A : Nat → Nat → Prop} {F : Nat → Bool} {i : Nat} : Taking A F i [] (2 ^ i) := fun j => by
  rw [Nat.testBit_two_pow]
  simp [eq_comm]
theorem Taking.next {A : Nat → Nat → Prop} {F : Nat → Bool} {i P Q : Nat} {os : List (Option Nat)} {o : Option Nat} (hA : ∀ a b, A a b → A b a) (T : Taking A F i os P) (hQ : Took A (less F P) o Q) : Taking A F i (os ++ [o]) (P ||| Q) := fun j => by
  have hsub : ∀ j, less F P j = true → rem1 F i j = true := fun j hj => by
    simp only [less, rem1, Bool.and_eq_true, Bool.not_eq_true', decide_eq_false_iff_not] at hj ⊢
    refine ⟨hj.1, fun e => ?_⟩
    have := (T j).2 (.inl e)
    rw [hj.2] at this; cases this
  have hQ' : ∀ j, Q.testBit j = true → ∃ k, o = some k ∧ Rc A (rem1 F i) k j := fun j hj => by
    obtain ⟨k, e, r⟩ := (hQ j).1 hj
    exact ⟨k, e, r.mono hsub⟩
  rw [Nat.testBit_or, Bool.or_eq_true]
  constructor
  · rintro (h | h)
    · rcases (T j).1 h with h | ⟨k, a, b⟩
      · exact .inl h
      · exact .inr ⟨k, by simp [a], b⟩
    · obtain ⟨k, a, b⟩ := hQ' j h
      exact .inr ⟨k, by simp [a], b⟩
  · rintro (h | ⟨k, a, b⟩)
    · exact .inl ((T j).2 (.inl h))
    · rcases List.mem_append.1 a with a | a
      · exact .inl ((T j).2 (.inr ⟨k, a, b⟩))
      · have e : o = some k := (List.mem_singleton.1 a).symm
        cases hk : P.testBit k
        · -- k is left: what can be reached from it is left, too
          refine .inr ((hQ j).2 ⟨k, e, ?_⟩)
          have hc : ∀ a b, (P.testBit a && !decide (a = i)) = true → A a b → rem1 F i b = true → (P.testBit b && !decide (b = i)) = true := fun a b h1 h2 h3 => by
            simp only [Bool.and_eq_true, Bool.not_eq_true', decide_eq_false_iff_not] at h1 ⊢
            have hb : ¬ b = i := by
              simp only [rem1, Bool.and_eq_true, Bool.not_eq_true', decide_eq_false_iff_not] at h3
              exact h3.2
            refine ⟨?_, hb⟩
            rcases (T a).1 h1.1 with h | ⟨k', h4, h5⟩
            · exact absurd h h1.2
            · exact (T b).2 (.inr ⟨k', h4, .step h5 h2 h3⟩)
          have := Rc.without (S := fun a => P.testBit a && !decide (a = i)) hA hc (by simp [hk]) b
          refine this.mono fun j hj => ?_
          simp only [rem1, less, Bool.and_eq_true, Bool.not_eq_true', decide_eq_false_iff_not, Bool.and_eq_false_iff, Bool.not_eq_false', decide_eq_true_eq] at hj ⊢
          refine ⟨hj.1.1, ?_⟩
          rcases hj.2 with h | h
          · exact h
          · exact absurd h hj.1.2
        · rcases (T k).1 hk with h | ⟨k', h4, h5⟩
          · have := b.start
            simp [rem1, h] at this
          · exact .inl ((T j).2 (.inr ⟨k', h4, h5.trans b⟩))
theorem Taking.done {A : Nat → Nat → Prop} {F : Nat → Bool} {i P : Nat} {os : List (Option Nat)} (hi : F i = true) (hos : ∀ k, some k ∈ os ↔ A i k) (T : Taking A F i os P) : Took A F (some i) P := fun j => by
  have hm : ∀ j, rem1 F i j = true → F j = true := fun j hj => by simp [rem1] at hj; exact hj.1
  rw [T j]
  constructor
  · rintro (rfl | ⟨k, a, b⟩)
    · exact ⟨_, rfl, .here hi⟩
    · exact ⟨i, rfl, Rc.trans (.step (.here hi) ((hos k).1 a) (hm _ b.start)) (b.mono hm)⟩
  · rintro ⟨k, e, r⟩
    cases e
    induction r with
    | here _ => exact .inl rfl
    | @step j k h1 a f ih =>
      by_cases hk : k = i
      · exact .inl hk
      · have fk : rem1 F i k = true := by simp [rem1, f, hk]
        rcases ih with rfl | ⟨k', h4, h5⟩
        · exact .inr ⟨k, (hos k).2 a, .here fk⟩
        · exact .inr ⟨k', h4, .step h5 a fk⟩
/-- The neighbors of a cell: up, left, right, down. -/
def nbI (w h i : Nat) (t : Nat) : Option Nat :=
  match t with
  | 0 => if 0 < i / w then some (i - w) else none
  | 1 => if 0 < i % w then some (i - 1) else none
  | 2 => if i % w + 1 < w then some (i + 1) else none
  | _ => if i / w + 1 < h then some (i + w) else none
theorem nbI_adj {w h i : Nat} (hw : 0 < w) (hi : i < w * h) (k : Nat) : some k ∈ ((List.range 4).map (nbI w h i)) ↔ Adj w h i k := by
  rw [adj_iff hw hi]
  have e : (List.range 4).map (nbI w h i) = [nbI w h i 0, nbI w h i 1, nbI w h i 2, nbI w h i 3] := rfl
  rw [e]
  simp only [nbI, List.mem_cons, List.not_mem_nil, or_false]
  have hif : ∀ (c : Prop) [Decidable c] (a : Nat), (some k = if c then some a else none) ↔ (c ∧ a = k) := by
    intro c _ a
    by_cases h : c
    · rw [if_pos h]; simp [h, eq_comm]
    · rw [if_neg h]; simp [h]
  rw [hif, hif, hif, hif]
  constructor
  · rintro (h | h | h | h)
    · exact .inr (.inr (.inl h))
    · exact .inl h
    · exact .inr (.inl h)
    · exact .inr (.inr (.inr h))
  · rintro (h | h | h | h)
    · exact .inr (.inl h)
    · exact .inr (.inr (.inl h))
    · exact .inl h
    · exact .inr (.inr (.inr h))
/-- How many places are left. -/
def cntF (F : Nat → Bool) (n : Nat) : Nat := (List.range n).countP F
theorem cntF_mono {F G : Nat → Bool} {n : Nat} (h : ∀ j, F j = true → G j = true) : cntF F n ≤ cntF G n := List.countP_mono_left fun j _ => h j
theorem cntF_rem {F : Nat → Bool} {n i : Nat} (hi : i < n) (hF : F i = true) : cntF (rem1 F i) n < cntF F n := by
  unfold cntF
  induction n with
  | zero => omega
  | succ n ih =>
    rw [List.range_succ, List.countP_append, List.countP_append]
    simp only [List.countP_cons, List.countP_nil, Nat.zero_add]
    by_cases e : i = n
    · subst e
      have := cntF_mono (F := rem1 F i) (G := F) (n := i) (fun j hj => by simp [rem1] at hj; exact hj.1)
      unfold cntF at this
      have e0 : rem1 F i i = false := by simp [rem1]
      rw [e0, hF]
      simp
      omega
    · have := ih (by omega)
      have e2 : rem1 F i n = F n := by simp [rem1, Ne.symm e]
      rw [e2]; omega
end Go.Proofs.Ytncahchhinfneaa

/-! Ones -/
namespace Go.Proofs.Ytncahchhinfneaa
open Go.RowKit

/-- The ones among the last k bits. -/
def pc : Nat → Nat → Nat
  | 0, _ => 0
  | k + 1, m => m % 2 + pc k (m / 2)
theorem pc_zero : ∀ k, pc k 0 = 0
  | 0 => rfl
  | k + 1 => by simp [pc, pc_zero k]
theorem pc_le : ∀ k m, pc k m ≤ k
  | 0, _ => Nat.le_refl _
  | k + 1, m => by have := pc_le k (m / 2); simp only [pc]; omega
theorem pc_add : ∀ a b m, pc (a + b) m = pc a m + pc b (m / 2 ^ a)
  | 0, b, m => by simp [pc]
  | a + 1, b, m => by
    have := pc_add a b (m / 2)
    rw [show a + 1 + b = (a + b) + 1 by omega]
    simp only [pc, this, Nat.div_div_eq_div_mul]
    rw [show 2 * 2 ^ a = 2 ^ (a + 1) by rw [Nat.pow_succ, Nat.mul_comm]]
    omega
theorem pc_mod : ∀ k m, pc k m = pc k (m % 2 ^ k)
  | 0, _ => rfl
  | k + 1, m => by
    have e1 : m % 2 ^ (k + 1) % 2 = m % 2 := by
      rw [Nat.pow_succ, Nat.mul_comm]; exact Nat.mod_mul_right_mod _ _ _
    have e2 : m % 2 ^ (k + 1) / 2 = m / 2 % 2 ^ k := by
      rw [Nat.pow_succ, Nat.mul_comm]; exact Nat.mod_mul_right_div_self _ _ _
    simp only [pc, e1, e2]
    rw [pc_mod k (m / 2)]
theorem pc_byte (k m : Nat) : pc (8 + k) m = pc 8 (m % 256) + pc k (m / 256) := by
  rw [pc_add, pc_mod 8 m]

/-- The mask with the byte c in each of n places. -/
def rep (c : Nat) : Nat → Nat
  | 0 => 0
  | n + 1 => c + 256 * rep c n
theorem and_byte (x c d : Nat) (hc : c < 256) : x &&& (c + 256 * d) = ((x % 256) &&& c) + 256 * ((x / 256) &&& d) := by
  have h1 : (x &&& (c + 256 * d)) % 2 ^ 8 = ((x % 2 ^ 8) &&& ((c + 256 * d) % 2 ^ 8)) := Nat.and_mod_two_pow
  have h2 : (x &&& (c + 256 * d)) / 2 ^ 8 = ((x / 2 ^ 8) &&& ((c + 256 * d) / 2 ^ 8)) := Nat.and_div_two_pow
  rw [show (c + 256 * d) % 2 ^ 8 = c by omega] at h1
  rw [show (c + 256 * d) / 2 ^ 8 = d by omega] at h2
  rw [show (2 : Nat) ^ 8 = 256 from rfl] at h1 h2
  omega
def st1 (n x : Nat) : Nat := (x / 2 &&& rep 85 n) + (x &&& rep 85 n)
def st2 (n x : Nat) : Nat := (x / 4 &&& rep 51 n) + (x &&& rep 51 n)
def st3 (n x : Nat) : Nat := (x / 16 + x) &&& rep 15 n
theorem bytes1 : ∀ b, b < 256 → ((b / 2 &&& 85) + (b &&& 85) < 256) := by decide +kernel
theorem shift1 : ∀ b, b < 256 → ∀ e, e < 2 → ((b / 2 + 128 * e) &&& 85) = (b / 2 &&& 85) := by decide +kernel
theorem shift2 : ∀ b, b < 256 → ∀ e, e < 4 → ((b / 4 + 64 * e) &&& 51) = (b / 4 &&& 51) := by decide +kernel
def by1 (b : Nat) : Nat := (b / 2 &&& 85) + (b &&& 85)
def by2 (b : Nat) : Nat := (by1 b / 4 &&& 51) + (by1 b &&& 51)
theorem byte_ok : ∀ b, b < 256 → by1 b < 256 ∧ by2 b % 16 ≤ 4 ∧ by2 b / 16 ≤ 4 ∧ by2 b % 16 + by2 b / 16 = pc 8 b := by decide +kernel
theorem st1_step (n x : Nat) : st1 (n + 1) x = by1 (x % 256) + 256 * st1 n (x / 256) := by
  unfold st1 by1
  simp only [rep]
  rw [and_byte _ _ _ (by omega), and_byte _ _ _ (by omega)]
  have e1 : x / 2 % 256 = x % 256 / 2 + 128 * (x / 256 % 2) := by omega
  have e2 : x / 2 / 256 = x / 256 / 2 := by omega
  rw [e1, e2, shift1 _ (by omega) _ (by omega)]
  omega
theorem st2_step (n a y : Nat) (ha : a < 256) : st2 (n + 1) (a + 256 * y) = ((a / 4 &&& 51) + (a &&& 51)) + 256 * st2 n y := by
  unfold st2
  simp only [rep]
  rw [and_byte _ _ _ (by omega), and_byte _ _ _ (by omega)]
  have e1 : (a + 256 * y) / 4 % 256 = a / 4 + 64 * (y % 4) := by omega
  have e2 : (a + 256 * y) / 4 / 256 = y / 4 := by omega
  rw [e1, e2, shift2 _ ha _ (by omega), show (a + 256 * y) % 256 = a by omega, show (a + 256 * y) / 256 = y by omega]
  omega
theorem and15 (x : Nat) : x &&& 15 = x % 16 := Nat.and_two_pow_sub_one_eq_mod x 4
theorem st3_step (n a y : Nat) (h1 : a % 16 ≤ 4) (h2 : a / 16 ≤ 4) (h3 : y % 16 ≤ 4) : st3 (n + 1) (a + 256 * y) = (a % 16 + a / 16) + 256 * st3 n y := by
  unfold st3
  simp only [rep]
  rw [and_byte _ _ _ (by omega), and15]
  have e1 : ((a + 256 * y) / 16 + (a + 256 * y)) % 256 % 16 = a % 16 + a / 16 := by omega
  have e2 : ((a + 256 * y) / 16 + (a + 256 * y)) / 256 = y / 16 + y := by omega
  rw [e1, e2]
/-- The bytes, each with the number of its ones. -/
def cntB : Nat → Nat → Nat
  | 0, _ => 0
  | n + 1, x => pc 8 (x % 256) + 256 * cntB n (x / 256)
def twoB : Nat → Nat → Nat
  | 0, _ => 0
  | n + 1, x => by2 (x % 256) + 256 * twoB n (x / 256)
theorem st12 : ∀ n x, st2 n (st1 n x) = twoB n x
  | 0, x => by simp [st2, twoB, rep]
  | n + 1, x => by
    have hb := byte_ok (x % 256) (by omega)
    rw [st1_step, st2_step _ _ _ hb.1, st12 n (x / 256)]
    rfl
theorem twoB_mod : ∀ n x, twoB n x % 16 ≤ 4
  | 0, _ => by simp [twoB]
  | n + 1, x => by
    have hb := byte_ok (x % 256) (by omega)
    simp only [twoB]; omega
theorem st123 : ∀ n x, st3 n (twoB n x) = cntB n x
  | 0, x => by simp [st3, cntB, rep]
  | n + 1, x => by
    have hb := byte_ok (x % 256) (by omega)
    simp only [twoB, cntB]
    rw [st3_step _ _ _ hb.2.1 hb.2.2.1 (twoB_mod _ _), st123 n (x / 256), hb.2.2.2]
theorem fold8 {p0 p1 p2 p3 p4 p5 p6 p7 : Nat} (l0 : p0 ≤ 8) (l1 : p1 ≤ 8) (l2 : p2 ≤ 8) (l3 : p3 ≤ 8) (l4 : p4 ≤ 8) (l5 : p5 ≤ 8) (l6 : p6 ≤ 8) (l7 : p7 ≤ 8) {y : Nat}
    (hy : y = p0 + 256 * (p1 + 256 * (p2 + 256 * (p3 + 256 * (p4 + 256 * (p5 + 256 * (p6 + 256 * (p7 + 256 * 0)))))))) : y < 2 ^ 60 ∧
    ((let a := y + y / 2 ^ 8; let b := a + a / 2 ^ 16; let c := b + b / 2 ^ 32; c % 128) = p0 + (p1 + (p2 + (p3 + (p4 + (p5 + (p6 + (p7 + 0)))))))) ∧ y + y / 2 ^ 8 < 2 ^ 61 ∧ (y + y / 2 ^ 8) + (y + y / 2 ^ 8) / 2 ^ 16 < 2 ^ 62 := by
  obtain ⟨z7, e7⟩ : ∃ z, z = p7 + 256 * 0 := ⟨_, rfl⟩
  obtain ⟨z6, e6⟩ : ∃ z, z = p6 + 256 * z7 := ⟨_, rfl⟩
  obtain ⟨z5, e5⟩ : ∃ z, z = p5 + 256 * z6 := ⟨_, rfl⟩
  obtain ⟨z4, e4⟩ : ∃ z, z = p4 + 256 * z5 := ⟨_, rfl⟩
  obtain ⟨z3, e3⟩ : ∃ z, z = p3 + 256 * z4 := ⟨_, rfl⟩
  obtain ⟨z2, e2⟩ : ∃ z, z = p2 + 256 * z3 := ⟨_, rfl⟩
  obtain ⟨z1, e1⟩ : ∃ z, z = p1 + 256 * z2 := ⟨_, rfl⟩
  rw [← e7, ← e6, ← e5, ← e4, ← e3, ← e2, ← e1] at hy
  have b7 : z7 ≤ 8 := by omega
  have b6 : z6 ≤ 2 ^ 12 := by omega
  have b5 : z5 ≤ 2 ^ 20 + 2 ^ 4 := by omega
  have b4 : z4 ≤ 2 ^ 29 := by omega
  have b3 : z3 ≤ 2 ^ 37 + 2 ^ 4 := by omega
  have b2 : z2 ≤ 2 ^ 45 + 2 ^ 13 := by omega
  have b1 : z1 ≤ 2 ^ 53 + 2 ^ 22 := by omega
  have d1 : y / 2 ^ 8 = z1 := by omega
  rw [d1]
  have b0 : y < 2 ^ 60 := by omega
  refine ⟨b0, ?_, by omega, by omega⟩
  show (y + z1 + (y + z1) / 2 ^ 16 + (y + z1 + (y + z1) / 2 ^ 16) / 2 ^ 32) % 128 = _
  have d2 : (y + z1) / 2 ^ 16 = z2 + z3 := by
    clear e3 e4 e5 e6 e7 b0 d1 b1 b2 b3 b4 b5 b6 b7
    have : y + z1 = (p0 + p1) + 256 * ((p1 + p2) + 256 * (z2 + z3)) := by omega
    omega
  rw [d2]
  have d3 : (y + z1 + (z2 + z3)) / 2 ^ 32 = z4 + z5 + (z6 + z7) := by
    clear b0 d1 b1 b2 b3 b4 b5 b6 b7 d2
    have e8 : y + z1 = (p0 + p1) + 256 * ((p1 + p2) + 256 * (z2 + z3)) := by omega
    have e9 : z2 + z3 = (p2 + p3) + 256 * ((p3 + p4) + 256 * (z4 + z5)) := by omega
    have e10 : z4 + z5 = (p4 + p5) + 256 * ((p5 + p6) + 256 * (z6 + z7)) := by omega
    clear e1 e2 e3 e4 e5 e6 e7 hy
    generalize z6 + z7 = u at *
    generalize z4 + z5 = v at *
    generalize z2 + z3 = x at *
    generalize y + z1 = s at *
    omega
  rw [d3]
  clear b0 d1 b1 b2 b3 b4 b5 b6 b7 d2 d3
  have f0 : y + z1 = (p0 + p1) + 256 * (z1 + z2) := by omega
  have f1 : z2 + z3 = (p2 + p3) + 256 * (z3 + z4) := by omega
  have f2 : z4 + z5 = (p4 + p5) + 256 * (z5 + z6) := by omega
  have f3 : z6 + z7 = (p6 + p7) + 256 * z7 := by omega
  clear e1 e2 e3 e4 e5 e6 e7 hy
  omega
/-- What package bits adds up. -/
theorem ones_sum (x : Nat) : ∃ y, y = st3 8 (st2 8 (st1 8 x)) ∧ y < 2 ^ 60 ∧
    ((let a := y + y / 2 ^ 8; let b := a + a / 2 ^ 16; let c := b + b / 2 ^ 32; c % 128) = pc 64 x) ∧ y + y / 2 ^ 8 < 2 ^ 61 ∧ (y + y / 2 ^ 8) + (y + y / 2 ^ 8) / 2 ^ 16 < 2 ^ 62 := by
  rw [st12, st123]
  refine ⟨_, rfl, ?_⟩
  have e : pc 64 x = pc 8 (x % 256) + (pc 8 (x / 256 % 256) + (pc 8 (x / 256 / 256 % 256) + (pc 8 (x / 256 / 256 / 256 % 256) + (pc 8 (x / 256 / 256 / 256 / 256 % 256) + (pc 8 (x / 256 / 256 / 256 / 256 / 256 % 256) + (pc 8 (x / 256 / 256 / 256 / 256 / 256 / 256 % 256) + (pc 8 (x / 256 / 256 / 256 / 256 / 256 / 256 / 256 % 256) + 0))))))) := by
    rw [show (64 : Nat) = 8 + (8 + (8 + (8 + (8 + (8 + (8 + (8 + 0))))))) from rfl]
    simp only [pc_byte]
    rfl
  rw [e]
  simp only [cntB]
  have l0 := pc_le 8 (x % 256)
  have l1 := pc_le 8 (x / 256 % 256)
  have l2 := pc_le 8 (x / 256 / 256 % 256)
  have l3 := pc_le 8 (x / 256 / 256 / 256 % 256)
  have l4 := pc_le 8 (x / 256 / 256 / 256 / 256 % 256)
  have l5 := pc_le 8 (x / 256 / 256 / 256 / 256 / 256 % 256)
  have l6 := pc_le 8 (x / 256 / 256 / 256 / 256 / 256 / 256 % 256)
  have l7 := pc_le 8 (x / 256 / 256 / 256 / 256 / 256 / 256 / 256 % 256)
  generalize pc 8 (x % 256) = p0 at *
  generalize pc 8 (x / 256 % 256) = p1 at *
  generalize pc 8 (x / 256 / 256 % 256) = p2 at *
  generalize pc 8 (x / 256 / 256 / 256 % 256) = p3 at *
  generalize pc 8 (x / 256 / 256 / 256 / 256 % 256) = p4 at *
  generalize pc 8 (x / 256 / 256 / 256 / 256 / 256 % 256) = p5 at *
  generalize pc 8 (x / 256 / 256 / 256 / 256 / 256 / 256 % 256) = p6 at *
  generalize pc 8 (x / 256 / 256 / 256 / 256 / 256 / 256 / 256 % 256) = p7 at *
  clear e
  exact fold8 l0 l1 l2 l3 l4 l5 l6 l7 rfl
end Go.Proofs.Ytncahchhinfneaa

/-! Count8 -/
namespace Go.Proofs.Ytncahchhinfneaa
open Go.RowKit

theorem and_one (m : Nat) (h : m < 2 ^ 62) : bits BinOp.and IntKind.i64 (m : Int) 1 = ((m % 2 : Nat) : Int) := by
  have := and_nat (b := 1) h (by omega)
  rw [Nat.and_one_is_mod] at this
  exact this
theorem and_mask127 (m : Nat) (h : m < 2 ^ 62) : bits BinOp.and IntKind.i64 (m : Int) 127 = ((m % 128 : Nat) : Int) := by
  have := and_nat (b := 127) h (by omega)
  rw [show (127 : Nat) = 2 ^ 7 - 1 from rfl, Nat.and_two_pow_sub_one_eq_mod] at this
  exact this
theorem and_mask127' (m : Nat) (h : m < 9223372036854775807) : bits BinOp.and IntKind.i64 (m : Int) 127 = ((m % 128 : Nat) : Int) := by
  have h1 : (BitVec.ofInt 64 (m : Int)).toNat = m := by rw [BitVec.ofInt_natCast, BitVec.toNat_ofNat]; exact Nat.mod_eq_of_lt (by omega)
  have h2 : (BitVec.ofInt 64 (127 : Int)).toNat = 127 := by decide
  have h4 : bits BinOp.and IntKind.i64 (m : Int) 127 = IntKind.i64.wrap ((BitVec.ofInt 64 (m : Int) &&& BitVec.ofInt 64 (127 : Int)).toNat : Int) := rfl
  rw [h4, BitVec.toNat_and, h1, h2, show (127 : Nat) = 2 ^ 7 - 1 from rfl, Nat.and_two_pow_sub_one_eq_mod]
  exact IntWalk.i64_in _ (by omega)
/-- A mask of a table has fewer than 37 bits. -/
theorem mask_nat {w h M : Int} (hB : shapeB w h M = true) : ∃ a b m : Nat, w = a ∧ h = b ∧ M = m ∧ 1 ≤ a ∧ a ≤ 6 ∧ 1 ≤ b ∧ b ≤ 6 ∧ m < 2 ^ (a * b) ∧ a * b ≤ 36 := by
  unfold shapeB at hB
  simp only [Bool.and_eq_true, inB_spec] at hB
  obtain ⟨⟨h1, h2⟩, h3⟩ := hB
  have hm := mul_le36 h1 h2
  refine ⟨w.toNat, h.toNat, M.toNat, by omega, by omega, by omega, by omega, by omega, by omega, by omega, ?_, ?_⟩
  · have e : (w * h).toNat = w.toNat * h.toNat := by
      have : w * h = ((w.toNat * h.toNat : Nat) : Int) := by
        rw [Int.natCast_mul, Int.toNat_of_nonneg (by omega), Int.toNat_of_nonneg (by omega)]
      omega
    rw [← e]
    have h4 := pow_cast (w * h).toNat
    omega
  · have : w * h = ((w.toNat * h.toNat : Nat) : Int) := by
      rw [Int.natCast_mul, Int.toNat_of_nonneg (by omega), Int.toNat_of_nonneg (by omega)]
    omega
theorem lt62 {m n : Nat} (h : m < 2 ^ n) (hn : n ≤ 36) : m < 2 ^ 36 := Nat.lt_of_lt_of_le h (Nat.pow_le_pow_right (by omega) hn)
set_option maxRecDepth 100000 in
theorem ones_any (M : Nat) (W : World) (hM : M < 2 ^ 36) : Calls Try.prog 129 #[.int .i64 M] W fun e w' => e = .returned (.int .i64 (pc 64 M)) ∧ w' = W := by
  have HP : Hid (∀ k m, pc (k + 1) m = m % 2 + pc k (m / 2)) := fun _ _ => rfl
  have HZ := Lib.hid pc_zero
  have HA := Lib.hid and_one
  have HL := Lib.hid (pc_le 64 M)
  obtain ⟨T, hT⟩ : ∃ T, T = pc 64 M := ⟨_, rfl⟩
  rw [← hT] at HL
  rw [← hT]
  have HT : Hid (T = 0 + pc 64 M) := by show _ = _; omega
  clear hT
  go_enter Try.func129, Try.ntmps129
  go_wp2_with fail
  go_loop [0, 3] (fun a n => ∃ (k m c : Nat), k ≤ 64 ∧ a = .int .i64 m ∧ n = .int .i64 c ∧ m < 2 ^ 36 ∧ Hid (m < 2 ^ k) ∧ Hid (T = c + pc k m)) (fun a _ => (intOf a).toNat)
  case atStart => exact ⟨64, M, 0, Nat.le_refl _, rfl, rfl, hM, Nat.lt_of_lt_of_le hM (by decide), HT⟩
  case round =>
    clear HT
    obtain ⟨k, m, c, hk, rfl, rfl, hm, HK, HT⟩ := hrel
    have hc : c ≤ 64 := by have := HT.out; have := HL.out; omega
    by_cases h0 : 0 < m
    · have hk1 : 1 ≤ k := by
        rcases Nat.eq_zero_or_pos k with rfl | h
        · have := HK.out; omega
        · exact h
      obtain ⟨k, rfl⟩ : ∃ k', k = k' + 1 := ⟨k - 1, by omega⟩
      have HK2 : Hid (m / 2 < 2 ^ k) := by
        have := HK.out
        show _ < _
        rw [Nat.pow_succ] at this; omega
      have HT2 : Hid (T = (c + m % 2) + pc k (m / 2)) := by
        show _ = _
        rw [HT.out, HP.out]; omega
      have hm0 : (m % 2 : Nat) ≤ 1 := by omega
      have ha := HA.out m (by omega)
      clear HT HK
      go_wp2_with fail
      go_round
      case rel => exact ⟨k, m / 2, c + m % 2, by omega, by go_num, by go_num, by omega, HK2, HT2⟩
      case measure => simp [intOf]; omega
    · obtain rfl : m = 0 := by omega
      have hE : T = c := by have := HT.out; rw [HZ.out] at this; omega
      have HE := Lib.hid hE
      clear HT hE HK
      go_wp2_with fail
      go_ret
      exact ⟨by rw [HE.out]; rfl, rfl⟩
theorem and_u64 {a b : Nat} (ha : a < 18446744073709551616) (hb : b < 18446744073709551616) : bits BinOp.and IntKind.u64 (a : Int) (b : Int) = ((a &&& b : Nat) : Int) := by
  have h1 : (BitVec.ofInt 64 (a : Int)).toNat = a := by rw [BitVec.ofInt_natCast, BitVec.toNat_ofNat]; exact Nat.mod_eq_of_lt (by omega)
  have h2 : (BitVec.ofInt 64 (b : Int)).toNat = b := by rw [BitVec.ofInt_natCast, BitVec.toNat_ofNat]; exact Nat.mod_eq_of_lt (by omega)
  have h4 : bits BinOp.and IntKind.u64 (a : Int) b = IntKind.u64.wrap ((BitVec.ofInt 64 (a : Int) &&& BitVec.ofInt 64 (b : Int)).toNat : Int) := rfl
  rw [h4, BitVec.toNat_and, h1, h2, IntKind.wrap_u64]
  have : a &&& b ≤ a := Nat.and_le_left
  omega
theorem st1_bd : ∀ n x, st1 n x < 256 ^ n
  | 0, x => by simp [st1, rep]
  | n + 1, x => by
    have hb := (byte_ok (x % 256) (by omega)).1
    have := st1_bd n (x / 256)
    rw [st1_step, Nat.pow_succ]; omega
theorem twoB_bd : ∀ n x, twoB n x < 256 ^ n
  | 0, x => by simp [twoB]
  | n + 1, x => by
    have hb := byte_ok (x % 256) (by omega)
    have := twoB_bd n (x / 256)
    simp only [twoB]
    rw [Nat.pow_succ]; omega
theorem twoB_div : ∀ n x, twoB n x / 16 + twoB n x < 256 ^ n
  | 0, x => by simp [twoB]
  | n + 1, x => by
    have hb := byte_ok (x % 256) (by omega)
    have := twoB_div n (x / 256)
    have := twoB_mod n (x / 256)
    simp only [twoB]
    rw [Nat.pow_succ]; omega
theorem u64_st1 (x : Nat) (h : x < 18446744073709551616) : IntKind.u64.wrap (bits BinOp.and IntKind.u64 ((x : Int) / 2) 6148914691236517205 + bits BinOp.and IntKind.u64 (x : Int) 6148914691236517205) = ((st1 8 x : Nat) : Int) := by
  have e1 := and_u64 (a := x / 2) (b := rep 85 8) (by omega) (by decide)
  have e2 := and_u64 (a := x) (b := rep 85 8) (by omega) (by decide)
  have er : ((rep 85 8 : Nat) : Int) = 6148914691236517205 := by decide
  rw [er] at e1 e2
  have ed : ((x / 2 : Nat) : Int) = (x : Int) / 2 := by omega
  rw [ed] at e1
  have hb := st1_bd 8 x
  rw [show (256 : Nat) ^ 8 = 18446744073709551616 from rfl] at hb
  unfold st1 at hb ⊢
  rw [e1, e2, IntKind.wrap_u64]
  omega
theorem u64_st2 (x : Nat) (h : x < 18446744073709551616) (hb : st2 8 x < 18446744073709551616) : IntKind.u64.wrap (bits BinOp.and IntKind.u64 ((x : Int) / 4) 3689348814741910323 + bits BinOp.and IntKind.u64 (x : Int) 3689348814741910323) = ((st2 8 x : Nat) : Int) := by
  have e1 := and_u64 (a := x / 4) (b := rep 51 8) (by omega) (by decide)
  have e2 := and_u64 (a := x) (b := rep 51 8) (by omega) (by decide)
  have er : ((rep 51 8 : Nat) : Int) = 3689348814741910323 := by decide
  rw [er] at e1 e2
  have ed : ((x / 4 : Nat) : Int) = (x : Int) / 4 := by omega
  rw [ed] at e1
  unfold st2 at hb ⊢
  rw [e1, e2, IntKind.wrap_u64]
  omega
theorem u64_st3 (x : Nat) (h : x / 16 + x < 18446744073709551616) : bits BinOp.and IntKind.u64 (IntKind.u64.wrap ((x : Int) / 16 + (x : Int))) 1085102592571150095 = ((st3 8 x : Nat) : Int) := by
  have e1 := and_u64 (a := x / 16 + x) (b := rep 15 8) h (by decide)
  have er : ((rep 15 8 : Nat) : Int) = 1085102592571150095 := by decide
  rw [er] at e1
  have ed : IntKind.u64.wrap ((x : Int) / 16 + (x : Int)) = ((x / 16 + x : Nat) : Int) := by rw [IntKind.wrap_u64]; omega
  rw [ed, e1]; rfl
/-- All steps of OnesCount64 as equations of the walk's own terms. -/
theorem ones_steps (x : Nat) (hx : x < 68719476736) : ∃ s1 s2 y a b c : Nat,
    IntKind.u64.wrap (bits BinOp.and IntKind.u64 ((x : Int) / 2) 6148914691236517205 + bits BinOp.and IntKind.u64 (x : Int) 6148914691236517205) = (s1 : Int) ∧
    IntKind.u64.wrap (bits BinOp.and IntKind.u64 ((s1 : Int) / 4) 3689348814741910323 + bits BinOp.and IntKind.u64 (s1 : Int) 3689348814741910323) = (s2 : Int) ∧
    bits BinOp.and IntKind.u64 (IntKind.u64.wrap ((s2 : Int) / 16 + (s2 : Int))) 1085102592571150095 = (y : Int) ∧
    IntKind.u64.wrap ((y : Int) + (y : Int) / 256) = (a : Int) ∧ IntKind.u64.wrap ((a : Int) + (a : Int) / 65536) = (b : Int) ∧ IntKind.u64.wrap ((b : Int) + (b : Int) / 4294967296) = (c : Int) ∧
    wrap64 (c : Int) = (c : Int) ∧ bits BinOp.and IntKind.i64 (c : Int) 127 = ((pc 64 x : Nat) : Int) := by
  have l1 := st1_bd 8 x
  have l2 := twoB_bd 8 x
  have l3 := twoB_div 8 x
  rw [show (256 : Nat) ^ 8 = 18446744073709551616 from rfl] at l1 l2 l3
  have e1 := u64_st1 x (by omega)
  have e2 := u64_st2 (st1 8 x) l1 (by rw [st12]; exact l2)
  obtain ⟨y, hy, hy1, hy2, hy3, hy4⟩ := ones_sum x
  rw [st12] at e2 hy
  have e3 := u64_st3 (twoB 8 x) l3
  rw [← hy] at e3
  change (y + y / 2 ^ 8 + (y + y / 2 ^ 8) / 2 ^ 16 + (y + y / 2 ^ 8 + (y + y / 2 ^ 8) / 2 ^ 16) / 2 ^ 32) % 128 = pc 64 x at hy2
  rw [show (2 : Nat) ^ 8 = 256 from rfl, show (2 : Nat) ^ 16 = 65536 from rfl, show (2 : Nat) ^ 32 = 4294967296 from rfl] at hy2
  rw [show (2 : Nat) ^ 8 = 256 from rfl, show (2 : Nat) ^ 61 = 2305843009213693952 from rfl] at hy3
  rw [show (2 : Nat) ^ 8 = 256 from rfl, show (2 : Nat) ^ 16 = 65536 from rfl, show (2 : Nat) ^ 62 = 4611686018427387904 from rfl] at hy4
  clear hy hy1 l1 l2 l3 hx
  generalize twoB 8 x = s2 at *
  generalize st1 8 x = s1 at *
  obtain ⟨a, ha⟩ : ∃ a, a = y + y / 256 := ⟨_, rfl⟩
  rw [← ha] at hy2 hy3 hy4
  obtain ⟨b, hb⟩ : ∃ b, b = a + a / 65536 := ⟨_, rfl⟩
  rw [← hb] at hy2 hy4
  obtain ⟨c, hc⟩ : ∃ c, c = b + b / 4294967296 := ⟨_, rfl⟩
  rw [← hc] at hy2
  have hc2 : c < 9223372036854775807 := by omega
  have e8 : bits BinOp.and IntKind.i64 (c : Int) 127 = ((pc 64 x : Nat) : Int) := by
    rw [and_mask127' c hc2, hy2]
  clear hy2
  exact ⟨s1, s2, y, a, b, c, e1, e2, e3, by rw [IntKind.wrap_u64]; omega, by rw [IntKind.wrap_u64]; omega, by rw [IntKind.wrap_u64]; omega, IntWalk.wrap64_in _ (by omega), e8⟩
set_option maxRecDepth 100000 in
theorem ones64_any (x : Nat) (W : World) (hx : x < 68719476736) : Calls Try.prog 170 #[.int .u64 x] W fun e w' => e = .returned (.int .i64 (pc 64 x)) ∧ w' = W := by
  obtain ⟨s1, s2, y, a, b, c, e1, e2, e3, e4, e5, e6, e7, e8⟩ := ones_steps x hx
  go_enter Try.func170, Try.ntmps170
  go_wp2_with fail
  go_ret
  exact ⟨rfl, rfl⟩
theorem onesW_any (x : Nat) (W : World) (hx : x < 68719476736) : Calls Try.prog 104 #[.int .u64 x] W fun e w' => e = .returned (.int .i64 (pc 64 x)) ∧ w' = W := by
  have HC := Lib.hid (fun W => ones64_any x W hx)
  go_enter Try.func104, Try.ntmps104
  go_wp2_with fail
  refine (HC.out _).mono ?_
  rintro e w1 ⟨rfl, rfl⟩
  go_wp2_with fail
  go_ret
  exact ⟨rfl, rfl⟩
/-- What CellCount answers. -/
def cellsV (w h M : Int) : Int := bif shapeB w h M then (pc 64 M.toNat : Int) else -1
theorem cellsV_no {w h M : Int} (hB : shapeB w h M = false) : cellsV w h M = -1 := by unfold cellsV; rw [hB]; rfl
theorem cellsV_yes {w h : Int} {m : Nat} (hB : shapeB w h m = true) : cellsV w h m = (pc 64 m : Nat) := by unfold cellsV; rw [hB]; rfl
set_option maxRecDepth 100000 in
theorem impl_cells (w h M : Int) (W : World) : Calls Try.prog 41 #[.int .i64 w, .int .i64 h, .int .i64 M] W fun e w' => e = .returned (.int .i64 (cellsV w h M)) ∧ w' = W := by
  have HS := Lib.hid (fun W => impl_shape w h M W)
  cases hB : shapeB w h M
  · rw [hB] at HS
    have HV := Lib.hid (cellsV_no hB)
    rw [HV.out]
    go_enter Try.func41, Try.ntmps41
    go_wp2_with fail
    refine (HS.out _).mono ?_
    rintro e w1 ⟨rfl, rfl⟩
    go_wp2_with fail
    go_ret
    exact ⟨rfl, rfl⟩
  · rw [hB] at HS
    obtain ⟨a, b, m, rfl, rfl, rfl, ha1, ha2, hb1, hb2, hm, hab⟩ := mask_nat hB
    have HV := Lib.hid (cellsV_yes hB)
    rw [HV.out]
    have hm2 : m < 68719476736 := lt62 hm hab
    have HO := Lib.hid (fun W => onesW_any m W hm2)
    have e1 : IntKind.u64.wrap (m : Int) = (m : Int) := by rw [IntKind.wrap_u64]; omega
    clear hm hab hB
    go_enter Try.func41, Try.ntmps41
    go_wp2_with fail
    refine (HS.out _).mono ?_
    rintro e w1 ⟨rfl, rfl⟩
    go_wp2_with fail
    refine (HO.out _).mono ?_
    rintro e w1 ⟨rfl, rfl⟩
    go_wp2_with fail
    go_ret
    exact ⟨rfl, rfl⟩
end Go.Proofs.Ytncahchhinfneaa

/-! Board -/
namespace Go.Proofs.Ytncahchhinfneaa
open Go.RowKit

/-- The board as a row of cells. -/
def bdV (a b : Nat) (F : Nat → Bool) : Array Value := ((.int .i64 a) :: (.int .i64 b) :: (List.range 36).map fun i => Value.bool (F i)).toArray
theorem bdV_size (a b : Nat) (F : Nat → Bool) : (bdV a b F).size = 38 := by simp [bdV]
theorem bdV_at (a b : Nat) (F : Nat → Bool) {i : Nat} (h : i < 36) : (bdV a b F)[2 + i]? = some (.bool (F i)) := by
  have e : 2 + i = (i + 1) + 1 := by omega
  simp [bdV, e, h]
def updF (F : Nat → Bool) (i : Nat) (v : Bool) : Nat → Bool := fun j => if j = i then v else F j
theorem bdV_set (a b : Nat) (F : Nat → Bool) {i : Nat} (h : i < 36) (v : Bool) : (bdV a b F).setIfInBounds (2 + i) (.bool v) = bdV a b (updF F i v) := by
  apply Array.ext_getElem?
  intro j
  rw [Array.getElem?_setIfInBounds, bdV_size]
  by_cases e : 2 + i = j
  · subst e
    rw [if_pos rfl, if_pos (by omega), bdV_at _ _ _ h]; simp [updF]
  · rw [if_neg e]
    match j with
    | 0 => rfl
    | 1 => rfl
    | j + 2 =>
      rcases Nat.lt_or_ge j 36 with hj | hj
      · rw [show j + 2 = 2 + j by omega, bdV_at _ _ _ hj, bdV_at _ _ _ hj]
        have : ¬ j = i := by omega
        simp [updF, this]
      · rw [Array.getElem?_eq_none (by rw [bdV_size]; omega), Array.getElem?_eq_none (by rw [bdV_size]; omega)]
theorem bdV_one (a b : Nat) (F : Nat → Bool) : (bdV a b F).all (·.oneCell') = true := by
  rw [Array.all_eq_true]
  intro i hi
  rw [bdV_size] at hi
  match i with
  | 0 => rfl
  | 1 => rfl
  | i + 2 =>
    have := bdV_at a b F (i := i) (by omega)
    rw [show 2 + i = i + 2 by omega, Array.getElem?_eq_getElem (by rw [bdV_size]; omega)] at this
    rw [Option.some.inj this]; rfl
theorem bdV_congr {a b : Nat} {F G : Nat → Bool} (h : ∀ i, i < 36 → F i = G i) : bdV a b F = bdV a b G := by
  unfold bdV
  congr 3
  apply List.map_congr_left
  intro i hi
  rw [h i (by simpa using hi)]
theorem infoB : (Try.prog.info? 108).map (·.size) = some 38 := by kernel_rfl
theorem infoB' (a b : Nat) (F : Nat → Bool) : (Try.prog.info? 108).map (·.size) = some (bdV a b F).size := by rw [bdV_size]; exact infoB

/-- Block g holds a board. -/
def Brd (w : World) (g a b : Nat) (F : Nat → Bool) : Prop := w.heap[g]? = some (.cells (bdV a b F) 108 (0, 0))
section
variable {w w' : World} {g a b : Nat} {F : Nat → Bool}
theorem Brd.lt (h : Brd w g a b F) : g < w.heap.size := (Array.getElem?_eq_some_iff.1 h).1
theorem Brd.alloc (h : Brd w g a b F) (o : Obj) : Brd (w.alloc o) g a b F := (Below.heap_alloc w o g h.lt).trans h
theorem Brd.step (h : Brd w g a b F) (hb : Below w.heap.size w w') : Brd w' g a b F := (hb.block g h.lt).trans h
theorem brd_new (w : World) (a b : Nat) (F : Nat → Bool) : Brd (w.alloc (.cells (bdV a b F) 108)) w.heap.size a b F := heap_alloc_new w _
theorem Brd.c0 (h : Brd w g a b F) : w.cell? ⟨g, 0, none⟩ = some (.int .i64 a) := cell_of_row w g 0 _ _ _ h
theorem Brd.c1 (h : Brd w g a b F) : w.cell? ⟨g, 1, none⟩ = some (.int .i64 b) := cell_of_row w g 1 _ _ _ h
theorem Brd.at (h : Brd w g a b F) {i : Nat} (hi : i < 36) : w.cell? ⟨g, 2 + i, none⟩ = some (.bool (F i)) := (cell_of_row w g (2 + i) _ _ _ h).trans (bdV_at a b F hi)
theorem Brd.frozen (h : Brd w g a b F) (j : Nat) : w.frozen? ⟨g, j, none⟩ = false := frozen_of_row w g j _ _ h
theorem Brd.set (h : Brd w g a b F) {i : Nat} (hi : i < 36) (v : Bool) : Brd (w.setCell ⟨g, 2 + i, none⟩ (.bool v)) g a b (updF F i v) := by
  have := heap_setCell_same w g (2 + i) _ _ (.bool v) h
  rw [bdV_set a b F hi v] at this
  exact this
theorem Brd.other (h : Brd w g a b F) {k : Nat} (hk : k ≠ g) (j : Nat) (v : Value) : Brd (w.setCell ⟨k, j, none⟩ v) g a b F :=
  (Below.heap_setCell w ⟨k, j, none⟩ v g (by simpa using (Ne.symm hk))).trans h
end
/-! ### A board is made, built, boxed, read and written as a whole -/
theorem zeroB : (∀ w, (zeroValue 108).run Try.prog w = .ok (.agg (bdV 0 0 fun _ => false)) w) := (zero_of_info (n := 38) (by kernel_rfl)).1
set_option maxRecDepth 100000 in
theorem allocB (w : World) : (Instr.alloc 108 true (.tuple #[])).run Try.prog w = .ok (.pointer (some ⟨w.heap.size, 0, none⟩)) (w.alloc (.cells (bdV 0 0 fun _ => false) 108)) := by
  simp [-Try.zeroValue108, zeroB, go_sem, Instr.alloc]
set_option maxRecDepth 100000 in
theorem buildB (x y : Nat) (w : World) : (Instr.build 108 #[(0, .int .i64 x), (1, .int .i64 y)]).run Try.prog w = .ok (.agg (bdV x y fun _ => false)) w := by
  simp [go_sem, Instr.build]
  rfl
section
variable {ops : Array Oper} {rest : List Oper} {o : Oper} {a : Act} {w : World} {Q : Exit → Act → World → Prop}
theorem wpList_allocB (hgd : o.guard = none) (ho : o.op = .alloc 108) (h : wpList Try.prog ops Q rest (a.put o.dst (.pointer (some ⟨w.heap.size, 0, none⟩))) (w.alloc (.cells (bdV 0 0 fun _ => false) 108))) : wpList Try.prog ops Q (o :: rest) a w :=
  wpList_plain hgd fun _ hK => by
    unfold Oper.wp execOp
    simp only [ho, allocB, Sem.run_bind, Sem.run_pure, Result.andThen_ok]
    exact hK _ _ h
theorem wpList_buildB (hgd : o.guard = none) (x y : Operand) (ho : o.op = .build 108 #[(0, x), (1, y)]) (m n : Nat) (hx : a.eval x = .int .i64 m) (hy : a.eval y = .int .i64 n) (h : wpList Try.prog ops Q rest (a.put o.dst (.agg (bdV m n fun _ => false))) w) : wpList Try.prog ops Q (o :: rest) a w :=
  wpList_plain hgd fun _ hK => by
    unfold Oper.wp execOp
    have e : (#[(0, x), (1, y)] : Array (Nat × Operand)).map (fun (i, x) => (i, a.eval x)) = #[(0, .int .i64 (m : Int)), (1, .int .i64 (n : Int))] := by simp [hx, hy]
    simp only [ho, e, buildB, Sem.run_bind, Sem.run_pure, Result.andThen_ok]
    exact hK _ _ h
end
/-- The flags of a mask. -/
def flg (M n : Nat) : Nat → Bool := fun j => decide (j < n) && M.testBit j
theorem bit_eq (M k : Nat) (hM : M < 2 ^ 36) : bits BinOp.and IntKind.i64 ((M >>> k : Nat) : Int) 1 = if M.testBit k then 1 else 0 := by
  have h : M >>> k < 2 ^ 62 := by
    rw [Nat.shiftRight_eq_div_pow]
    exact Nat.lt_of_le_of_lt (Nat.div_le_self _ _) (Nat.lt_of_lt_of_le hM (by decide))
  rw [and_one _ h, bit_mod]
  split <;> rfl
theorem flg_succ (M k : Nat) : updF (flg M k) k (M.testBit k) = flg M (k + 1) := by
  funext j
  by_cases e : j = k
  · subst e; simp [updF, flg]
  · have : decide (j < k + 1) = decide (j < k) := by rw [decide_eq_decide]; omega
    simp [updF, flg, e, this]
theorem flg_zero (M : Nat) : flg M 0 = fun _ => false := by funext j; simp [flg]
theorem flg_all {M n : Nat} (h : M < 2 ^ n) : flg M n = M.testBit := by
  funext j
  by_cases hj : j < n
  · simp [flg, hj]
  · rw [Nat.testBit_lt_two_pow (Nat.lt_of_lt_of_le h (Nat.pow_le_pow_right (by omega) (by omega)))]
    simp [flg, hj]
theorem below_rowB {B : Nat} {a w : World} (h : Below B a w) {g : Nat} (hg : B ≤ g) (cs : Array Value) : Below B a (w.setRow g cs) := by
  exact h.trans ⟨rfl, rfl, rfl, by simp, fun k hk => setRow_other w g k cs (by omega)⟩
theorem brd_setRow {w : World} {g : Nat} {c : Array Value} (h : w.heap[g]? = some (.cells c 108 (0, 0))) (a b : Nat) (F : Nat → Bool) : Brd (w.setRow g (bdV a b F)) g a b F := setRow_heap _ _ _ _ 108 _ h
theorem Brd.setRow {w : World} {g a b : Nat} {F : Nat → Bool} (h : Brd w g a b F) {k : Nat} (hk : k ≠ g) (c : Array Value) : Brd (w.setRow k c) g a b F := (setRow_other w k g c (Ne.symm hk)).trans h
theorem bit_at (M k : Nat) (hM : M < 2 ^ 36) : ∃ z : Nat, (M : Int) / 2 ^ k = (z : Int) ∧ bits BinOp.and IntKind.i64 (z : Int) 1 = if M.testBit k then 1 else 0 :=
  ⟨M >>> k, shr_cast M k, bit_eq M k hM⟩
set_option maxRecDepth 100000 in
set_option maxHeartbeats 1600000 in
theorem boardOf_any (a b M : Nat) (W : World) (hM : M < 2 ^ (a * b)) (hab : a * b ≤ 36) :
    Calls Try.prog 105 #[.int .i64 a, .int .i64 b, .int .i64 M] W fun e w' => e = .returned (.agg (bdV a b M.testBit)) ∧ Below W.heap.size W w' := by
  obtain ⟨n, hn⟩ : ∃ n, n = a * b := ⟨_, rfl⟩
  have hN : ((a : Int) * (b : Int) = (n : Int)) := by rw [hn, Int.natCast_mul]
  rw [← hn] at hab hM
  have HM := Lib.hid (lt62 hM hab)
  have HF := Lib.hid (flg_all hM)
  have HZ := Lib.hid (flg_zero M)
  clear hM hn
  go_enter Try.func105, Try.ntmps105
  go_wp2_with (first
    | (refine wpList_allocB rfl rfl ?_; try simp only [size_alloc])
    | refine wpList_buildB rfl _ _ rfl _ _ rfl rfl ?_
    | refine wpList_store_row rfl 108 _ _ rfl (W.heap.size + 1) (bdV a b fun _ => false) rfl rfl 108 _ (heap_alloc2_new W _ _) (infoB' _ _ _) (by rw [bdV_size, bdV_size]) (bdV_one _ _ _) ?_)
  have t1 := brd_setRow (heap_alloc2_new W (.cells (bdV 0 0 fun _ => false) 108) (.cells (bdV 0 0 fun _ => false) 108)) a b (fun _ => false)
  have t0 := ((brd_new W 0 0 fun _ => false).alloc (.cells (bdV 0 0 fun _ => false) 108)).setRow (k := W.heap.size + 1) (by omega) (bdV a b fun _ => false)
  have b1 := below_rowB (below2 W (.cells (bdV 0 0 fun _ => false) 108) (.cells (bdV 0 0 fun _ => false) 108)) (g := W.heap.size + 1) (by omega) (bdV a b fun _ => false)
  generalize ((W.alloc (.cells (bdV 0 0 fun _ => false) 108)).alloc (.cells (bdV 0 0 fun _ => false) 108)).setRow (W.heap.size + 1) (bdV a b fun _ => false) = w1 at *
  rw [← HZ.out] at t1
  clear HZ
  go_loopw [8, 15] (fun _ i wr => ∃ k : Nat, k ≤ n ∧ i = .int .i64 k ∧ Brd wr (W.heap.size + 1) a b (flg M k) ∧ Brd wr W.heap.size 0 0 (fun _ => false) ∧ Below W.heap.size W wr) (fun _ i _ => n - (intOf i).toNat)
  case atStart => exact ⟨0, Nat.zero_le _, rfl, t1, t0, b1⟩
  case round =>
    clear t1 t0 b1
    obtain ⟨wo, rfl⟩ : ∃ wo : World, wo = wr := ⟨_, rfl⟩
    obtain ⟨k, hk, rfl, t1, t0, hb⟩ := hrel
    by_cases hlt : k < n
    · have hlt36 : k < 36 := by omega
      obtain ⟨z, hs, hbit⟩ := bit_at M k HM.out
      have c1 := t1.at hlt36
      have f1 := t1.frozen (2 + k)
      have s1 := t1.set hlt36 (M.testBit k)
      rw [flg_succ] at s1
      have s0 := t0.other (k := W.heap.size + 1) (by omega) (2 + k) (.bool (M.testBit k))
      have sb := hb.setCell (p := ⟨W.heap.size + 1, 2 + k, none⟩) (Nat.le_succ _) (.bool (M.testBit k))
      have R := Lib.hid (And.intro s1 (And.intro s0 sb))
      clear s1 s0 sb t1 t0 hb
      cases ht : M.testBit k
      all_goals
        rw [ht] at hbit R
        simp only [Bool.false_eq_true, if_true, if_false] at hbit
        clear ht
        go_wp2_with fail
        go_roundw
        case rel => exact ⟨k + 1, by omega, by go_num, R.out.1, R.out.2.1, R.out.2.2⟩
        case measure => simp [intOf]; omega
    · obtain rfl : k = n := by omega
      rw [HF.out] at t1
      go_wp2_with (first
        | refine wpList_load_row rfl 108 _ rfl (W.heap.size + 1) rfl 108 _ (0, 0) _ t1 Try.underlying108 rfl (infoB' _ _ _) ?_
        | refine wpList_store_row rfl 108 _ _ rfl W.heap.size (bdV a b M.testBit) rfl rfl 108 _ t0 (infoB' _ _ _) (by rw [bdV_size, bdV_size]) (bdV_one _ _ _) ?_)
      refine bodyPost_ret (v := .agg (bdV a b M.testBit)) (results_cell_row rfl _ _ W.heap.size 108 (bdV a b M.testBit) (0, 0) _ rfl (brd_setRow t0 a b M.testBit) Try.underlying108 rfl (infoB' _ _ _)) rfl ⟨rfl, below_rowB hb (Nat.le_refl _) _⟩
end Go.Proofs.Ytncahchhinfneaa

/-! Board2 -/
namespace Go.Proofs.Ytncahchhinfneaa
open Go.RowKit

section
variable {ops : Array Oper} {rest : List Oper} {o : Oper} {a : Act} {w : World} {Q : Exit → Act → World → Prop}
/-- A board is read as a whole, under a guard that is met. -/
theorem wpList_loadB (hw : Region.wanted o (yielded ops a.tmps) = true) (x : Operand) (ho : o.op = .load 108 x) (g p q : Nat) (F : Nat → Bool) (hx : a.eval x = .pointer (some ⟨g, 0, none⟩)) (hg : Brd w g p q F)
    (h : wpList Try.prog ops Q rest (a.put o.dst (.agg (bdV p q F))) w) : wpList Try.prog ops Q (o :: rest) a w :=
  wpList_step fun K hK => by
    rw [if_pos hw]
    exact wp_load_row 108 x ho g hx 108 (bdV p q F) (0, 0) _ hg Try.underlying108 rfl (infoB' _ _ _) (hK _ _ h)
/-- A board is written as a whole. -/
theorem wpList_storeB (hw : o.guard = none) (x y : Operand) (ho : o.op = .store 108 x y) (g p q p' q' : Nat) (F G : Nat → Bool) (hx : a.eval x = .pointer (some ⟨g, 0, none⟩)) (hy : a.eval y = .agg (bdV p q F)) (hg : Brd w g p' q' G)
    (h : wpList Try.prog ops Q rest (a.put o.dst undef) (w.setRow g (bdV p q F))) : wpList Try.prog ops Q (o :: rest) a w :=
  wpList_store_row hw 108 x y ho g (bdV p q F) hx hy 108 _ hg (infoB' _ _ _) (by rw [bdV_size, bdV_size]) (bdV_one _ _ _) h
end
def covB (a b : Nat) (x y : Int) : Bool := inB x 0 (a - 1) && inB y 0 (b - 1)
def hasB (a b : Nat) (F : Nat → Bool) (x y : Int) : Bool := covB a b x y && F (y * a + x).toNat
theorem two_le36 {k : Nat} (h : k ≤ 36) : 2 ^ k ≤ 68719476736 := Nat.pow_le_pow_right (n := 2) (by omega) h
theorem pow_nat (k : Nat) (h : k < 36) : ∃ p : Nat, (2 : Int) ^ k = (p : Int) ∧ p = 2 ^ k ∧ p ≤ 68719476736 :=
  ⟨2 ^ k, pow_cast k, rfl, two_le36 (by omega)⟩
set_option maxRecDepth 100000 in
set_option maxHeartbeats 1600000 in
theorem maskB_any (a b : Nat) (F : Nat → Bool) (W : World) (hab : a * b ≤ 36) :
    Calls Try.prog 110 #[.agg (bdV a b F)] W fun e w' => e = .returned (.int .i64 (ofF F (a * b))) ∧ Below W.heap.size W w' := by
  obtain ⟨n, hn⟩ : ∃ n, n = a * b := ⟨_, rfl⟩
  have hN : ((a : Int) * (b : Int) = (n : Int)) := by rw [hn, Int.natCast_mul]
  rw [← hn] at hab ⊢
  have t1 := brd_new W a b F
  have c0 := t1.c0; have c1 := t1.c1
  have b1 := below1 W (.cells (bdV a b F) 108)
  have H0 : Hid (0 = ofF F 0) := rfl
  clear hn
  go_enter Try.func110, Try.ntmps110
  go_wp2_with fail
  generalize W.alloc (.cells (bdV a b F) 108) = w1 at *
  have HT := Lib.hid t1
  clear t1
  go_loopw [3, 4, 10] (fun s _ i wr => ∃ k m : Nat, k ≤ n ∧ i = .int .i64 k ∧ s = .int .i64 m ∧ Hid (m = ofF F k) ∧ wr = w1) (fun _ _ i _ => n - (intOf i).toNat)
  case atStart => exact ⟨0, 0, Nat.zero_le _, rfl, rfl, H0, rfl⟩
  case round =>
    obtain ⟨k, m, hk, rfl, rfl, HM, rfl⟩ := hrel
    by_cases hlt : k < n
    · have hlt36 : k < 36 := by omega
      have c2 := HT.out.at hlt36
      obtain ⟨p, hp, hp2, hp3⟩ := pow_nat k hlt36
      have hm : m < 68719476736 := by
        rw [HM.out]
        exact Nat.lt_of_lt_of_le (ofF_lt F k) (two_le36 (by omega))
      have hor := or_nat (a := m) (b := p) (by omega) (by omega)
      cases hF : F k
      · rw [hF] at c2
        have HS : Hid (m = ofF F (k + 1)) := by
          show _ = _
          rw [HM.out]; simp [ofF, hF]
        clear hor hp hp2 hp3 hF
        go_wp2_with fail
        go_roundw
        case rel => exact ⟨k + 1, m, by omega, by go_num, rfl, HS, by first | trivial | rfl⟩
        case measure => simp [intOf]; omega
      · rw [hF] at c2
        have HS : Hid (m ||| p = ofF F (k + 1)) := by
          show _ = _
          rw [HM.out, hp2]; simp [ofF, hF]
        clear hF hp2
        generalize m ||| p = m2 at *
        go_wp2_with fail
        go_roundw
        case rel => exact ⟨k + 1, m2, by omega, by go_num, rfl, HS, by first | trivial | rfl⟩
        case measure => simp [intOf]; omega
    · obtain rfl : k = n := by omega
      go_wp2_with fail
      go_ret
      rw [← HM.out]
      exact ⟨rfl, b1⟩
theorem covers_any (a b : Nat) (F : Nat → Bool) (x y : Int) (W : World) (ha : 1 ≤ a ∧ a ≤ 6) (hb : 1 ≤ b ∧ b ≤ 6) :
    Calls Try.prog 176 #[.agg (bdV a b F), (.agg #[.int .i64 x, .int .i64 y])] W fun e w' => e = .returned (.bool (covB a b x y)) ∧ Below W.heap.size W w' := by
  have t1 := (brd_new W a b F).alloc (.cells #[.int .i64 x, .int .i64 y] 30)
  have t2 := at_new (W.alloc (.cells (bdV a b F) 108)) x y 30
  rw [size_alloc] at t2
  have b2 := below2 W (.cells (bdV a b F) 108) (.cells #[.int .i64 x, .int .i64 y] 30)
  have c0 := t1.c0; have c1 := t1.c1; have c2 := t2.c0; have c3 := t2.c1
  have HV : Hid (covB a b x y = (inB x 0 (a - 1) && inB y 0 (b - 1))) := rfl
  clear t1 t2
  cases hx : inB x 0 (a - 1)
  all_goals
    rw [hx] at HV
    go_enter Try.func176, Try.ntmps176
    go_wp2_with fail
    refine (from_any _ _ _ _).mono ?_
    rintro e w1 ⟨rfl, rfl⟩
    rw [hx]
    go_wp2_with fail
  · go_ret
    exact ⟨ret_bool HV.out.symm, b2⟩
  · refine (from_any _ _ _ _).mono ?_
    rintro e w1 ⟨rfl, rfl⟩
    go_wp2_with fail
    go_ret
    exact ⟨ret_bool HV.out.symm, b2⟩
theorem covB_nat {a b : Nat} {x y : Int} (h : covB a b x y = true) : ∃ i j : Nat, x = i ∧ y = j ∧ i < a ∧ j < b ∧ j * a + i < a * b ∧ (y * a + x) = ((j * a + i : Nat) : Int) := by
  unfold covB at h
  simp only [Bool.and_eq_true, inB_spec] at h
  refine ⟨x.toNat, y.toNat, by omega, by omega, by omega, by omega, in_tab (by omega) (by omega), ?_⟩
  rw [Int.natCast_add, Int.natCast_mul, Int.toNat_of_nonneg (by omega), Int.toNat_of_nonneg (by omega)]
theorem indexOf_any (a b : Nat) (F : Nat → Bool) (i j : Nat) (W : World) (ha : a ≤ 6) (hb : b ≤ 6) (hi : i < a) (hj : j < b) :
    Calls Try.prog 171 #[.agg (bdV a b F), (.agg #[.int .i64 (i : Int), .int .i64 (j : Int)])] W fun e w' => e = .returned (.int .i64 (j * a + i : Nat)) ∧ Below W.heap.size W w' := by
  have t1 := (brd_new W a b F).alloc (.cells #[.int .i64 i, .int .i64 j] 30)
  have t2 := at_new (W.alloc (.cells (bdV a b F) 108)) i j 30
  rw [size_alloc] at t2
  have b2 := below2 W (.cells (bdV a b F) 108) (.cells #[.int .i64 i, .int .i64 j] 30)
  have c0 := t1.c0; have c2 := t2.c0; have c3 := t2.c1
  obtain ⟨m, hm⟩ : ∃ m, m = j * a := ⟨_, rfl⟩
  have hm2 : m ≤ 36 := by rw [hm]; exact Nat.mul_le_mul (by omega : j ≤ 6) ha
  have hM : (j : Int) * (a : Int) = (m : Int) := by rw [hm, Int.natCast_mul]
  rw [← hm]
  clear t1 t2 hm
  go_enter Try.func171, Try.ntmps171
  go_wp2_with fail
  go_ret
  exact ⟨by go_num, b2⟩
set_option maxRecDepth 100000 in
theorem hasCell_any (a b : Nat) (F : Nat → Bool) (x y : Int) (W : World) (ha : 1 ≤ a ∧ a ≤ 6) (hb : 1 ≤ b ∧ b ≤ 6) (hab : a * b ≤ 36) :
    Calls Try.prog 116 #[.agg (bdV a b F), (.agg #[.int .i64 x, .int .i64 y])] W fun e w' => e = .returned (.bool (hasB a b F x y)) ∧ Below W.heap.size W w' := by
  have t1 := (brd_new W a b F).alloc (.cells #[.int .i64 x, .int .i64 y] 30)
  have t2 := at_new (W.alloc (.cells (bdV a b F) 108)) x y 30
  rw [size_alloc] at t2
  have b2 := below2 W (.cells (bdV a b F) 108) (.cells #[.int .i64 x, .int .i64 y] 30)
  have c2 := t2.c0; have c3 := t2.c1
  have HC := Lib.hid (fun w => covers_any a b F x y w ha hb)
  have HV : Hid (hasB a b F x y = (covB a b x y && F (y * a + x).toNat)) := rfl
  cases hc : covB a b x y
  · rw [hc] at HV HC
    go_enter Try.func116, Try.ntmps116
    go_wp2_with (refine wpList_loadB rfl _ rfl _ _ _ _ rfl t1 ?_)
    refine (HC.out _).mono ?_
    rintro e w1 ⟨rfl, hb1⟩
    have b3 := below_on b2 hb1
    go_wp2_with fail
    go_ret
    exact ⟨ret_bool (by rw [HV.out]; rfl), b3⟩
  · rw [hc] at HV HC
    obtain ⟨i, j, rfl, rfl, hi, hj, hij, hK⟩ := covB_nat hc
    have HI := Lib.hid (fun w => indexOf_any a b F i j w ha.2 hb.2 hi hj)
    rw [hK, Int.toNat_natCast] at HV
    generalize j * a + i = k at *
    clear hK
    have hk36 : k < 36 := by omega
    go_enter Try.func116, Try.ntmps116
    go_wp2_with (refine wpList_loadB rfl _ rfl _ _ _ _ rfl t1 ?_)
    refine (HC.out _).mono ?_
    rintro e w1 ⟨rfl, hb1⟩
    have b3 := below_on b2 hb1
    have t3 := t1.step hb1
    have t4 := t2.step hb1
    have c4 := t4.c0; have c5 := t4.c1
    clear t1 t2 b2 hb1 c2 c3
    go_wp2_with (refine wpList_loadB rfl _ rfl _ _ _ _ rfl t3 ?_)
    refine (HI.out _).mono ?_
    rintro e w2 ⟨rfl, hb2⟩
    have b4 := below_on b3 hb2
    have t5 := t3.step hb2
    have c6 := t5.at hk36
    clear t3 b3 hb2 c4 c5 t4
    go_wp2_with fail
    go_ret
    exact ⟨ret_bool (by rw [HV.out]; rfl), b4⟩
end Go.Proofs.Ytncahchhinfneaa

/-! Round -/
namespace Go.Proofs.Ytncahchhinfneaa
open Go.Sort Go.RowKit

/-- A fence that lets everything by. -/
structure IsWide (F : Fence) : Prop where
  fn : ∀ f, F.fn f
  depth : F.depth = none
  calls : ∀ {n : Nat} {P : Program} {f : FuncId} {args : Array Value} {w : World} {R : Ending → World → Prop}, Calls P f args w R → CallsIn F n P f args w R
theorem wide0 : IsWide Fence.wide := ⟨fun _ => trivial, rfl, fun h => callsIn_wide.2 h⟩
theorem wideR (l : Nat) : IsWide (Fence.wide.inRound l) := ⟨fun _ => trivial, rfl, fun h => CallsIn.inRound l (callsIn_wide.2 h)⟩

def noDeferB (ops : Array Oper) : Bool := ops.all fun o => match o.op with
  | .defer _ => false
  | _ => true
theorem noDefer_at {ops : Array Oper} (h : noDeferB ops = true) {i : Nat} {o : Oper} (ho : ops[i]? = some o) : ∀ c, o.op ≠ .defer c := by
  intro c hc
  have h1 := Array.all_eq_true'.1 h o (Array.mem_of_getElem? ho)
  rw [hc] at h1
  cases h1
theorem semAt_any {ro : Option Nat} {o : Oper} (h : ∀ c, o.op ≠ .defer c) (ρ : Operand → Value) : o.semAt ro ρ = execOp ρ o := by
  cases ro with
  | none => exact Oper.semAt_none _ _
  | some l => exact Oper.semAt_some _ _ _ h

section
variable {F : Fence} {n : Nat} {P : Program} {ops : Array Oper} {md : Region.Mode} {C : World → Prop}

theorem wpOpIn_of_qOp {i : Nat} {a : Act} {K : Act → Prop} {K' : Act → World → Prop} {Q' : Exit → Act → World → Prop} {w : World} (hF : IsWide F) (hd : noDeferB ops = true) (hC : C w)
    (h : ∀ a w', C w' → K a → K' a w') (hh : qOp P ops C i K a) : wpOpIn F n P ops Q' i K' a w := by
  unfold qOp at hh
  unfold wpOpIn
  split
  · rename_i ho
    simp only [ho] at hh
    exact h _ _ hC hh
  · rename_i o ho
    simp only [ho] at hh
    split
    · rename_i hw
      simp only [hw, if_true] at hh
      obtain ⟨v, h1, h2⟩ := hh
      have h3 := h1 w hC
      refine ⟨fun f _ => hF.fn f, ?_⟩
      rw [semAt_any (noDefer_at hd ho)]
      unfold Oper.quietAt at h3
      generalize (execOp a.eval o).run P w = r at *
      cases r with
      | ok nx w' =>
        cases nx <;> simp only [Oper.quietUpon] at h3 <;> simp only [Oper.uponIn]
        case value u =>
          obtain ⟨rfl, rfl⟩ := h3
          exact h _ _ hC h2
        case skip =>
          obtain ⟨rfl, rfl⟩ := h3
          exact h _ _ hC h2
        case enter f args =>
          obtain ⟨rfl, hc⟩ := h3
          refine ⟨fun e => (by rw [hF.depth] at e; cases e), (hF.calls hc).mono ?_⟩
          rintro e w'' ⟨rfl, hw''⟩
          exact h _ _ hw'' h2
      | halt x w' => simp only [Oper.quietUpon] at h3
    · rename_i hw
      simp only [hw] at hh
      exact ⟨fun f _ => hF.fn f, h _ _ hC hh⟩

/-! ### The whole region quiet -/
theorem wpAnyIn_of_quietP {Q : Act → Prop} {Q' : Exit → Act → World → Prop} (hF : IsWide F) (hd : noDeferB ops = true) (hQ : ∀ a w, C w → Q a → Q' .normal a w) : ∀ (fuel : Nat) (listed : Array Bool) (a : Act) (w : World), C w →
    wpAnyQ P md ops C Q fuel listed a → wpAnyIn F n P md ops Q' fuel listed a w
  | 0, _, _, _, hw, h => ⟨h.1, hQ _ _ hw h.2⟩
  | fuel + 1, _, _, _, hw, h => ⟨fun h0 => hQ _ _ hw (h.1 h0), fun i hi => wpOpIn_of_qOp hF hd hw (fun a' w' hw' => wpAnyIn_of_quietP hF hd hQ fuel _ a' w' hw') (h.2 i hi)⟩

theorem region_quiet_in {id : Nat} {Q : Exit → Act → World → Prop} {a : Act} {w : World} {l : List Oper} (hF : IsWide F) (hd : noDeferB l.toArray = true) (hm : P.follows .mixedOrders = true) (hB : Region.lexB .any l.toArray = true)
    (h : wpQuiet P l.toArray (fun w' => ∃ p : Regrown, w' = grow (redrawn w p.d) p.os) (fun a' => ∀ w', (∃ p : Regrown, w' = grow (redrawn w p.d) p.os) → Q .normal a' w') l a) : (Code.region id l.toArray true).wpIn F n P Q a w := by
  simp only [Region.lexB, Bool.and_eq_true] at hB
  have hC : ∃ p : Regrown, ({ w with drawn := w.drawn + 1 } : World) = grow (redrawn w p.d) p.os := ⟨⟨w.drawn + 1, #[]⟩, by rw [grow_empty]; rfl⟩
  refine wpIn_region_any hm (wpAnyIn_of_quietP (Q := fun a' => ∀ w', (∃ p : Regrown, w' = grow (redrawn w p.d) p.os) → Q .normal a' w') hF hd (fun _ w' hw' h => h w' hw') _ _ _ _ hC ?_)
  have := wpAnyQ_lex (P := P) (C := fun w' => ∃ p : Regrown, w' = grow (redrawn w p.d) p.os) (md := .any) hB.1 l 0 (Array.replicate l.toArray.size false) a (by simp) (by simpa using hB.2) h
  simpa using this

/-! ### A quiet head, then a tail -/
def wpAnyQL (P : Program) (md : Region.Mode) (ops : Array Oper) (C : World → Prop) (m : Nat) (L : Array Bool → Act → Prop) : Nat → Array Bool → Act → Prop
  | 0, listed, a => L listed a
  | f + 1, listed, a =>
    Region.ready md ops listed ≠ [] ∧ ∀ i ∈ Region.ready md ops listed, i < m ∧ qOp P ops C i (wpAnyQL P md ops C m L f (listed.setIfInBounds i true)) a

theorem wpAnyIn_of_headQ {m g : Nat} {L : Array Bool → Act → Prop} {Q' : Exit → Act → World → Prop} (hF : IsWide F) (hd : noDeferB ops = true) (hL : ∀ listed a w, C w → L listed a → wpAnyIn F n P md ops Q' g listed a w) :
    ∀ (f : Nat) (listed : Array Bool) (a : Act) (w : World), C w → wpAnyQL P md ops C m L f listed a → wpAnyIn F n P md ops Q' (f + g) listed a w
  | 0, listed, a, w, hw, h => by rw [Nat.zero_add]; exact hL _ _ _ hw h
  | f + 1, listed, a, w, hw, h => by
    rw [show f + 1 + g = (f + g) + 1 by omega]
    exact ⟨fun h0 => absurd h0 h.1, fun i hi => wpOpIn_of_qOp hF hd hw (fun a' w' hw' h' => wpAnyIn_of_headQ hF hd hL f _ a' w' hw' h') (h.2 i hi).2⟩

theorem wpAnyQL_first {m i : Nat} {oi : Oper} {v : Value} {L : Array Bool → Act → Prop} (hi : ops[i]? = some oi) (hsel : ∀ (j : Nat) (o : Oper) cs b, ops[j]? = some o → o.op ≠ .select cs b)
    (hs : Region.sinkB md ops m = true) (hc : Region.chainB md ops m = true) (hn : m < ops.size) (hin : i < m)
    (hdone : ∀ listed a, L listed a → ∀ j ∈ Region.ready md ops listed, m ≤ j) :
    ∀ (f : Nat) (listed : Array Bool) (a : Act), HeadInv md ops m listed →
      (∀ j oj, ops[j]? = some oj → j ≠ i → listed.getD j true = false → (∀ e ∈ oj.after, Region.binds md e = true → e.on ≠ i) → oi.apart ops oj = true) →
      i ∈ Region.ready md ops listed → YieldsIn P ops C oi v a →
      wpAnyQL P md ops C m L f (listed.setIfInBounds i true) (a.put oi.dst v) → wpAnyQL P md ops C m L (f + 1) listed a := by
  intro f
  induction f with
  | zero =>
    intro listed a inv _ hr hy H
    have hun := (mem_ready.1 hr).1
    refine ⟨fun h => (by rw [h] at hr; cases hr), fun j hj => ?_⟩
    have hjn : j < m := by
      rcases Nat.lt_or_ge j m with h | h
      · exact h
      · exact absurd hj (tail_waits hs hc hn inv _ i rfl hin hun j h)
    refine ⟨hjn, ?_⟩
    by_cases hji : j = i
    · subst hji; exact hy.qOp hi H
    · have := hdone _ _ H j (ready_mono hj hji)
      omega
  | succ f ih =>
    intro listed a inv hfree hr hy H
    have hun := (mem_ready.1 hr).1
    refine ⟨fun h => (by rw [h] at hr; cases hr), fun j hj => ?_⟩
    have hjn : j < m := by
      rcases Nat.lt_or_ge j m with h | h
      · exact h
      · exact absurd hj (tail_waits hs hc hn inv _ i rfl hin hun j h)
    refine ⟨hjn, ?_⟩
    by_cases hji : j = i
    · subst hji; exact hy.qOp hi H
    · have h1 := (H.2 j (ready_mono hj hji)).2
      obtain ⟨hjun, oj, hoj, hall⟩ := mem_ready.1 hj
      have hnot : ∀ e ∈ oj.after, Region.binds md e = true → e.on ≠ i := fun e he hb heq => by
        have h1 := hall e he hb
        rw [heq, getD_both hun] at h1
        cases h1
      have h2 := qOp_put hoj (hfree j oj hoj hji hjun hnot) (fun cs b => hsel i oi cs b hi) (fun cs b => hsel j oj cs b hoj) hy h1
      have hfree' : ∀ k ok, ops[k]? = some ok → k ≠ i → (listed.setIfInBounds j true).getD k true = false →
          (∀ e ∈ ok.after, Region.binds md e = true → e.on ≠ i) → oi.apart ops ok = true := fun k ok hk hki hun hno => by
        refine hfree k ok hk hki ?_ hno
        by_cases hjk : j = k
        · subst hjk; exact hjun
        · rw [getD_set_ne true hjk] at hun; exact hun
      refine qOp_mono (fun a' h3 => ih (listed.setIfInBounds j true) a' (inv.set hj hjn) hfree' (ready_mono hr (Ne.symm hji)) h3.1 ?_) h2
      rw [Array.setIfInBounds_comm _ _ hji]
      exact h3.2

theorem wpAnyQL_lex {m g : Nat} {Lq : Act → Prop} (hsel : Region.noSelect ops = true) (hs : Region.sinkB md ops m = true) (hc : Region.chainB md ops m = true) (hn : m < ops.size) :
    ∀ (l : List Oper) (k : Nat) (listed : Array Bool) (a : Act), (∀ j, j < l.length → l[j]? = ops[k + j]?) → k + l.length = m → HeadInv md ops m listed →
    Region.lexHead md ops g l.length k listed = true → wpQuiet P ops C Lq l a →
    wpAnyQL P md ops C m (fun listed' a' => Region.seqB md ops g m listed' = true ∧ Lq a') l.length listed a
  | [], k, listed, a, _, hk, _, hB, h => by
    have : k = m := by simpa using hk
    subst this
    exact ⟨by simpa [Region.lexHead] using hB, h⟩
  | o :: l, k, listed, a, hl, hk, inv, hB, h => by
    have h0 : ops[k]? = some o := by simpa using (hl 0 (by simp)).symm
    simp only [List.length_cons, Region.lexHead, Bool.and_eq_true] at hB
    obtain ⟨⟨hr, hf⟩, hB'⟩ := hB
    have hkn : k < m := by simp only [List.length_cons] at hk; omega
    have hr' : k ∈ Region.ready md ops listed := by simpa using hr
    have hst : qOp P ops C k (wpQuiet P ops C Lq l) a := by unfold qOp; simp only [h0]; exact h
    obtain ⟨v, hy, hK⟩ := yieldsIn_of_qOp h0 hst
    exact wpAnyQL_first h0 (Region.noSelect_spec hsel) hs hc hn hkn (fun listed' a' hL => seqB_ready hL.1) l.length listed a inv (Region.free_spec h0 hf) hr' hy
      (wpAnyQL_lex hsel hs hc hn l (k + 1) _ _ (fun j hj => by have := hl (j + 1) (by simp; omega); simpa [Nat.add_assoc, Nat.add_comm 1 j] using this) (by simp only [List.length_cons] at hk; omega) (inv.set hr' hkn) hB' hK)

theorem wpAnyIn_of_seqP {Q' : Exit → Act → World → Prop} : ∀ (l : List Oper) (k : Nat) (listed : Array Bool) (a : Act) (w : World), (∀ j, l[j]? = ops[k + j]?) →
    Region.seqB md ops l.length k listed = true → wpListIn F n P ops Q' l a w → wpAnyIn F n P md ops Q' l.length listed a w
  | [], _, _, _, _, _, hB, h => ⟨by simpa [Region.seqB] using hB, h⟩
  | o :: l, k, listed, a, w, hl, hB, h => by
    have h0 : ops[k]? = some o := by simpa using (hl 0).symm
    simp only [List.length_cons, Region.seqB, Bool.and_eq_true, decide_eq_true_eq] at hB
    refine ⟨fun h1 => (by rw [hB.1] at h1; cases h1), fun i hi => ?_⟩
    rw [hB.1] at hi
    have hik : i = k := by simpa using hi
    subst hik
    have hw : wpOpIn F n P ops Q' i (wpListIn F n P ops Q' l) a w := by unfold wpOpIn; simp only [h0]; exact h
    exact wpOpIn_mono (fun a' w' h' => wpAnyIn_of_seqP l (i + 1) _ a' w' (fun j => by have := hl (j + 1); simpa [Nat.add_assoc, Nat.add_comm 1 j] using this) hB.2 h') hw

/-- **A quiet head of m operations, then a tail in sequence.** -/
theorem region_tail_in {id : Nat} {Q : Exit → Act → World → Prop} {a : Act} {w : World} {l : List Oper} (m : Nat) (hF : IsWide F) (hd : noDeferB l.toArray = true) (hm : P.follows .mixedOrders = true) (hB : Region.lexTailB .any l.toArray m = true)
    (h : wpQuiet P l.toArray (fun w' => ∃ p : Regrown, w' = grow (redrawn w p.d) p.os) (fun a' => ∀ w', (∃ p : Regrown, w' = grow (redrawn w p.d) p.os) → wpListIn F n P l.toArray Q (l.drop m) a' w') (l.take m) a) :
    (Code.region id l.toArray true).wpIn F n P Q a w := by
  simp only [Region.lexTailB, Bool.and_eq_true, decide_eq_true_eq] at hB
  obtain ⟨⟨⟨⟨hsel, hn⟩, hs⟩, hc⟩, hlex⟩ := hB
  have hn' : m < l.length := by simpa using hn
  have htl : (l.take m).length = m := by simp; omega
  have hdl : (l.drop m).length = l.toArray.size - m := by simp
  have inv0 : HeadInv .any l.toArray m (Array.replicate l.toArray.size false) :=
    ⟨by simp, fun j oj _ hl => (by rw [getD_replicate_false] at hl; cases hl), fun t _ ht => getD_in (by simpa using ht) (getD_replicate_false _ _)⟩
  have H := wpAnyQL_lex (md := .any) (P := P) (C := fun w' => ∃ p : Regrown, w' = grow (redrawn w p.d) p.os) (g := l.toArray.size - m) hsel hs hc hn (l.take m) 0 _ a (fun j hj => by
    have hj' : j < m := by rw [htl] at hj; exact hj
    simp [hj']) (by simpa using htl) inv0 (by rw [htl]; exact hlex) h
  have hC : ∃ p : Regrown, ({ w with drawn := w.drawn + 1 } : World) = grow (redrawn w p.d) p.os := ⟨⟨w.drawn + 1, #[]⟩, by rw [grow_empty]; rfl⟩
  refine wpIn_region_any hm ?_
  have := wpAnyIn_of_headQ (F := F) (n := n) (Q' := Q) (g := l.toArray.size - m) hF hd (fun listed a' w' hw' hL => by
    have := wpAnyIn_of_seqP (F := F) (n := n) (P := P) (md := .any) (Q' := Q) (l.drop m) m listed a' w' (fun j => by simp [List.getElem?_drop]) (by rw [hdl]; exact hL.1) (hL.2 w' hw')
    rwa [hdl] at this) _ _ _ _ hC H
  rw [htl, show m + (l.toArray.size - m) = l.toArray.size by omega] at this
  exact this
end
end Go.Proofs.Ytncahchhinfneaa

/-! Tail -/
namespace Go.Proofs.Ytncahchhinfneaa
open Go.Sort Go.RowKit

section
variable {P : Program} {ops : Array Oper} {md : Region.Mode} {C : World → Prop}
theorem wpAny_of_headQ {m g : Nat} {L : Array Bool → Act → Prop} {Q' : Exit → Act → World → Prop} (hL : ∀ listed a w, C w → L listed a → wpAny P md ops Q' g listed a w) :
    ∀ (f : Nat) (listed : Array Bool) (a : Act) (w : World), C w → wpAnyQL P md ops C m L f listed a → wpAny P md ops Q' (f + g) listed a w
  | 0, listed, a, w, hw, h => by rw [Nat.zero_add]; exact hL _ _ _ hw h
  | f + 1, listed, a, w, hw, h => by
    rw [show f + 1 + g = (f + g) + 1 by omega]
    exact ⟨fun h0 => absurd h0 h.1, fun i hi => wpOp_of_qOp hw (fun a' w' hw' h' => wpAny_of_headQ hL f _ a' w' hw' h') (h.2 i hi).2⟩
/-- **A quiet head of m operations, then a tail in sequence.** -/
theorem region_tail {id : Nat} {Q : Exit → Act → World → Prop} {a : Act} {w : World} {l : List Oper} (m : Nat) (hm : P.follows .mixedOrders = true) (hB : Region.lexTailB .any l.toArray m = true)
    (h : wpQuiet P l.toArray (fun w' => ∃ p : Regrown, w' = grow (redrawn w p.d) p.os) (fun a' => ∀ w', (∃ p : Regrown, w' = grow (redrawn w p.d) p.os) → wpList P l.toArray Q (l.drop m) a' w') (l.take m) a) :
    (Code.region id l.toArray true).wp P Q a w := by
  simp only [Region.lexTailB, Bool.and_eq_true, decide_eq_true_eq] at hB
  obtain ⟨⟨⟨⟨hsel, hn⟩, hs⟩, hc⟩, hlex⟩ := hB
  have hn' : m < l.length := by simpa using hn
  have htl : (l.take m).length = m := by simp; omega
  have hdl : (l.drop m).length = l.toArray.size - m := by simp
  have inv0 : HeadInv .any l.toArray m (Array.replicate l.toArray.size false) :=
    ⟨by simp, fun j oj _ hl => (by rw [getD_replicate_false] at hl; cases hl), fun t _ ht => getD_in (by simpa using ht) (getD_replicate_false _ _)⟩
  have H := wpAnyQL_lex (md := .any) (P := P) (C := fun w' => ∃ p : Regrown, w' = grow (redrawn w p.d) p.os) (g := l.toArray.size - m) hsel hs hc hn (l.take m) 0 _ a (fun j hj => by
    have hj' : j < m := by rw [htl] at hj; exact hj
    simp [hj']) (by simpa using htl) inv0 (by rw [htl]; exact hlex) h
  have hC : ∃ p : Regrown, ({ w with drawn := w.drawn + 1 } : World) = grow (redrawn w p.d) p.os := ⟨⟨w.drawn + 1, #[]⟩, by rw [grow_empty]; rfl⟩
  refine wp_region_any hm ?_
  have := wpAny_of_headQ (Q' := Q) (g := l.toArray.size - m) (fun listed a' w' hw' hL => by
    have := wpAny_of_seq (md := .any) (Q' := Q) (l.drop m) m listed a' w' (fun j => by simp [List.getElem?_drop]) (by rw [hdl]; exact hL.1) (hL.2 w' hw')
    rwa [hdl] at this) _ _ _ _ hC H
  rw [htl, show m + (l.toArray.size - m) = l.toArray.size by omega] at this
  exact this
end
end Go.Proofs.Ytncahchhinfneaa

/-! Pts -/
namespace Go.Proofs.Ytncahchhinfneaa
open Go.RowKit

/-- A block that holds points one behind the other. -/
def Pts (w : World) (g : Nat) (L : List (Int × Int)) : Prop := ∀ k (h : k < L.length), w.cell? ⟨g, k * 2, none⟩ = some (.int .i64 L[k].1) ∧ w.cell? ⟨g, k * 2 + 1, none⟩ = some (.int .i64 L[k].2)
theorem Pts.step {w w' : World} {g : Nat} {L : List (Int × Int)} (h : Pts w g L) (hg : g < w.heap.size) (hb : Below w.heap.size w w') : Pts w' g L := fun k hk =>
  ⟨(hb.cell (p := ⟨g, k * 2, none⟩) hg).trans (h k hk).1, (hb.cell (p := ⟨g, k * 2 + 1, none⟩) hg).trans (h k hk).2⟩
def allOk (L : List (Int × Int)) : Bool := L.all fun p => okP p.1 p.2

/-- The cells of a list of points. -/
def flat (L : List (Int × Int)) : List Value := L.flatMap fun p => [.int .i64 p.1, .int .i64 p.2]
theorem flat_append (L M : List (Int × Int)) : flat (L ++ M) = flat L ++ flat M := by simp [flat]
theorem flat_len (L : List (Int × Int)) : (flat L).length = L.length * 2 := by
  induction L with
  | nil => rfl
  | cons p L ih =>
    have : flat (p :: L) = .int .i64 p.1 :: .int .i64 p.2 :: flat L := rfl
    rw [this]; simp [ih]; omega
theorem infoPt : (Try.prog.info? 30).map (fun i => (i.zero, i.size, i.bytes)) = some (some (.agg #[.int .i64 0, .int .i64 0]), 2, 16) := by kernel_rfl
theorem At.grown {w w' : World} {g : Nat} {x y : Int} {t : TypeId} {r : Option Nat} (h : At w g x y t) (hg : w.grownBy w' r) (hne : some g ≠ r) : At w' g x y t := (hg.block g h.lt hne).trans h

theorem own_below {w w' : World} {B : Nat} {e : TypeId} {size : Nat} {v : Value} {n : Nat} {xs : List Value} (h : w.ownsRow B e size v n xs) (hb : Below w.heap.size w w') : w'.ownsRow B e size v n xs := by
  refine ⟨h.1, ?_⟩
  rcases h.2 with h2 | ⟨g, cap, cur, hv, hg, hh, r⟩
  · exact Or.inl h2
  · exact Or.inr ⟨g, cap, cur, hv, hg, by rw [hb.block g (Array.getElem?_eq_some_iff.1 hh).1]; exact hh, r⟩
theorem own_base {w : World} {B B' : Nat} {e : TypeId} {size : Nat} {v : Value} {n : Nat} {xs : List Value} (h : w.ownsRow B e size v n xs) (hb : B' ≤ B) : w.ownsRow B' e size v n xs := by
  refine ⟨h.1, ?_⟩
  rcases h.2 with h2 | ⟨g, cap, cur, hv, hg, r⟩
  · exact Or.inl h2
  · exact Or.inr ⟨g, cap, cur, hv, by omega, r⟩
theorem Four.grown {w w' : World} {g : Nat} {ax ay bx by' px py qx qy : Int} {t : TypeId} {r : Option Nat} (h : Four w g ax ay bx by' px py qx qy t) (hg : w.grownBy w' r) (hr : ∀ k, r = some k → g + 1 + 1 + 1 + 1 ≤ k) : Four w' g ax ay bx by' px py qx qy t :=
  ⟨h.1.grown hg (fun e => by have := hr _ e.symm; omega), h.2.1.grown hg (fun e => by have := hr _ e.symm; omega), h.2.2.1.grown hg (fun e => by have := hr _ e.symm; omega), h.2.2.2.grown hg (fun e => by have := hr _ e.symm; omega)⟩
theorem Pts.grown {w w' : World} {g : Nat} {L : List (Int × Int)} {r : Option Nat} (h : Pts w g L) (hg : w.grownBy w' r) (hr : some g ≠ r) : Pts w' g L := fun k hk =>
  ⟨hg.cell (h k hk).1 hr, hg.cell (h k hk).2 hr⟩
theorem Pts.alloc {w : World} {g : Nat} {L : List (Int × Int)} (h : Pts w g L) (hg : g < w.heap.size) (o : Obj) : Pts (w.alloc o) g L := h.step hg ((Below.refl _ _).alloc (Nat.le_refl _) _)
theorem pts2_new (w : World) (ax ay bx by' : Int) : Pts (w.alloc (.cells #[.int .i64 ax, .int .i64 ay, .int .i64 bx, .int .i64 by'] 30)) w.heap.size [(ax, ay), (bx, by')] := by
  intro k hk
  simp only [World.cell?_alloc_mark]
  have hk3 : k < 2 := hk
  match k, hk3 with
  | 0, _ => exact ⟨rfl, rfl⟩
  | 1, _ => exact ⟨rfl, rfl⟩

theorem own_apart {w w1 : World} {B0 B1 : Nat} {e : TypeId} {v0 v1 : Value} {n0 n1 : Nat} {xs0 xs1 : List Value} (h0 : w.ownsRow B0 e 2 v0 n0 xs0) (hB : w.heap.size ≤ B1) (h1 : w1.ownsRow B1 e 2 v1 n1 xs1) : v0.ownBlock = none ∨ v0.ownBlock ≠ v1.ownBlock := by
  cases hv : v0.ownBlock with
  | none => exact .inl rfl
  | some k =>
    refine .inr fun he => ?_
    have a1 := (h0.lt k hv).2
    have a2 := (h1.lt k he.symm).1
    omega
theorem own_drew {w : World} {B : Nat} {e : TypeId} {size : Nat} {v : Value} {n : Nat} {xs : List Value} (h : w.ownsRow B e size v n xs) : w.drew.ownsRow B e size v n xs := h

theorem cell_on {w w' : World} {B : Nat} {a : Addr} {v : Value} (hb : Below B w w') (hB : B = w.heap.size) (h : w.cell? a = some v) : w'.cell? a = some v := by
  subst hB
  exact (hb.cell (World.block_lt_of_cell? w a h)).trans h

/-- The cells of a slice of points. -/
def PtsA (w : World) (A : Option Addr) (L : List (Int × Int)) : Prop := ∀ k (h : k < L.length), ∃ g, A = some ⟨g, 0, none⟩ ∧ w.cell? ⟨g, k * 2, none⟩ = some (.int .i64 L[k].1) ∧ w.cell? ⟨g, k * 2 + 1, none⟩ = some (.int .i64 L[k].2)
theorem flat_at (L : List (Int × Int)) : ∀ k (h : k < L.length), (flat L)[k * 2]? = some (.int .i64 L[k].1) ∧ (flat L)[k * 2 + 1]? = some (.int .i64 L[k].2) := by
  induction L with
  | nil => intro k h; simp at h
  | cons p L ih =>
    intro k h
    have e : flat (p :: L) = .int .i64 p.1 :: .int .i64 p.2 :: flat L := rfl
    rw [e]
    cases k with
    | zero => exact ⟨rfl, rfl⟩
    | succ k =>
      have := ih k (by simpa using h)
      have e1 : (k + 1) * 2 = k * 2 + 1 + 1 := by omega
      have e2 : (k + 1) * 2 + 1 = k * 2 + 1 + 1 + 1 := by omega
      rw [e2, e1]
      simpa using this
theorem own_pts {w : World} {B : Nat} {e : TypeId} {v : Value} {n : Nat} {L : List (Int × Int)} (h : w.ownsRow B e 2 v n (flat L)) :
    n = L.length ∧ ∃ A c, v = .slice A L.length c ∧ PtsA w A L := by
  have hl : L.length = n := by have := h.1; rw [flat_len] at this; omega
  refine ⟨hl.symm, ?_⟩
  subst hl
  rcases h.2 with ⟨rfl, h0⟩ | ⟨g, cap, cur, rfl, hg, hh, _⟩
  · exact ⟨none, 0, by rw [h0], fun k hk => by omega⟩
  · refine ⟨some ⟨g, 0, none⟩, cap, rfl, fun k hk => ⟨g, rfl, ?_, ?_⟩⟩
    · rw [h.cellAt (k * 2) (by omega)]; exact (flat_at L k hk).1
    · rw [h.cellAt (k * 2 + 1) (by omega)]; exact (flat_at L k hk).2
theorem ptsA_of {w : World} {B : Nat} {e : TypeId} {A : Option Addr} {n c : Nat} {L : List (Int × Int)} (h : w.ownsRow B e 2 (.slice A n c) n (flat L)) : PtsA w A L := by
  obtain ⟨_, A', c', hv, hP⟩ := own_pts h
  simp only [Value.slice.injEq] at hv
  obtain ⟨rfl, -, -⟩ := hv
  exact hP
theorem pts_lt {w : World} {B : Nat} {e : TypeId} {A : Option Addr} {n c : Nat} {xs : List Value} (h : w.ownsRow B e 2 (.slice A n c) n xs) : ∀ g, A = some ⟨g, 0, none⟩ → g < w.heap.size := fun g hA => (h.lt g (by rw [hA]; rfl)).2
theorem ptsA_on {w w' : World} {A : Option Addr} {L : List (Int × Int)} (h : PtsA w A L) (hb : Below w.heap.size w w') : PtsA w' A L := fun k hk => by
  obtain ⟨g, hA, h1, h2⟩ := h k hk
  exact ⟨g, hA, cell_on hb rfl h1, cell_on hb rfl h2⟩

/-- The marks 1, 2 .. m. -/
def marksI (m : Nat) : List Value := (List.range m).map fun (j : Nat) => .int .i64 (1 + (j : Int))
theorem marksI_len (m : Nat) : (marksI m).length = m := by simp [marksI]
theorem marksI_step {j : Nat} {xs : List Value} (hj : j < xs.length) : (marksI j ++ xs.drop j).set j (.int .i64 (1 + (j : Int))) = marksI (j + 1) ++ xs.drop (j + 1) := by
  have h1 := marksI_len j
  rw [List.set_append_right _ _ (by rw [h1]; exact Nat.le_refl _), h1, Nat.sub_self, List.drop_eq_getElem_cons hj, List.set_cons_zero]
  simp [marksI, List.range_succ]
theorem only_set {w w1 : World} {g : Nat} (h : w.grownBy w1 (some g)) (j : Nat) (u : Value) : w.grownBy (w1.setCell ⟨g, j, none⟩ u) (some g) :=
  ⟨h.os, h.tape, h.output, by simpa [World.setCell] using h.size, fun k hk hr => (Below.heap_setCell w1 ⟨g, j, none⟩ u k (by
    intro e; exact hr (by rw [e]))).trans (h.block k hk hr)⟩
theorem cell_some {w : World} {B : Nat} {e : TypeId} {g n cap : Nat} {xs : List Value} (h : w.ownsRow B e 2 (.slice (some ⟨g, 0, none⟩) n cap) n xs) (j : Nat) (hj : j < n * 2) : ∃ u, w.cell? ⟨g, j, none⟩ = some u := by
  rw [h.cellAt j hj]
  have : j < xs.length := by rw [h.1]; exact hj
  exact ⟨_, List.getElem?_eq_getElem this⟩

end Go.Proofs.Ytncahchhinfneaa

/-! Cross -/
namespace Go.Proofs.Ytncahchhinfneaa
open Go.RowKit

theorem abs_mul {x y : Int} {m n : Nat} (h1 : x.natAbs ≤ m) (h2 : y.natAbs ≤ n) : (x * y).natAbs ≤ m * n := by
  rw [Int.natAbs_mul]; exact Nat.mul_le_mul h1 h2
theorem wrap_id {x : Int} (h : x.natAbs ≤ 1000000000000000000) : wrap64 x = x := IntWalk.wrap64_in x (by omega)

def crossI (ax ay bx by' px py : Int) : Int := (bx - ax) * (py - ay) - (by' - ay) * (px - ax)
theorem crossI_bound {ax ay bx by' px py : Int} (ha : okP ax ay = true) (hb : okP bx by' = true) (hp : okP px py = true) : (crossI ax ay bx by' px py).natAbs ≤ 3200 := by
  have := okP_bounds ha; have := okP_bounds hb; have := okP_bounds hp
  have h1 := abs_mul (x := bx - ax) (y := py - ay) (m := 40) (n := 40) (by omega) (by omega)
  have h2 := abs_mul (x := by' - ay) (y := px - ax) (m := 40) (n := 40) (by omega) (by omega)
  unfold crossI
  generalize (bx - ax) * (py - ay) = u at *
  generalize (by' - ay) * (px - ax) = v at *
  omega
/-- Small points: what is reckoned of them has no wraps. -/
def smP (x y : Int) : Bool := decide (-200 ≤ x) && decide (x ≤ 200) && decide (-200 ≤ y) && decide (y ≤ 200)
theorem smP_bounds {x y : Int} (h : smP x y = true) : -200 ≤ x ∧ x ≤ 200 ∧ -200 ≤ y ∧ y ≤ 200 := by
  simp only [smP, Bool.and_eq_true, decide_eq_true_eq] at h
  omega
theorem smP_ok {x y : Int} (h : okP x y = true) : smP x y = true := by
  have := okP_bounds h
  simp only [smP, Bool.and_eq_true, decide_eq_true_eq]
  omega
/-- What the program reckons, with its wraps, at small points. -/
theorem cross_wrap_sm {ax ay bx by' px py : Int} (ha : smP ax ay = true) (hb : smP bx by' = true) (hp : smP px py = true) :
    wrap64 (wrap64 (wrap64 (bx - ax) * wrap64 (py - ay)) - wrap64 (wrap64 (by' - ay) * wrap64 (px - ax))) = crossI ax ay bx by' px py := by
  have := smP_bounds ha; have := smP_bounds hb; have := smP_bounds hp
  rw [wrap_id (x := bx - ax) (by omega), wrap_id (x := py - ay) (by omega), wrap_id (x := by' - ay) (by omega), wrap_id (x := px - ax) (by omega)]
  have h1 := abs_mul (x := bx - ax) (y := py - ay) (m := 400) (n := 400) (by omega) (by omega)
  have h2 := abs_mul (x := by' - ay) (y := px - ax) (m := 400) (n := 400) (by omega) (by omega)
  rw [wrap_id (x := (bx - ax) * (py - ay)) (by omega), wrap_id (x := (by' - ay) * (px - ax)) (by omega)]
  unfold crossI
  generalize (bx - ax) * (py - ay) = u at *
  generalize (by' - ay) * (px - ax) = v at *
  exact wrap_id (by omega)
theorem cross_wrap {ax ay bx by' px py : Int} (ha : okP ax ay = true) (hb : okP bx by' = true) (hp : okP px py = true) :
    wrap64 (wrap64 (wrap64 (bx - ax) * wrap64 (py - ay)) - wrap64 (wrap64 (by' - ay) * wrap64 (px - ax))) = crossI ax ay bx by' px py := cross_wrap_sm (smP_ok ha) (smP_ok hb) (smP_ok hp)
def crossV (ax ay bx by' px py : Int) : Int := bif okP ax ay && okP bx by' && okP px py then crossI ax ay bx by' px py else 0

set_option maxRecDepth 100000 in
set_option maxHeartbeats 400000 in
theorem all_any (g c : Nat) (L : List (Int × Int)) (w : World) (hP : Pts w g L) (hg : g < w.heap.size) (hL : L.length ≤ 1048576) :
    Calls Try.prog 69 #[.slice (some ⟨g, 0, none⟩) L.length c] w fun e w' => e = .returned (.bool (allOk L)) ∧ Below w.heap.size w w' := by
  have HP := Lib.hid hP; clear hP
  go_enter Try.func69, Try.ntmps69
  go_wp2_with fail
  go_loopw [4, 7] (fun v i w' => ∃ k : Nat, k ≤ L.length ∧ i = .int .i64 k ∧ Hid (allOk L = allOk (L.drop k)) ∧ Below w.heap.size w w') (fun _ i _ => L.length - (intOf i).toNat)
  case atStart => exact ⟨0, Nat.zero_le _, rfl, rfl, Below.refl _ _⟩
  case round =>
    obtain ⟨wo, rfl⟩ : ∃ wo : World, wo = wr := ⟨_, rfl⟩
    obtain ⟨k, hk, rfl, HA, hb⟩ := hrel
    by_cases hlt : k < L.length
    · have hp := HP.out.step hg hb k hlt
      have hd : L.drop k = L[k] :: L.drop (k + 1) := List.drop_eq_getElem_cons hlt
      have HA2 : Hid (allOk L = (okP L[k].1 L[k].2 && allOk (L.drop (k + 1)))) := by
        show _ = _
        rw [HA.out, hd]; rfl
      obtain ⟨x, y, hxy⟩ : ∃ x y, L[k] = (x, y) := ⟨_, _, rfl⟩
      rw [hxy] at hp HA2
      obtain ⟨c1, c2⟩ := hp
      simp only at c1 c2 HA2
      clear hd hxy
      go_wp2_with fail
      refine (impl_ok _ _ _).mono ?_
      rintro e w2 ⟨rfl, hb2⟩
      have b2 := below_on (hb.alloc hb.size _) hb2
      cases hok : okP x y
      · rw [hok] at HA2
        go_wp2_with fail
        go_ret
        exact ⟨ret_bool (by rw [HA2.out]; rfl), b2⟩
      · rw [hok] at HA2
        clear c1 c2 hb2
        go_wp2_with fail
        go_roundw
        case rel => exact ⟨k + 1, by omega, by go_num, HA2, b2⟩
        case measure => simp [intOf]; omega
    · obtain rfl : k = L.length := by omega
      go_wp2_with fail
      go_ret
      exact ⟨ret_bool (by rw [HA.out]; simp [allOk]), hb⟩
theorem pts3 (w : World) (ax ay bx by' px py : Int) : Pts ((((w.alloc (.cells #[.int .i64 ax, .int .i64 ay] 30)).alloc (.cells #[.int .i64 bx, .int .i64 by'] 30)).alloc (.cells #[.int .i64 px, .int .i64 py] 30)).alloc
      (.cells #[.int .i64 ax, .int .i64 ay, .int .i64 bx, .int .i64 by', .int .i64 px, .int .i64 py] 30)) (w.heap.size + 1 + 1 + 1) [(ax, ay), (bx, by'), (px, py)] := by
  have e3 : w.heap.size + 1 + 1 + 1 = (((w.alloc (.cells #[.int .i64 ax, .int .i64 ay] 30)).alloc (.cells #[.int .i64 bx, .int .i64 by'] 30)).alloc (.cells #[.int .i64 px, .int .i64 py] 30)).heap.size := by simp
  rw [e3]
  intro k hk
  simp only [World.cell?_alloc_mark]
  have hk3 : k < 3 := hk
  match k, hk3 with
  | 0, _ => exact ⟨rfl, rfl⟩
  | 1, _ => exact ⟨rfl, rfl⟩
  | 2, _ => exact ⟨rfl, rfl⟩
theorem pts2 (w : World) (ax ay bx by' : Int) : Pts (((w.alloc (.cells #[.int .i64 ax, .int .i64 ay] 30)).alloc (.cells #[.int .i64 bx, .int .i64 by'] 30)).alloc
      (.cells #[.int .i64 ax, .int .i64 ay, .int .i64 bx, .int .i64 by'] 30)) (w.heap.size + 1 + 1) [(ax, ay), (bx, by')] := by
  have e3 : w.heap.size + 1 + 1 = ((w.alloc (.cells #[.int .i64 ax, .int .i64 ay] 30)).alloc (.cells #[.int .i64 bx, .int .i64 by'] 30)).heap.size := by simp
  rw [e3]
  intro k hk
  simp only [World.cell?_alloc_mark]
  have hk3 : k < 2 := hk
  match k, hk3 with
  | 0, _ => exact ⟨rfl, rfl⟩
  | 1, _ => exact ⟨rfl, rfl⟩
theorem pts4 (w : World) (ax ay bx by' px py qx qy : Int) : Pts (((((w.alloc (.cells #[.int .i64 ax, .int .i64 ay] 30)).alloc (.cells #[.int .i64 bx, .int .i64 by'] 30)).alloc (.cells #[.int .i64 px, .int .i64 py] 30)).alloc (.cells #[.int .i64 qx, .int .i64 qy] 30)).alloc
      (.cells #[.int .i64 ax, .int .i64 ay, .int .i64 bx, .int .i64 by', .int .i64 px, .int .i64 py, .int .i64 qx, .int .i64 qy] 30)) (w.heap.size + 1 + 1 + 1 + 1) [(ax, ay), (bx, by'), (px, py), (qx, qy)] := by
  have e3 : w.heap.size + 1 + 1 + 1 + 1 = ((((w.alloc (.cells #[.int .i64 ax, .int .i64 ay] 30)).alloc (.cells #[.int .i64 bx, .int .i64 by'] 30)).alloc (.cells #[.int .i64 px, .int .i64 py] 30)).alloc (.cells #[.int .i64 qx, .int .i64 qy] 30)).heap.size := by simp
  rw [e3]
  intro k hk
  simp only [World.cell?_alloc_mark]
  have hk3 : k < 4 := hk
  match k, hk3 with
  | 0, _ => exact ⟨rfl, rfl⟩
  | 1, _ => exact ⟨rfl, rfl⟩
  | 2, _ => exact ⟨rfl, rfl⟩
  | 3, _ => exact ⟨rfl, rfl⟩
theorem all2 (a b c d : Int) : allOk [(a, b), (c, d)] = (okP a b && okP c d) := by simp [allOk]
theorem all3 (a b c d e f : Int) : allOk [(a, b), (c, d), (e, f)] = (okP a b && okP c d && okP e f) := by simp [allOk, Bool.and_assoc]
theorem all4 (a b c d e f g h : Int) : allOk [(a, b), (c, d), (e, f), (g, h)] = (okP a b && okP c d && okP e f && okP g h) := by simp [allOk, Bool.and_assoc]
set_option maxRecDepth 100000 in
set_option maxHeartbeats 400000 in
theorem impl_cross (ax ay bx by' px py : Int) (w : World) :
    Calls Try.prog 145 #[(.agg #[.int .i64 ax, .int .i64 ay]), (.agg #[.int .i64 bx, .int .i64 by']), (.agg #[.int .i64 px, .int .i64 py])] w fun e w' => e = .returned (.int .i64 (crossV ax ay bx by' px py)) ∧ Below w.heap.size w w' := by
  have HP := Lib.hid (pts3 w ax ay bx by' px py)
  go_enter Try.func145, Try.ntmps145
  go_wp2_with fail
  refine (all_any _ _ [(ax, ay), (bx, by'), (px, py)] _ HP.out (by simp) (by simp)).mono ?_
  rintro e w1 ⟨rfl, hb1⟩
  have t1 := ((three0 w ax ay bx by' px py 30).alloc _).step hb1
  have b1 := below_on (below4 w _ _ _ _) hb1
  clear hb1 HP
  cases hok : allOk [(ax, ay), (bx, by'), (px, py)]
  · go_wp2_with fail
    go_ret
    exact ⟨ret_int (by rw [crossV, ← all3, hok]; rfl), b1⟩
  have hok' := hok
  rw [all3] at hok'
  simp only [Bool.and_eq_true] at hok'
  obtain ⟨⟨ha, hb⟩, hp⟩ := hok'
  have c1 := t1.1.c0; have c2 := t1.1.c1; have c3 := t1.2.1.c0; have c4 := t1.2.1.c1; have c5 := t1.2.2.c0; have c6 := t1.2.2.c1
  have k1 := cell_regrown c1; have k2 := cell_regrown c2; have k3 := cell_regrown c3; have k4 := cell_regrown c4; have k5 := cell_regrown c5; have k6 := cell_regrown c6
  go_wp2_with fail
  refine wp_region_quiet_below (by kernel_rfl) (by kernel_rfl) ?_
  repeat (first
    | go_big_quiet_step (first | exact Calls.regrown_of (minus_any _ _ _ _ _) | exact Calls.regrown_of (crossM_any _ _ _ _ _))
    | quiet_step (first | exact Calls.regrown_of (minus_any _ _ _ _ _) | exact Calls.regrown_of (crossM_any _ _ _ _ _)))
  refine wpQuiet_nil ?_
  intro _ hw'
  obtain ⟨⟨dq, osq⟩, hw''⟩ := hw'
  subst hw''
  have b2 := b1.trans ((below_regrown w1 dq osq).mono b1.size)
  go_wp2_with fail
  go_ret
  exact ⟨ret_int (by rw [cross_wrap ha hb hp]; simp [crossV, ha, hb, hp]), b2⟩
end Go.Proofs.Ytncahchhinfneaa

/-! Right -/
namespace Go.Proofs.Ytncahchhinfneaa
open Go.RowKit

def loB (l h p : Int × Int) : Bool := decide (l.2 ≤ p.2) && decide (p.2 < h.2) && decide (0 < crossI l.1 l.2 h.1 h.2 p.1 p.2)
def rightB (a b p : Int × Int) : Bool := bif decide (b.2 < a.2) then loB b a p else loB a b p

theorem at_froz {W : World} {g : Nat} {x y : Int} {t : TypeId} (h : At W g x y t) (o : Nat) : W.frozen? ⟨g, o, none⟩ = false := by simp [World.frozen?, show W.heap[g]? = _ from h]
theorem at_set {W : World} {x y : Int} {b : Nat} {t : TypeId} {G : Nat} (h : At W G x y t) (hne : G ≠ b) (o : Nat) (v : Value) : At (W.setCell ⟨b, o, none⟩ v) G x y t := (Below.heap_setCell W ⟨b, o, none⟩ v G hne).trans h
theorem at_st0 {W : World} {g : Nat} {x y : Int} {t : TypeId} (h : At W g x y t) (a : Int) (o : Nat) (ho : o = 0 := by rfl) : At (W.setCell ⟨g, o, none⟩ (.int .i64 a)) g a y t := by
  subst ho
  obtain ⟨hlt, hk⟩ := Array.getElem?_eq_some_iff.1 h
  show (W.heap.modify g _)[g]? = _
  rw [Array.getElem?_eq_getElem (by rw [Array.size_modify]; exact hlt), Array.getElem_modify_self, hk]
  rfl
theorem at_st1 {W : World} {g : Nat} {x y : Int} {t : TypeId} (h : At W g x y t) (a : Int) : At (W.setCell ⟨g, 1, none⟩ (.int .i64 a)) g x a t := by
  obtain ⟨hlt, hk⟩ := Array.getElem?_eq_some_iff.1 h
  show (W.heap.modify g _)[g]? = _
  rw [Array.getElem?_eq_getElem (by rw [Array.size_modify]; exact hlt), Array.getElem_modify_self, hk]
  rfl
set_option maxRecDepth 100000 in
set_option maxHeartbeats 4000000 in
theorem right_sm (ax ay bx by' px py : Int) (w : World) (ha : smP ax ay = true) (hb : smP bx by' = true) (hp : smP px py = true) :
    Calls Try.prog 147 #[.agg #[.int .i64 ax, .int .i64 ay, .int .i64 bx, .int .i64 by'], (.agg #[.int .i64 px, .int .i64 py])] w fun e w' => e = .returned (.bool (rightB (ax, ay) (bx, by') (px, py))) ∧ Below w.heap.size w w' := by
  go_enter Try.func147, Try.ntmps147
  go_upto_region 1 with (fail)
  go_cut [5, 6] (fun s5 s6 wx => ∃ B5 B6, Hid (B5 ≠ B6) ∧ Hid (w.heap.size + 1 < B5) ∧ Hid (w.heap.size + 1 < B6) ∧ s5 = .pointer (some ⟨B5, 0, none⟩) ∧ s6 = .pointer (some ⟨B6, 0, none⟩) ∧ Hid (At wx B5 ax ay 30) ∧ Hid (At wx B6 bx by' 30) ∧ Hid (At wx (w.heap.size + 1) px py 30) ∧ Hid (Below w.heap.size w wx))
  case first =>
    have hb1 := below2 w (.cells #[.int .i64 ax, .int .i64 ay, .int .i64 bx, .int .i64 by'] 81) (.cells #[.int .i64 px, .int .i64 py] 30)
    have hp1 := at_new (w.alloc (.cells #[.int .i64 ax, .int .i64 ay, .int .i64 bx, .int .i64 by'] 81)) px py 30
    rw [size_alloc] at hp1
    have hs2 : ((w.alloc (.cells #[.int .i64 ax, .int .i64 ay, .int .i64 bx, .int .i64 by'] 81)).alloc (.cells #[.int .i64 px, .int .i64 py] 30)).heap.size = w.heap.size + 1 + 1 := by simp
    have hK : ∀ (W : World) (a b c d : Int), W.heap.size = w.heap.size + 1 + 1 → Below w.heap.size w W → At W (w.heap.size + 1) px py 30 → Below w.heap.size w ((W.alloc (.cells #[.int .i64 a, .int .i64 b] 30)).alloc (.cells #[.int .i64 c, .int .i64 d] 30)).drew ∧ At ((W.alloc (.cells #[.int .i64 a, .int .i64 b] 30)).alloc (.cells #[.int .i64 c, .int .i64 d] 30)).drew (w.heap.size + 1) px py 30 ∧ At ((W.alloc (.cells #[.int .i64 a, .int .i64 b] 30)).alloc (.cells #[.int .i64 c, .int .i64 d] 30)).drew (w.heap.size + 1 + 1) a b 30 ∧ At ((W.alloc (.cells #[.int .i64 a, .int .i64 b] 30)).alloc (.cells #[.int .i64 c, .int .i64 d] 30)).drew (w.heap.size + 1 + 1 + 1) c d 30 := fun W a b c d hs hB hP => by
      have k1 := (at_new W a b 30).alloc (.cells #[.int .i64 c, .int .i64 d] 30)
      have k2 := at_new (W.alloc (.cells #[.int .i64 a, .int .i64 b] 30)) c d 30
      rw [size_alloc] at k2
      rw [hs] at k1 k2
      exact ⟨((hB.alloc (by omega) _).alloc (by simp; omega) _).drew, (hP.alloc _).alloc _, k1, k2⟩
    go_region
    all_goals go_wp2_with fail
    all_goals go_meet
    · have k := hK _ ax ay bx by' hs2 hb1 hp1
      exact ⟨_, _, Lib.hid (by omega), Lib.hid (by omega), Lib.hid (by omega), rfl, rfl, k.2.2.1, k.2.2.2, k.2.1, k.1⟩
    · have k := hK _ bx by' ax ay hs2 hb1 hp1
      exact ⟨_, _, Lib.hid (by omega), Lib.hid (by omega), Lib.hid (by omega), rfl, rfl, k.2.2.2, k.2.2.1, k.2.1, k.1⟩
  case rest =>
    obtain ⟨B5, B6, h1, h2, h3, rfl, rfl, h5, h6, hp', hb'⟩ := hcut
    have c0 := h5.out.c0; have c1 := h5.out.c1; have c2 := h6.out.c0; have c3 := h6.out.c1
    go_upto_if 15 with (fail)
    go_cut [] (fun wx => ∃ l h, Hid (rightB (ax, ay) (bx, by') (px, py) = loB l h (px, py)) ∧ Hid (smP l.1 l.2 = true) ∧ Hid (smP h.1 h.2 = true) ∧ Hid (At wx B5 l.1 l.2 30) ∧ Hid (At wx B6 h.1 h.2 30) ∧ Hid (At wx (w.heap.size + 1) px py 30) ∧ Hid (Below w.heap.size w wx))
    case first =>
      by_cases hsw : by' < ay
      · have f0 := at_froz h5.out 0; have f1 := at_froz h5.out 1
        have e1 := at_st1 (at_st0 h5.out bx 0) by'
        have e2 := at_set (at_set h6.out h1.out.symm 0 (.int .i64 bx)) h1.out.symm 1 (.int .i64 by')
        have e3 := at_st1 (at_st0 e2 ax 0) ay
        have e4 := at_set (at_set e1 h1.out 0 (.int .i64 ax)) h1.out 1 (.int .i64 ay)
        have q1 := e2.c0; have q2 := e2.c1; have q3 := at_froz e2 0; have q4 := at_froz e2 1
        have n5 : w.heap.size + 1 ≠ B5 := by have := h2.out; omega
        have n6 : w.heap.size + 1 ≠ B6 := by have := h3.out; omega
        have eP := at_set (at_set (at_set (at_set hp'.out n5 0 (.int .i64 bx)) n5 1 (.int .i64 by')) n6 0 (.int .i64 ax)) n6 1 (.int .i64 ay)
        have m5 : w.heap.size ≤ B5 := by have := h2.out; omega
        have m6 : w.heap.size ≤ B6 := by have := h3.out; omega
        have bE := (((hb'.out.setCell (p := ⟨B5, 0, none⟩) m5 (.int .i64 bx)).setCell (p := ⟨B5, 1, none⟩) m5 (.int .i64 by')).setCell (p := ⟨B6, 0, none⟩) m6 (.int .i64 ax)).setCell (p := ⟨B6, 1, none⟩) m6 (.int .i64 ay)
        have HX : Hid (At _ B6 _ _ _ ∧ At _ B5 _ _ _ ∧ At _ (w.heap.size + 1) _ _ _ ∧ Below w.heap.size w _) := ⟨e3, e4, eP, bE⟩
        have HR : Hid (rightB (ax, ay) (bx, by') (px, py) = loB (bx, by') (ax, ay) (px, py)) := Lib.hid (by simp [rightB, hsw])
        clear e1 e2 e3 e4 eP bE
        go_wp2_with fail
        go_meet
        exact ⟨_, _, HR, hb, ha, HX.out.2.1, HX.out.1, HX.out.2.2.1, HX.out.2.2.2⟩
      · have HR : Hid (rightB (ax, ay) (bx, by') (px, py) = loB (ax, ay) (bx, by') (px, py)) := Lib.hid (by simp [rightB, hsw])
        go_wp2_with fail
        go_meet
        exact ⟨_, _, HR, ha, hb, h5, h6, hp', hb'⟩
    case rest =>
      obtain ⟨⟨lx, ly⟩, ⟨hx, hy⟩, e1, e2, e3, e4, e5, e6, e7⟩ := hcut
      have HW : Hid (wrap64 (wrap64 (wrap64 (hx - lx) * wrap64 (py - ly)) - wrap64 (wrap64 (hy - ly) * wrap64 (px - lx))) = crossI lx ly hx hy px py) := Lib.hid (cross_wrap_sm e2.out e3.out hp)
      clear c0 c1 c2 c3
      have r0 := cell_regrown e4.out.c0; have r1 := cell_regrown e4.out.c1; have r2 := cell_regrown e5.out.c0; have r3 := cell_regrown e5.out.c1; have r4 := cell_regrown e6.out.c0; have r5 := cell_regrown e6.out.c1
      simp only at r0 r1 r2 r3
      have hc : Hid (loB (lx, ly) (hx, hy) (px, py) = (decide (ly ≤ py) && decide (py < hy) && decide (0 < crossI lx ly hx hy px py))) := Lib.hid rfl
      clear h5 h6 hp' hb' e2 e3 e4 e5 e6
      by_cases g1 : ly ≤ py
      · have d1 : decide (ly ≤ py) = true := decide_eq_true g1
        by_cases g2 : py < hy
        · have d2 : decide (py < hy) = true := decide_eq_true g2
          have HZ : Hid (rightB (ax, ay) (bx, by') (px, py) = decide (0 < wrap64 (wrap64 (wrap64 (hx - lx) * wrap64 (py - ly)) - wrap64 (wrap64 (hy - ly) * wrap64 (px - lx))))) := Lib.hid (by rw [e1.out, hc.out, d1, d2, HW.out]; rfl)
          clear e1 hc HW
          go_upto_region 4 with (fail)
          refine wp_region_quiet_below (by kernel_rfl) (by kernel_rfl) ?_
          repeat (first
            | go_big_quiet_step (first | exact Calls.regrown_of (minus_any _ _ _ _ _) | exact Calls.regrown_of (crossM_any _ _ _ _ _))
            | quiet_step (first | exact Calls.regrown_of (minus_any _ _ _ _ _) | exact Calls.regrown_of (crossM_any _ _ _ _ _)))
          refine wpQuiet_nil ?_
          rintro _ ⟨⟨dq, osq⟩, rfl⟩
          have hB2 := e7.out.trans ((below_regrown wc dq osq).mono e7.out.size)
          go_wp2_with fail
          go_ret
          exact ⟨ret_bool HZ.out.symm, hB2⟩
        · have d2 : decide (py < hy) = false := decide_eq_false g2
          have HZ : Hid (rightB (ax, ay) (bx, by') (px, py) = false) := Lib.hid (by rw [e1.out, hc.out, d1, d2]; rfl)
          clear e1 hc HW
          go_upto_region 4 with (fail)
          refine wp_region_quiet_below (by kernel_rfl) (by kernel_rfl) ?_
          repeat (first
            | go_big_quiet_step (first | exact Calls.regrown_of (minus_any _ _ _ _ _) | exact Calls.regrown_of (crossM_any _ _ _ _ _))
            | quiet_step (first | exact Calls.regrown_of (minus_any _ _ _ _ _) | exact Calls.regrown_of (crossM_any _ _ _ _ _)))
          refine wpQuiet_nil ?_
          rintro _ ⟨⟨dq, osq⟩, rfl⟩
          have hB2 := e7.out.trans ((below_regrown wc dq osq).mono e7.out.size)
          go_wp2_with fail
          go_ret
          exact ⟨ret_bool HZ.out.symm, hB2⟩
      · have d1 : decide (ly ≤ py) = false := decide_eq_false g1
        have HZ : Hid (rightB (ax, ay) (bx, by') (px, py) = false) := Lib.hid (by rw [e1.out, hc.out, d1]; rfl)
        clear e1 hc HW
        go_upto_region 4 with (fail)
        refine wp_region_quiet_below (by kernel_rfl) (by kernel_rfl) ?_
        repeat (first
          | go_big_quiet_step (first | exact Calls.regrown_of (minus_any _ _ _ _ _) | exact Calls.regrown_of (crossM_any _ _ _ _ _))
          | quiet_step (first | exact Calls.regrown_of (minus_any _ _ _ _ _) | exact Calls.regrown_of (crossM_any _ _ _ _ _)))
        refine wpQuiet_nil ?_
        rintro _ ⟨⟨dq, osq⟩, rfl⟩
        have hB2 := e7.out.trans ((below_regrown wc dq osq).mono e7.out.size)
        go_wp2_with fail
        go_ret
        exact ⟨ret_bool HZ.out.symm, hB2⟩
end Go.Proofs.Ytncahchhinfneaa

/-! Side -/
namespace Go.Proofs.Ytncahchhinfneaa
open Go.RowKit

def sgn (n : Int) : Int := if 0 < n then 1 else if n < 0 then -1 else 0
theorem sgn_pos {n : Int} (h : 0 < n) : sgn n = 1 := by simp [sgn, h]
theorem sgn_neg {n : Int} (h : n < 0) : sgn n = -1 := by
  have : ¬ 0 < n := by omega
  simp [sgn, h, this]
theorem sgn_cases (n : Int) : (0 < n ∧ sgn n = 1) ∨ (n < 0 ∧ sgn n = -1) ∨ (n = 0 ∧ sgn n = 0) := by
  rcases Int.lt_trichotomy n 0 with h | h | h
  · exact .inr (.inl ⟨h, sgn_neg h⟩)
  · exact .inr (.inr ⟨h, by simp [sgn, h]⟩)
  · exact .inl ⟨h, sgn_pos h⟩
theorem sgn_abs (n : Int) : (sgn n).natAbs ≤ 1 := by
  rcases sgn_cases n with ⟨_, h⟩ | ⟨_, h⟩ | ⟨_, h⟩ <;> rw [h] <;> decide
theorem sign_any (n : Int) (w : World) : Calls Try.prog 215 #[.int .i64 n] w fun e w' => e = .returned (.int .i64 (sgn n)) ∧ w' = w := by
  rcases sgn_cases n with ⟨h, hs⟩ | ⟨h, hs⟩ | ⟨h, hs⟩
  · rw [hs]
    clear hs
    go_enter Try.func215, Try.ntmps215
    go_wp2_with fail
    go_ret
    exact ⟨rfl, rfl⟩
  · rw [hs]
    clear hs
    go_enter Try.func215, Try.ntmps215
    go_wp2_with fail
    go_ret
    exact ⟨rfl, rfl⟩
  · subst h
    rw [hs]
    clear hs
    go_enter Try.func215, Try.ntmps215
    go_wp2_with fail
    go_ret
    exact ⟨rfl, rfl⟩
theorem nan_any (n : Int) (w : World) : Calls Try.prog 198 #[.int .i64 n] w fun e w' => e = .returned (.bool false) ∧ w' = w := by
  go_enter Try.func198, Try.ntmps198
  go_wp2_with fail
  go_ret
  exact ⟨rfl, rfl⟩
theorem compare_any (m n : Int) (w : World) : Calls Try.prog 148 #[.int .i64 m, .int .i64 n] w fun e w' => e = .returned (.int .i64 (sgn (m - n))) ∧ w' = w := by
  rcases sgn_cases (m - n) with ⟨h, hs⟩ | ⟨h, hs⟩ | ⟨h, hs⟩
  · rw [hs]
    clear hs
    have h' : n < m := by omega
    clear h
    go_enter Try.func148, Try.ntmps148
    go_wp2_with fail
    refine (nan_any _ _).mono ?_
    rintro e w1 ⟨rfl, rfl⟩
    go_wp2_with fail
    refine (nan_any _ _).mono ?_
    rintro e w1 ⟨rfl, rfl⟩
    go_wp2_with fail
    go_ret
    exact ⟨rfl, rfl⟩
  · rw [hs]
    clear hs
    have h' : m < n := by omega
    clear h
    go_enter Try.func148, Try.ntmps148
    go_wp2_with fail
    refine (nan_any _ _).mono ?_
    rintro e w1 ⟨rfl, rfl⟩
    go_wp2_with fail
    refine (nan_any _ _).mono ?_
    rintro e w1 ⟨rfl, rfl⟩
    go_wp2_with fail
    go_ret
    exact ⟨rfl, rfl⟩
  · obtain rfl : m = n := by omega
    rw [hs]
    clear hs h
    go_enter Try.func148, Try.ntmps148
    go_wp2_with fail
    refine (nan_any _ _).mono ?_
    rintro e w1 ⟨rfl, rfl⟩
    go_wp2_with fail
    refine (nan_any _ _).mono ?_
    rintro e w1 ⟨rfl, rfl⟩
    go_wp2_with fail
    go_ret
    exact ⟨rfl, rfl⟩
theorem impl_side (ax ay bx by' px py : Int) (w : World) :
    Calls Try.prog 83 #[(.agg #[.int .i64 ax, .int .i64 ay]), (.agg #[.int .i64 bx, .int .i64 by']), (.agg #[.int .i64 px, .int .i64 py])] w fun e w' => e = .returned (.int .i64 (sgn (crossV ax ay bx by' px py))) ∧ Below w.heap.size w w' := by
  go_enter Try.func83, Try.ntmps83
  go_wp2_with fail
  refine (impl_cross _ _ _ _ _ _ _).mono ?_
  rintro e w1 ⟨rfl, hb1⟩
  have b1 := below_on (below3 w _ _ _) hb1
  clear hb1
  go_wp2_with fail
  refine (compare_any _ _ _).mono ?_
  rintro e w2 ⟨rfl, rfl⟩
  go_wp2_with fail
  go_ret
  exact ⟨rfl, b1⟩
def beforeB (ax ay bx by' : Int) : Bool := decide (ay < by') || (ay == by' && decide (ax < bx))
theorem impl_before (ax ay bx by' : Int) (w : World) :
    Calls Try.prog 17 #[(.agg #[.int .i64 ax, .int .i64 ay]), (.agg #[.int .i64 bx, .int .i64 by'])] w fun e w' => e = .returned (.bool (beforeB ax ay bx by')) ∧ Below w.heap.size w w' := by
  cases h1 : decide (ay < by')
  · cases h2 : (ay == by')
    · go_enter Try.func17, Try.ntmps17
      go_wp2_with fail
      go_ret
      exact ⟨ret_bool (by simp only [beforeB, h1, h2]; rfl), below2 _ _ _⟩
    · go_enter Try.func17, Try.ntmps17
      go_wp2_with fail
      go_ret
      exact ⟨ret_bool (by simp only [beforeB, h1, h2, Bool.false_or, Bool.true_and]), below2 _ _ _⟩
  · go_enter Try.func17, Try.ntmps17
    go_wp2_with fail
    go_ret
    exact ⟨ret_bool (by simp only [beforeB, h1]; rfl), below2 _ _ _⟩
end Go.Proofs.Ytncahchhinfneaa

/-! On -/
namespace Go.Proofs.Ytncahchhinfneaa
open Go.RowKit

/-- p lies in the box of a and b. -/
def boxB (ax ay bx by' px py : Int) : Bool := inB px (min ax bx) (max ax bx) && inB py (min ay by') (max ay by')
theorem mm (a b : Int) : ∃ m M, min a b = m ∧ max a b = M ∧ ((a < b ∧ m = a ∧ M = b) ∨ (a = b ∧ m = a ∧ M = a) ∨ (b < a ∧ m = b ∧ M = a)) := ⟨_, _, rfl, rfl, by omega⟩
set_option maxRecDepth 100000 in
set_option maxHeartbeats 2000000 in
theorem box_any (px py ax ay bx by' : Int) (w : World) :
    Calls Try.prog 146 #[(.agg #[.int .i64 px, .int .i64 py]), (.agg #[.int .i64 ax, .int .i64 ay]), (.agg #[.int .i64 bx, .int .i64 by'])] w fun e w' => e = .returned (.bool (boxB ax ay bx by' px py)) ∧ Below w.heap.size w w' := by
  obtain ⟨m1, m2, e1, e2, hx⟩ := mm ax bx
  obtain ⟨m3, m4, e3, e4, hy⟩ := mm ay by'
  unfold boxB
  rw [e1, e2, e3, e4]
  clear e1 e2 e3 e4
  cases h : inB px m1 m2
  · rcases hx with ⟨hx, rfl, rfl⟩ | ⟨rfl, rfl, rfl⟩ | ⟨hx, rfl, rfl⟩
    all_goals (
      clear hy
      go_enter Try.func146, Try.ntmps146
      go_wp2_with fail
      refine (from_any _ _ _ _).mono ?_
      rintro e w1 ⟨rfl, rfl⟩
      go_wp2_with fail
      go_ret
      exact ⟨ret_bool (by simp only [Bool.false_and]), below3 _ _ _ _⟩)
  · rcases hx with ⟨hx, rfl, rfl⟩ | ⟨rfl, rfl, rfl⟩ | ⟨hx, rfl, rfl⟩ <;> rcases hy with ⟨hy, rfl, rfl⟩ | ⟨rfl, rfl, rfl⟩ | ⟨hy, rfl, rfl⟩
    all_goals (
      go_enter Try.func146, Try.ntmps146
      go_wp2_with fail
      refine (from_any _ _ _ _).mono ?_
      rintro e w1 ⟨rfl, rfl⟩
      go_wp2_with fail
      refine (from_any _ _ _ _).mono ?_
      rintro e w1 ⟨rfl, rfl⟩
      go_wp2_with fail
      go_ret
      exact ⟨ret_bool (by simp only [Bool.true_and]), below3 _ _ _ _⟩)
/-- p lies on the segment from a to b (all points good). -/
def onI (ax ay bx by' px py : Int) : Bool := (crossI ax ay bx by' px py == 0) && boxB ax ay bx by' px py
set_option maxRecDepth 100000 in
set_option maxHeartbeats 4000000 in
theorem on_sm (ax ay bx by' px py : Int) (w : World) (ha : smP ax ay = true) (hb : smP bx by' = true) (hp : smP px py = true) :
    Calls Try.prog 216 #[(.agg #[.int .i64 ax, .int .i64 ay]), (.agg #[.int .i64 bx, .int .i64 by']), (.agg #[.int .i64 px, .int .i64 py])] w fun e w' => e = .returned (.bool (onI ax ay bx by' px py)) ∧ Below w.heap.size w w' := by
  have hC := fun w => crossS_any ax ay bx by' px py w
  rw [cross_wrap_sm ha hb hp] at hC
  unfold onI boxB
  obtain ⟨z, hz⟩ : ∃ z, z = crossI ax ay bx by' px py := ⟨_, rfl⟩
  rw [← hz] at hC ⊢
  have HC := Lib.hid hC; clear hC
  clear ha hb hp hz
  obtain ⟨m1, m2, e1, e2, hx⟩ := mm ax bx
  obtain ⟨m3, m4, e3, e4, hy⟩ := mm ay by'
  rw [e1, e2, e3, e4]
  clear e1 e2 e3 e4
  have hbx : ((z == 0) && (inB px m1 m2 && inB py m3 m4)) = ((z == 0) && (((decide (m1 ≤ px) && decide (px ≤ m2)) && decide (m3 ≤ py)) && decide (py ≤ m4))) := by simp only [inB, Bool.and_assoc]
  rw [hbx]
  clear hbx
  cases h0 : (z == 0)
  · clear hx hy
    go_enter Try.func216, Try.ntmps216
    go_wp2_with fail
    refine (HC.out _).mono ?_
    rintro e w1 ⟨rfl, hb1⟩
    have t1 := (three0 w _ _ _ _ _ _ 30).step hb1
    have b1 := below_on (below3 w _ _ _) hb1
    clear hb1
    have c1 := t1.1.c0; have c2 := t1.1.c1; have c3 := t1.2.1.c0; have c4 := t1.2.1.c1; have c5 := t1.2.2.c0; have c6 := t1.2.2.c1
    clear t1
    go_wp2_with fail
    go_ret
    exact ⟨ret_bool (by simp only [Bool.false_and]), b1⟩
  cases h1 : decide (m1 ≤ px)
  · rcases hx with ⟨hx, rfl, rfl⟩ | ⟨rfl, rfl, rfl⟩ | ⟨hx, rfl, rfl⟩
    all_goals (
      clear hy
      (go_enter Try.func216, Try.ntmps216
       go_wp2_with fail
       refine (HC.out _).mono ?_
       rintro e w1 ⟨rfl, hb1⟩
       have t1 := (three0 w _ _ _ _ _ _ 30).step hb1
       have b1 := below_on (below3 w _ _ _) hb1
       clear hb1
       have c1 := t1.1.c0; have c2 := t1.1.c1; have c3 := t1.2.1.c0; have c4 := t1.2.1.c1; have c5 := t1.2.2.c0; have c6 := t1.2.2.c1
       clear t1
       go_wp2_with fail
       go_ret
       exact ⟨ret_bool (by simp only [Bool.false_and, Bool.and_false]), b1⟩))
  cases h2 : decide (px ≤ m2)
  · rcases hx with ⟨hx, rfl, rfl⟩ | ⟨rfl, rfl, rfl⟩ | ⟨hx, rfl, rfl⟩
    all_goals (
      clear hy
      (go_enter Try.func216, Try.ntmps216
       go_wp2_with fail
       refine (HC.out _).mono ?_
       rintro e w1 ⟨rfl, hb1⟩
       have t1 := (three0 w _ _ _ _ _ _ 30).step hb1
       have b1 := below_on (below3 w _ _ _) hb1
       clear hb1
       have c1 := t1.1.c0; have c2 := t1.1.c1; have c3 := t1.2.1.c0; have c4 := t1.2.1.c1; have c5 := t1.2.2.c0; have c6 := t1.2.2.c1
       clear t1
       go_wp2_with fail
       go_ret
       exact ⟨ret_bool (by simp only [Bool.false_and, Bool.and_false]), b1⟩))
  cases h3 : decide (m3 ≤ py)
  · rcases hx with ⟨hx, rfl, rfl⟩ | ⟨rfl, rfl, rfl⟩ | ⟨hx, rfl, rfl⟩ <;> rcases hy with ⟨hy, rfl, rfl⟩ | ⟨rfl, rfl, rfl⟩ | ⟨hy, rfl, rfl⟩
    all_goals
      (go_enter Try.func216, Try.ntmps216
       go_wp2_with fail
       refine (HC.out _).mono ?_
       rintro e w1 ⟨rfl, hb1⟩
       have t1 := (three0 w _ _ _ _ _ _ 30).step hb1
       have b1 := below_on (below3 w _ _ _) hb1
       clear hb1
       have c1 := t1.1.c0; have c2 := t1.1.c1; have c3 := t1.2.1.c0; have c4 := t1.2.1.c1; have c5 := t1.2.2.c0; have c6 := t1.2.2.c1
       clear t1
       go_wp2_with fail
       go_ret
       exact ⟨ret_bool (by simp only [Bool.false_and, Bool.and_false, Bool.true_and]), b1⟩)
  rcases hx with ⟨hx, rfl, rfl⟩ | ⟨rfl, rfl, rfl⟩ | ⟨hx, rfl, rfl⟩ <;> rcases hy with ⟨hy, rfl, rfl⟩ | ⟨rfl, rfl, rfl⟩ | ⟨hy, rfl, rfl⟩
  all_goals
      (go_enter Try.func216, Try.ntmps216
       go_wp2_with fail
       refine (HC.out _).mono ?_
       rintro e w1 ⟨rfl, hb1⟩
       have t1 := (three0 w _ _ _ _ _ _ 30).step hb1
       have b1 := below_on (below3 w _ _ _) hb1
       clear hb1
       have c1 := t1.1.c0; have c2 := t1.1.c1; have c3 := t1.2.1.c0; have c4 := t1.2.1.c1; have c5 := t1.2.2.c0; have c6 := t1.2.2.c1
       clear t1
       go_wp2_with fail
       go_ret
       exact ⟨ret_bool (by simp only [Bool.true_and]), b1⟩)
theorem on_any (ax ay bx by' px py : Int) (w : World) (ha : okP ax ay = true) (hb : okP bx by' = true) (hp : okP px py = true) :
    Calls Try.prog 216 #[(.agg #[.int .i64 ax, .int .i64 ay]), (.agg #[.int .i64 bx, .int .i64 by']), (.agg #[.int .i64 px, .int .i64 py])] w fun e w' => e = .returned (.bool (onI ax ay bx by' px py)) ∧ Below w.heap.size w w' := on_sm ax ay bx by' px py w (smP_ok ha) (smP_ok hb) (smP_ok hp)
def onV (ax ay bx by' px py : Int) : Bool := okP ax ay && okP bx by' && okP px py && onI ax ay bx by' px py
set_option maxRecDepth 100000 in
set_option maxHeartbeats 400000 in
theorem impl_on (ax ay bx by' px py : Int) (w : World) :
    Calls Try.prog 81 #[(.agg #[.int .i64 ax, .int .i64 ay]), (.agg #[.int .i64 bx, .int .i64 by']), (.agg #[.int .i64 px, .int .i64 py])] w fun e w' => e = .returned (.bool (onV ax ay bx by' px py)) ∧ Below w.heap.size w w' := by
  have HP := Lib.hid (pts3 w ax ay bx by' px py)
  go_enter Try.func81, Try.ntmps81
  go_wp2_with fail
  refine (all_any _ _ [(ax, ay), (bx, by'), (px, py)] _ HP.out (by simp) (by simp)).mono ?_
  rintro e w1 ⟨rfl, hb1⟩
  have t1 := ((three0 w ax ay bx by' px py 30).alloc _).step hb1
  have b1 := below_on (below4 w _ _ _ _) hb1
  clear hb1 HP
  have HO := Lib.hid (all3 ax ay bx by' px py)
  cases hok : allOk [(ax, ay), (bx, by'), (px, py)]
  · go_wp2_with fail
    go_ret
    exact ⟨ret_bool (by rw [onV, ← HO.out, hok, Bool.false_and]), b1⟩
  have hok2 := HO.out.symm
  rw [hok] at hok2
  simp only [Bool.and_eq_true] at hok2
  obtain ⟨⟨ha, hb⟩, hp⟩ := hok2
  have c1 := t1.1.c0; have c2 := t1.1.c1; have c3 := t1.2.1.c0; have c4 := t1.2.1.c1; have c5 := t1.2.2.c0; have c6 := t1.2.2.c1
  go_wp2_with fail
  refine (impl_cross _ _ _ _ _ _ _).mono ?_
  rintro e w2 ⟨rfl, hb2⟩
  have t2 := t1.step hb2
  have b2 := below_on b1 hb2
  clear hb2 t1 b1 c1 c2 c3 c4 c5 c6
  have hcv : crossV ax ay bx by' px py = crossI ax ay bx by' px py := by rw [crossV, ha, hb, hp]; rfl
  rw [hcv]
  have HA := Lib.hid ha; have HB := Lib.hid hb; have HQ := Lib.hid hp
  clear ha hb hp
  cases hz : (crossI ax ay bx by' px py == 0)
  · go_wp2_with fail
    go_ret
    exact ⟨ret_bool (by simp only [onV, onI, hz, Bool.false_and, Bool.and_false]), b2⟩
  have c1 := t2.1.c0; have c2 := t2.1.c1; have c3 := t2.2.1.c0; have c4 := t2.2.1.c1; have c5 := t2.2.2.c0; have c6 := t2.2.2.c1
  go_wp2_with fail
  refine (box_any _ _ _ _ _ _ _).mono ?_
  rintro e w3 ⟨rfl, hb3⟩
  have b3 := below_on b2 hb3
  clear hb3 t2 b2 c1 c2 c3 c4 c5 c6
  go_wp2_with fail
  go_ret
  exact ⟨ret_bool (by rw [onV, ← HO.out, hok, onI, hz, Bool.true_and, Bool.true_and]), b3⟩
end Go.Proofs.Ytncahchhinfneaa

/-! Has -/
namespace Go.Proofs.Ytncahchhinfneaa
open Go.RowKit

theorem under_pt : Try.prog.underlying 30 = some (.struct (Try.prog.fieldsOf 30)) := by kernel_rfl
theorem held_pt : Try.prog.stoodInHeld 30 = false := by kernel_rfl
theorem guard_pt : Try.prog.eqGuardType Try.prog.depth 30 = false := by kernel_rfl
theorem eql_pt (w : World) (x y x' y' : Int) : (binOp .eql 30 (.agg #[.int .i64 x, .int .i64 y]) (.agg #[.int .i64 x', .int .i64 y'])).run Try.prog w = .ok (.bool (x == x' && y == y')) w := by
  rw [run_eql_struct, run_equalIn_struct _ _ _ _ _ under_pt held_pt]
  cases h : (x == x') <;> cases h2 : (y == y') <;> simp_all [go_sem, Program.fieldsOf, Try.underlying30, Try.underlying3]
theorem neq_pt (w : World) (x y x' y' : Int) : (binOp .neq 30 (.agg #[.int .i64 x, .int .i64 y]) (.agg #[.int .i64 x', .int .i64 y'])).run Try.prog w = .ok (.bool (!(x == x' && y == y'))) w := by
  rw [run_neq_struct, run_equalIn_struct _ _ _ _ _ under_pt held_pt]
  cases h : (x == x') <;> cases h2 : (y == y') <;> simp_all [go_sem, Program.fieldsOf, Try.underlying30, Try.underlying3]
def hasP (L : List (Int × Int)) (x y : Int) : Bool := L.any fun p => p.1 == x && p.2 == y
theorem hasP_no {L : List (Int × Int)} {x y : Int} : hasP L x y = false ↔ ∀ p ∈ L, ¬ (p.1 = x ∧ p.2 = y) := by
  simp [hasP]
set_option maxRecDepth 100000 in
set_option maxHeartbeats 800000 in
theorem index_any (A : Option Addr) (c : Nat) (L : List (Int × Int)) (x y : Int) (w : World) (hP : PtsA w A L) (hL : L.length ≤ 1048576) :
    Calls Try.prog 152 #[.slice A L.length c, (.agg #[.int .i64 x, .int .i64 y])] w fun e w' => (∃ z : Int, e = .returned (.int .i64 z) ∧ decide (0 ≤ z) = hasP L x y) ∧ Below w.heap.size w w' := by
  have HP := Lib.hid (ptsA_on hP ((Below.refl w.heap.size w).alloc (Nat.le_refl _) (.cells #[.int .i64 x, .int .i64 y] 30))); clear hP
  have t1 := at_new w x y 30
  go_enter Try.func152, Try.ntmps152
  go_wp2_with fail
  have b1 := below1 w (.cells #[.int .i64 x, .int .i64 y] 30)
  generalize w.alloc (.cells #[.int .i64 x, .int .i64 y] 30) = w1 at *
  have c1 := t1.c0; have c2 := t1.c1
  go_loopw [5, 8] (fun _ i w' => ∃ (k d : Nat), k ≤ L.length ∧ i = .int .i64 k ∧ w' = w1.drewN d ∧ Hid (∀ j (h : j < L.length), j < k → ¬ (L[j].1 = x ∧ L[j].2 = y))) (fun _ i _ => L.length - (intOf i).toNat)
  case atStart => exact ⟨0, 0, Nat.zero_le _, rfl, rfl, fun j h hj => by omega⟩
  case round =>
    obtain ⟨k, d, hk, rfl, rfl, HN⟩ := hrel
    by_cases hlt : k < L.length
    · obtain ⟨g1, rfl, hc1, hd1⟩ := HP.out k hlt
      have GP := guard_pt
      have EP := fun w x y x' y' => eql_pt w x y x' y'
      obtain ⟨p, hp⟩ : ∃ p, p = L[k].1 := ⟨_, rfl⟩
      obtain ⟨q, hq⟩ : ∃ q, q = L[k].2 := ⟨_, rfl⟩
      rw [← hp] at hc1
      rw [← hq] at hd1
      have HPQ : Hid (L[k].1 = p ∧ L[k].2 = q) := ⟨hp.symm, hq.symm⟩
      clear hp hq
      cases he : (x == p && y == q)
      · have HN2 : Hid (∀ j (h : j < L.length), j < k + 1 → ¬ (L[j].1 = x ∧ L[j].2 = y)) := fun j h hj => by
          rcases Nat.lt_or_ge j k with h1 | h1
          · exact HN.out j h h1
          · obtain rfl : j = k := by omega
            rw [HPQ.out.1, HPQ.out.2]
            simp at he
            exact fun ⟨h1, h2⟩ => he h1.symm h2.symm
        go_wp2_with fail
        go_quiet (fail)
        go_wp2_with fail
        go_roundw
        case rel => exact ⟨k + 1, d + nq, by omega, by go_num, by simp, HN2⟩
        case measure => simp [intOf]; omega
      · have HY : Hid (hasP L x y = true) := by
          simp at he
          show _ = _
          rw [hasP, List.any_eq_true]
          exact ⟨L[k], List.getElem_mem hlt, by rw [HPQ.out.1, HPQ.out.2, he.1, he.2]; simp⟩
        go_wp2_with fail
        go_quiet (fail)
        go_wp2_with fail
        go_ret
        exact ⟨⟨_, rfl, by rw [HY.out]; simp⟩, b1.os, b1.tape, b1.output, b1.size, b1.block⟩
    · go_wp2_with fail
      go_ret
      refine ⟨⟨_, rfl, ?_⟩, b1.os, b1.tape, b1.output, b1.size, b1.block⟩
      have : hasP L x y = false := by
        rw [hasP_no]
        intro p hp
        obtain ⟨j, hj, rfl⟩ := List.getElem_of_mem hp
        exact HN.out j hj (by omega)
      rw [this]; rfl
theorem has_any (A : Option Addr) (c : Nat) (L : List (Int × Int)) (x y : Int) (w : World) (hP : PtsA w A L) (hL : L.length ≤ 1048576) :
    Calls Try.prog 88 #[.slice A L.length c, (.agg #[.int .i64 x, .int .i64 y])] w fun e w' => e = .returned (.bool (hasP L x y)) ∧ Below w.heap.size w w' := by
  have HI := Lib.hid (index_any A c L x y _ (ptsA_on hP ((Below.refl w.heap.size w).alloc (Nat.le_refl _) (.cells #[.int .i64 x, .int .i64 y] 30))) hL); clear hP
  go_enter Try.func88, Try.ntmps88
  go_wp2_with fail
  refine HI.out.mono ?_
  rintro e w1 ⟨⟨z, rfl, hz⟩, hb1⟩
  have b1 := below_on (below1 w _) hb1
  clear hb1
  have HZ := Lib.hid hz
  clear hz HI
  go_wp2_with fail
  go_ret
  exact ⟨ret_bool HZ.out, b1⟩
end Go.Proofs.Ytncahchhinfneaa

/-! MeetFn -/
namespace Go.Proofs.Ytncahchhinfneaa
open Go.RowKit

def onP (a b p : Int × Int) : Bool := onI a.1 a.2 b.1 b.2 p.1 p.2
def addE (a b c d : Int × Int) (E : List (Int × Int)) (p : Int × Int) : List (Int × Int) := bif onP a b p && onP c d p && !(hasP E p.1 p.2) then E ++ [p] else E
def endsE (a b c d : Int × Int) : List (Int × Int) := [a, b, c, d].foldl (addE a b c d) []
def crossP (a b p : Int × Int) : Int := crossI a.1 a.2 b.1 b.2 p.1 p.2
/-- The line through a and b has c and d on different sides. -/
def opp (a b c d : Int × Int) : Bool := decide (sgn (crossP a b c) * sgn (crossP a b d) < 0)
def sharedS (a b c d : Int × Int) : List (Int × Int) := [a, b].filter (onP c d) ++ [c, d].filter (onP a b)
def sameAll : List (Int × Int) → Bool
  | [] => true
  | x :: t => t.all fun y => y.1 == x.1 && y.2 == x.2
def meetI (a b c d : Int × Int) : Int := bif opp a b c d && opp c d a b then 2 else bif (sharedS a b c d).isEmpty then 0 else bif sameAll (sharedS a b c d) then 1 else 3
def okQ (p : Int × Int) : Bool := okP p.1 p.2
def eqQ (p q : Int × Int) : Bool := p.1 == q.1 && p.2 == q.2
def meetV (a b c d : Int × Int) : Int := bif okQ a && okQ b && okQ c && okQ d && !(eqQ a b) && !(eqQ c d) then meetI a b c d else 0

theorem on_left (a b : Int × Int) : onP a b a = true := by
  have h : crossI a.1 a.2 b.1 b.2 a.1 a.2 = 0 := by simp [crossI]
  simp [onP, onI, h, boxB, inB]
  omega
theorem on_right (a b : Int × Int) : onP a b b = true := by
  have h : crossI a.1 a.2 b.1 b.2 b.1 b.2 = 0 := by simp [crossI, Int.mul_comm]
  simp [onP, onI, h, boxB, inB]
  omega
/-- Each point once. -/
def ddS (E : List (Int × Int)) (p : Int × Int) : List (Int × Int) := bif hasP E p.1 p.2 then E else E ++ [p]
theorem ends_dd (a b c d : Int × Int) : endsE a b c d = (sharedS a b c d).foldl ddS [] := by
  have e1 : ∀ E, addE a b c d E a = bif onP c d a then ddS E a else E := fun E => by
    simp only [addE, ddS, on_left, Bool.true_and]; cases onP c d a <;> cases hasP E a.1 a.2 <;> rfl
  have e2 : ∀ E, addE a b c d E b = bif onP c d b then ddS E b else E := fun E => by
    simp only [addE, ddS, on_right, Bool.true_and]; cases onP c d b <;> cases hasP E b.1 b.2 <;> rfl
  have e3 : ∀ E, addE a b c d E c = bif onP a b c then ddS E c else E := fun E => by
    simp only [addE, ddS, on_left, Bool.and_true]; cases onP a b c <;> cases hasP E c.1 c.2 <;> rfl
  have e4 : ∀ E, addE a b c d E d = bif onP a b d then ddS E d else E := fun E => by
    simp only [addE, ddS, on_right, Bool.and_true]; cases onP a b d <;> cases hasP E d.1 d.2 <;> rfl
  simp only [endsE, sharedS, List.foldl_cons, List.foldl_nil, e1, e2, e3, e4, List.filter_cons, List.filter_nil]
  cases onP c d a <;> cases onP c d b <;> cases onP a b c <;> cases onP a b d <;> rfl
theorem dd_grows (S : List (Int × Int)) : ∀ E, E.length ≤ (S.foldl ddS E).length := by
  induction S with
  | nil => intro E; exact Nat.le_refl _
  | cons p S ih =>
    intro E
    refine Nat.le_trans ?_ (ih (ddS E p))
    unfold ddS
    cases hasP E p.1 p.2 <;> simp
theorem dd_one (x : Int × Int) : ∀ t : List (Int × Int), (t.all (fun y => y.1 == x.1 && y.2 == x.2) = true → t.foldl ddS [x] = [x]) ∧ (t.all (fun y => y.1 == x.1 && y.2 == x.2) = false → 2 ≤ (t.foldl ddS [x]).length) := by
  intro t
  induction t with
  | nil => exact ⟨fun _ => rfl, fun h => by simp at h⟩
  | cons y t ih =>
    rw [List.all_cons, List.foldl_cons]
    have hh : hasP [x] y.1 y.2 = (y.1 == x.1 && y.2 == x.2) := by
      simp only [hasP, List.any_cons, List.any_nil, Bool.or_false]
      rw [Bool.beq_comm (a := x.1), Bool.beq_comm (a := x.2)]
    cases h : (y.1 == x.1 && y.2 == x.2)
    · refine ⟨fun h => by simp at h, fun _ => ?_⟩
      have : ddS [x] y = [x, y] := by rw [ddS, hh, h]; rfl
      rw [this]
      exact dd_grows t [x, y]
    · have : ddS [x] y = [x] := by rw [ddS, hh, h]; rfl
      rw [this, Bool.true_and]
      exact ih
theorem dd_first (x : Int × Int) : ddS [] x = [x] := rfl
theorem opp_none {a b c d : Int × Int} (h : (opp a b c d && opp c d a b) = true) : sharedS a b c d = [] := by
  simp only [Bool.and_eq_true, opp, decide_eq_true_eq] at h
  obtain ⟨h1, h2⟩ := h
  have z : ∀ a b p : Int × Int, onP a b p = true → sgn (crossP a b p) = 0 := fun a b p h => by
    simp only [onP, onI, Bool.and_eq_true, beq_iff_eq] at h
    rw [crossP, h.1]; rfl
  have f1 : onP c d a = false := by
    cases hq : onP c d a
    · rfl
    · rw [z _ _ _ hq] at h2; simp at h2
  have f2 : onP c d b = false := by
    cases hq : onP c d b
    · rfl
    · rw [z _ _ _ hq] at h2; simp at h2
  have f3 : onP a b c = false := by
    cases hq : onP a b c
    · rfl
    · rw [z _ _ _ hq] at h1; simp at h1
  have f4 : onP a b d = false := by
    cases hq : onP a b d
    · rfl
    · rw [z _ _ _ hq] at h1; simp at h1
  simp [sharedS, f1, f2, f3, f4]
theorem ends_zero {a b c d : Int × Int} (h : (endsE a b c d).length = 0) : meetI a b c d = bif opp a b c d && opp c d a b then 2 else 0 := by
  rw [ends_dd] at h
  cases hS : sharedS a b c d with
  | nil => rw [meetI, hS]; cases opp a b c d && opp c d a b <;> rfl
  | cons x t =>
    rw [hS, List.foldl_cons, dd_first] at h
    have := dd_grows t [x]
    simp at this; omega
theorem ends_some {a b c d : Int × Int} (h : 1 ≤ (endsE a b c d).length) : meetI a b c d = if (endsE a b c d).length = 1 then 1 else 3 := by
  rw [ends_dd] at h ⊢
  cases ho : (opp a b c d && opp c d a b)
  · cases hS : sharedS a b c d with
    | nil => rw [hS] at h; simp at h
    | cons x t =>
      have hd := dd_one x t
      rw [meetI, ho, hS, List.foldl_cons, dd_first]
      show (bif sameAll (x :: t) then 1 else 3 : Int) = _
      rw [sameAll]
      cases hq : t.all (fun y => y.1 == x.1 && y.2 == x.2)
      · have := hd.2 hq
        rw [if_neg (by omega)]; rfl
      · rw [hd.1 hq]; rfl
  · rw [opp_none ho] at h; simp at h
theorem ends_le (a b c d : Int × Int) : (endsE a b c d).length ≤ 4 := by
  have : ∀ E p, (addE a b c d E p).length ≤ E.length + 1 := fun E p => by
    unfold addE
    cases onP a b p && onP c d p && !(hasP E p.1 p.2) <;> simp
  simp only [endsE, List.foldl_cons, List.foldl_nil]
  have h1 := this [] a
  have h2 := this (addE a b c d [] a) b
  have h3 := this (addE a b c d (addE a b c d [] a) b) c
  have h4 := this (addE a b c d (addE a b c d (addE a b c d [] a) b) c) d
  simp at h1
  omega
end Go.Proofs.Ytncahchhinfneaa

/-! Meet -/
namespace Go.Proofs.Ytncahchhinfneaa
open Go.RowKit

theorem crossS_sm (ax ay bx by' px py : Int) (w : World) (ha : smP ax ay = true) (hb : smP bx by' = true) (hp : smP px py = true) :
    Calls Try.prog 200 #[(.agg #[.int .i64 ax, .int .i64 ay]), (.agg #[.int .i64 bx, .int .i64 by']), (.agg #[.int .i64 px, .int .i64 py])] w fun e w' => e = .returned (.int .i64 (crossP (ax, ay) (bx, by') (px, py))) ∧ Below w.heap.size w w' := by
  have h := crossS_any ax ay bx by' px py w
  rw [cross_wrap_sm ha hb hp] at h
  exact h
theorem crossS_on (ax ay bx by' px py : Int) (w : World) (ha : okP ax ay = true) (hb : okP bx by' = true) (hp : okP px py = true) :
    Calls Try.prog 200 #[(.agg #[.int .i64 ax, .int .i64 ay]), (.agg #[.int .i64 bx, .int .i64 by']), (.agg #[.int .i64 px, .int .i64 py])] w fun e w' => e = .returned (.int .i64 (crossP (ax, ay) (bx, by') (px, py))) ∧ Below w.heap.size w w' := crossS_sm ax ay bx by' px py w (smP_ok ha) (smP_ok hb) (smP_ok hp)
theorem on_sm' (ax ay bx by' px py : Int) (w : World) (ha : smP ax ay = true) (hb : smP bx by' = true) (hp : smP px py = true) :
    Calls Try.prog 216 #[(.agg #[.int .i64 ax, .int .i64 ay]), (.agg #[.int .i64 bx, .int .i64 by']), (.agg #[.int .i64 px, .int .i64 py])] w fun e w' => e = .returned (.bool (onP (ax, ay) (bx, by') (px, py))) ∧ Below w.heap.size w w' := on_sm ax ay bx by' px py w ha hb hp
theorem on_any' (ax ay bx by' px py : Int) (w : World) (ha : okP ax ay = true) (hb : okP bx by' = true) (hp : okP px py = true) :
    Calls Try.prog 216 #[(.agg #[.int .i64 ax, .int .i64 ay]), (.agg #[.int .i64 bx, .int .i64 by']), (.agg #[.int .i64 px, .int .i64 py])] w fun e w' => e = .returned (.bool (onP (ax, ay) (bx, by') (px, py))) ∧ Below w.heap.size w w' := on_any ax ay bx by' px py w ha hb hp
/-- What a filter has let by of the first k. -/
def tillF (f : Int × Int → Bool) (L : List (Int × Int)) (k : Nat) : List (Int × Int) := (L.take k).filter f
theorem tillF_step {f : Int × Int → Bool} {L : List (Int × Int)} {p : Int × Int} {k : Nat} (h : L[k]? = some p) : tillF f L (k + 1) = bif f p then tillF f L k ++ [p] else tillF f L k := by
  have hk : k < L.length := (List.getElem?_eq_some_iff.1 h).1
  have hp : L[k] = p := (List.getElem?_eq_some_iff.1 h).2
  rw [tillF, List.take_succ_eq_append_getElem hk, List.filter_append, hp]
  cases hf : f p <;> simp [tillF, hf]
theorem tillF_len (f : Int × Int → Bool) (L : List (Int × Int)) (k : Nat) : (tillF f L k).length ≤ L.length := by
  unfold tillF
  exact Nat.le_trans (List.length_filter_le _ _) (by rw [List.length_take]; omega)
theorem same_iff (M : List (Int × Int)) (h0 : 0 < M.length) : sameAll M = true ↔ ∀ j (hj : j < M.length), M[j].1 = (M[0]).1 ∧ M[j].2 = (M[0]).2 := by
  cases M with
  | nil => simp at h0
  | cons p t =>
    simp only [sameAll, List.all_eq_true, Bool.and_eq_true, beq_iff_eq]
    constructor
    · intro h j hj
      cases j with
      | zero => exact ⟨rfl, rfl⟩
      | succ j => exact h _ (List.getElem_mem (by simpa using hj))
    · intro h y hy
      obtain ⟨j, hj, rfl⟩ := List.getElem_of_mem hy
      exact h (j + 1) (by simpa using hj)
set_option maxHeartbeats 8000000 in
set_option maxRecDepth 100000 in
theorem meet_any (ax ay bx by' cx cy dx dy : Int) (w : World) (ha : okP ax ay = true) (hb : okP bx by' = true) (hc : okP cx cy = true) (hd : okP dx dy = true) :
    Calls Try.prog 192 #[(.agg #[.int .i64 ax, .int .i64 ay]), (.agg #[.int .i64 bx, .int .i64 by']), (.agg #[.int .i64 cx, .int .i64 cy]), (.agg #[.int .i64 dx, .int .i64 dy])] w fun e w' => e = .returned (.int .i64 (meetI (ax, ay) (bx, by') (cx, cy) (dx, dy))) ∧ Below w.heap.size w w' := by
  obtain ⟨i0, hi0, hz0, hz1, hz2⟩ := info_parts infoPt
  have GP := guard_pt
  have EP := fun w x y x' y' => neq_pt w x y x' y'
  have A1 := Lib.hid (fun w => crossS_on ax ay bx by' cx cy w ha hb hc)
  have A2 := Lib.hid (fun w => crossS_on ax ay bx by' dx dy w ha hb hd)
  have A3 := Lib.hid (fun w => crossS_on cx cy dx dy ax ay w hc hd ha)
  have A4 := Lib.hid (fun w => crossS_on cx cy dx dy bx by' w hc hd hb)
  have m1 := abs_mul (sgn_abs (crossP (ax, ay) (bx, by') (cx, cy))) (sgn_abs (crossP (ax, ay) (bx, by') (dx, dy)))
  have m2 := abs_mul (sgn_abs (crossP (cx, cy) (dx, dy) (ax, ay))) (sgn_abs (crossP (cx, cy) (dx, dy) (bx, by')))
  have HM : Hid (meetI (ax, ay) (bx, by') (cx, cy) (dx, dy) = bif decide (sgn (crossP (ax, ay) (bx, by') (cx, cy)) * sgn (crossP (ax, ay) (bx, by') (dx, dy)) < 0) && decide (sgn (crossP (cx, cy) (dx, dy) (ax, ay)) * sgn (crossP (cx, cy) (dx, dy) (bx, by')) < 0) then 2 else
      bif (sharedS (ax, ay) (bx, by') (cx, cy) (dx, dy)).isEmpty then 0 else bif sameAll (sharedS (ax, ay) (bx, by') (cx, cy) (dx, dy)) then 1 else 3) := rfl
  obtain ⟨u, eu⟩ : ∃ u, u = sgn (crossP (ax, ay) (bx, by') (cx, cy)) * sgn (crossP (ax, ay) (bx, by') (dx, dy)) := ⟨_, rfl⟩
  obtain ⟨v, ev⟩ : ∃ v, v = sgn (crossP (cx, cy) (dx, dy) (ax, ay)) * sgn (crossP (cx, cy) (dx, dy) (bx, by')) := ⟨_, rfl⟩
  rw [← eu] at m1 HM
  rw [← ev] at m2 HM
  have e1 := eu.symm; have e2 := ev.symm
  have e3 : wrap64 u = u := wrap_id (by omega)
  have e4 : wrap64 v = v := wrap_id (by omega)
  have e5 : IntKind.i64.wrap u = u := IntWalk.i64_in _ (by omega)
  have e6 : IntKind.i64.wrap v = v := IntWalk.i64_in _ (by omega)
  clear m1 m2 eu ev
  have HA := Lib.hid ha; have HB := Lib.hid hb; have HC := Lib.hid hc; have HD := Lib.hid hd
  clear ha hb hc hd
  go_enter Try.func192, Try.ntmps192
  go_wp2_with fail
  refine (A1.out _).mono ?_
  rintro e w1 ⟨rfl, hb1⟩
  have t1 := (four0 w ax ay bx by' cx cy dx dy 30).step hb1
  have b1 := below_on (below4 w _ _ _ _) hb1
  clear hb1
  have c1 := t1.1.c0; have c2 := t1.1.c1; have c3 := t1.2.1.c0; have c4 := t1.2.1.c1; have c5 := t1.2.2.1.c0; have c6 := t1.2.2.1.c1; have c7 := t1.2.2.2.c0; have c8 := t1.2.2.2.c1
  go_wp2_with fail
  refine (sign_any _ _).mono ?_
  rintro e _ ⟨rfl, rfl⟩
  go_wp2_with fail
  refine (A2.out _).mono ?_
  rintro e w2 ⟨rfl, hb2⟩
  have t2 := t1.step hb2
  have b2 := below_on b1 hb2
  clear hb2 t1 b1
  clear c1 c2 c3 c4 c5 c6 c7 c8
  have c1 := t2.1.c0; have c2 := t2.1.c1; have c3 := t2.2.1.c0; have c4 := t2.2.1.c1; have c5 := t2.2.2.1.c0; have c6 := t2.2.2.1.c1; have c7 := t2.2.2.2.c0; have c8 := t2.2.2.2.c1
  go_wp2_with fail
  refine (sign_any _ _).mono ?_
  rintro e _ ⟨rfl, rfl⟩
  go_wp2_with fail
  refine (A3.out _).mono ?_
  rintro e w3 ⟨rfl, hb3⟩
  have t3 := t2.step hb3
  have b3 := below_on b2 hb3
  clear hb3 t2 b2
  clear c1 c2 c3 c4 c5 c6 c7 c8
  have c1 := t3.1.c0; have c2 := t3.1.c1; have c3 := t3.2.1.c0; have c4 := t3.2.1.c1; have c5 := t3.2.2.1.c0; have c6 := t3.2.2.1.c1; have c7 := t3.2.2.2.c0; have c8 := t3.2.2.2.c1
  go_wp2_with fail
  refine (sign_any _ _).mono ?_
  rintro e _ ⟨rfl, rfl⟩
  go_wp2_with fail
  refine (A4.out _).mono ?_
  rintro e w4 ⟨rfl, hb4⟩
  have t4 := t3.step hb4
  have b4 := below_on b3 hb4
  clear hb4 t3 b3
  clear c1 c2 c3 c4 c5 c6 c7 c8
  cases h1 : (decide (u < 0) && decide (v < 0))
  case true =>
    have h2 : decide (u < 0) = true := by cases h : decide (u < 0) <;> simp_all
    have h3 : decide (v < 0) = true := by cases h : decide (v < 0) <;> simp_all
    have HR : Hid (meetI (ax, ay) (bx, by') (cx, cy) (dx, dy) = 2) := by
      show _ = _
      rw [HM.out, h1]; rfl
    clear h1
    go_wp2_with fail
    refine (sign_any _ _).mono ?_
    rintro e _ ⟨rfl, rfl⟩
    go_wp2_with fail
    go_ret
    exact ⟨ret_int HR.out.symm, b4⟩
  have HR : Hid (meetI (ax, ay) (bx, by') (cx, cy) (dx, dy) = bif (sharedS (ax, ay) (bx, by') (cx, cy) (dx, dy)).isEmpty then 0 else bif sameAll (sharedS (ax, ay) (bx, by') (cx, cy) (dx, dy)) then 1 else 3) := by
    show _ = _
    rw [HM.out, h1]; rfl
  have hd' : decide (u < 0) = false ∨ (decide (u < 0) = true ∧ decide (v < 0) = false) := by
    cases h : decide (u < 0) <;> simp_all
  clear h1 HM
  have own0 := (World.ownsRow_lit (base := w4.heap.size) (e := 30) (size := 2) w4 #[] 0 (Nat.le_refl _) (by decide) rfl).alloc (.cells #[.int .i64 ax, .int .i64 ay, .int .i64 bx, .int .i64 by'] 30)
  have hP0 := pts2_new (w4.alloc (.cells #[] 30)) ax ay bx by'
  rw [size_alloc] at hP0
  have H4 : Hid (w.heap.size + 1 + 1 + 1 < w4.heap.size) := t4.2.2.2.lt
  have u4 := t4.alloc (.cells #[] 30)
  have c1 := u4.1.c0; have c2 := u4.1.c1; have c3 := u4.2.1.c0; have c4 := u4.2.1.c1
  rcases hd' with hd1 | ⟨hd1, hd2⟩
  all_goals
    go_wp2_with fail
    refine (sign_any _ _).mono ?_
    rintro e w4 ⟨rfl, rfl⟩
    go_wp2_with fail
    clear c1 c2 c3 c4 u4
    go_loopw [13, 15, 55] (fun s _ i wr => ∃ (k g cap : Nat) (M : List (Int × Int)), k ≤ 2 ∧ i = .int .i64 k ∧ s = .slice (some ⟨g, 0, none⟩) M.length cap ∧ Hid (M = tillF (onP (cx, cy) (dx, dy)) [(ax, ay), (bx, by')] k) ∧ wr.ownsRow w4.heap.size 30 2 (.slice (some ⟨g, 0, none⟩) M.length cap) M.length (flat M) ∧
        g ≠ w4.heap.size + 1 ∧ w4.heap.size + 1 < wr.heap.size ∧ Four wr w.heap.size ax ay bx by' cx cy dx dy 30 ∧ Pts wr (w4.heap.size + 1) [(ax, ay), (bx, by')] ∧ Below w.heap.size w wr) (fun _ _ i _ => 2 - (intOf i).toNat)
    case atStart => exact ⟨0, w4.heap.size, 0, [], by omega, rfl, rfl, rfl, own0, by omega, by simp, (t4.alloc _).alloc _, hP0, (b4.alloc b4.size _).alloc (by have := b4.size; simp; omega) _⟩
    case round =>
      obtain ⟨wo, rfl⟩ : ∃ wo : World, wo = wr := ⟨_, rfl⟩
      clear own0 t4 b4 hP0
      obtain ⟨k, g, cp, M, hk, rfl, rfl, HMM, hown, hgs, hgl, t1, hP, b1⟩ := hrel
      by_cases hlt : k < 2
      · obtain ⟨x, y, hxy⟩ : ∃ x y, [(ax, ay), (bx, by')][k]? = some (x, y) := ⟨_, _, List.getElem?_eq_getElem (by simpa using hlt)⟩
        have hok : okP x y = true := by
          have := List.mem_of_getElem? hxy
          simp only [List.mem_cons, Prod.mk.injEq, List.not_mem_nil, or_false] at this
          rcases this with ⟨rfl, rfl⟩ | ⟨rfl, rfl⟩
          · exact HA.out
          · exact HB.out
        have hpk := hP k (by simpa using hlt)
        have hLk : [(ax, ay), (bx, by')][k]'(by simpa using hlt) = (x, y) := (List.getElem?_eq_some_iff.1 hxy).2
        rw [hLk] at hpk
        obtain ⟨p1, p2⟩ := hpk
        simp only at p1 p2
        have hs := tillF_step (f := (onP (cx, cy) (dx, dy))) hxy
        have hE4 : M.length ≤ 4 := by
          have h1 := tillF_len (onP (cx, cy) (dx, dy)) [(ax, ay), (bx, by')] k
          rw [HMM.out]
          simp only [List.length_cons, List.length_nil] at *
          omega
        have HON := Lib.hid (fun w => on_any' cx cy dx dy x y w HC.out HD.out hok)
        have HS : Hid (tillF (onP (cx, cy) (dx, dy)) [(ax, ay), (bx, by')] (k + 1) = bif (onP (cx, cy) (dx, dy)) (x, y) then M ++ [(x, y)] else M) := by
          show _ = _
          rw [HMM.out, hs]
          try (cases (onP (cx, cy) (dx, dy)) (x, y) <;> simp)
        clear hxy hs hLk hok HMM
        have u1 := t1.alloc (.cells #[.int .i64 x, .int .i64 y] 30)
        have n1 := at_new wo x y 30
        have hP1 := hP.alloc hgl (.cells #[.int .i64 x, .int .i64 y] 30)
        have c1 := u1.2.2.1.c0; have c2 := u1.2.2.1.c1; have c3 := u1.2.2.2.c0; have c4 := u1.2.2.2.c1
        go_wp2_with fail
        refine (HON.out _).mono ?_
        rintro e w2 ⟨rfl, hb2⟩
        have t2 := u1.step hb2
        have n2 := n1.step hb2
        have hP2 := hP1.step (by simp; omega) hb2
        have b2 := below_on (b1.alloc b1.size _) hb2
        have own2 := own_below (hown.alloc _) hb2
        have hgl2 : w4.heap.size + 1 < w2.heap.size := by have := hb2.size; simp at this; omega
        clear u1 n1 t1 b1 hown hb2 c1 c2 c3 c4 hP hP1 p1 p2 HON
        cases ho1 : (onP (cx, cy) (dx, dy)) (x, y)
        · have HE : Hid (M = tillF (onP (cx, cy) (dx, dy)) [(ax, ay), (bx, by')] (k + 1)) := by
            show _ = _
            rw [HS.out, ho1]; rfl
          have R := Lib.hid (And.intro own2 (And.intro t2 (And.intro hP2 b2)))
          clear own2 t2 b2 n2 hP2
          go_wp2_with fail
          go_roundw
          case rel => exact ⟨k + 1, g, cp, M, by omega, by go_num, rfl, HE, R.out.1, hgs, hgl2, R.out.2.1, R.out.2.2.1, R.out.2.2.2⟩
          case measure => simp [intOf]; omega
        · have HE : Hid (M ++ [(x, y)] = tillF (onP (cx, cy) (dx, dy)) [(ax, ay), (bx, by')] (k + 1)) := by
            show _ = _
            rw [HS.out, ho1]; rfl
          have c5 := n2.c0; have c6 := n2.c1
          have hB := t2.2.2.2.lt
          go_wp2_with (at_builtin; refine wpList_append_lies _ rfl _ _ 23 rfl w4.heap.size 30 i0 (.agg #[.int .i64 0, .int .i64 0]) 2 16 Try.underlying23 hi0 hz0 hz1 hz2 rfl (by decide) _ _ _ rfl (own2.alloc _) ⟨w2.heap.size, 0, none⟩ 1 1 [.int .i64 x, .int .i64 y] rfl rfl ?d1 ?d2 (by omega) ?d3 ?d4 ?d5 (w2.heap.size + 1) (by simp) ?_)
          case d1 => exact World.news_of_block (cs := #[.int .i64 x, .int .i64 y]) (t := 30) (fr := (0, 0)) (heap_alloc_new w2 _)
          case d2 => simp [Value.oneCell']
          case d3 => unfold maxLen; omega
          case d4 => omega
          case d5 => have := (own2.lt g rfl); simp; omega
          intro g5 cp5 w5 own5 hgrow hat _
          have hr := fun k hk => (own2.lt k hk).1
          have hw4 : w.heap.size + 1 + 1 + 1 < w4.heap.size := H4.out
          have hg5 : g5 ≠ w4.heap.size + 1 := by
            rcases hat with hat | hat
            · simp [Value.ownBlock] at hat; omega
            · omega
          have HN : Hid ((M ++ [(x, y)]).length = M.length + 1) := by simp [Hid]
          have R : Hid (w5.ownsRow w4.heap.size 30 2 (.slice (some ⟨g5, 0, none⟩) (M ++ [(x, y)]).length cp5) (M ++ [(x, y)]).length (flat (M ++ [(x, y)])) ∧ Four w5 w.heap.size ax ay bx by' cx cy dx dy 30 ∧ Pts w5 (w4.heap.size + 1) [(ax, ay), (bx, by')] ∧ Below w.heap.size w w5 ∧ w4.heap.size + 1 < w5.heap.size) :=
            ⟨by rw [flat_append, HN.out]; exact own5, (t2.alloc _).grown hgrow (fun q hq => by have := hr q hq; omega), (hP2.alloc hgl2 _).grown hgrow (by simp [Value.ownBlock]; omega),
              (b2.alloc b2.size _).grown hgrow (by have := b2.size; simp; omega) (fun q hq => by have := hr q hq; omega), by have := hgrow.size; simp at this; omega⟩
          clear own2 own5 hgrow t2 b2 n2 c5 c6 hP2
          go_wp2_with fail
          exact ⟨⟨k + 1, g5, cp5, M ++ [(x, y)], by omega, by go_num, by rw [HN.out], HE, R.out.1, hg5, R.out.2.2.2.2, R.out.2.1, R.out.2.2.1, R.out.2.2.2.1⟩, by simp [intOf]; omega⟩
      · have HK := Lib.hid (show k = 2 by omega)
        replace HMM : Hid (M = tillF (onP (cx, cy) (dx, dy)) [(ax, ay), (bx, by')] 2) := by
          show _ = _
          rw [HMM.out, HK.out]
        have S1len : M.length ≤ 2 := by rw [HMM.out]; simpa using tillF_len (onP (cx, cy) (dx, dy)) [(ax, ay), (bx, by')] 2
        have HSH : Hid (sharedS (ax, ay) (bx, by') (cx, cy) (dx, dy) = M ++ tillF (onP (ax, ay) (bx, by')) [(cx, cy), (dx, dy)] 2) := by
          show _ = _
          rw [HMM.out]; rfl
        obtain ⟨w6, e6⟩ : ∃ w6 : World, w6 = wo := ⟨_, rfl⟩
        obtain ⟨S1, eS⟩ : ∃ S1 : List (Int × Int), S1 = M := ⟨_, rfl⟩
        have hlt6 := (hown.lt g rfl).2
        rw [← e6] at hown t1 b1 hlt6 ⊢
        rw [← eS] at hown HSH S1len ⊢
        clear e6 hP hgl hgs HMM eS
        have own6 := hown; have t6 := t1; have b6 := b1
        clear hown t1 b1
        have c1 := t6.2.2.1.c0; have c2 := t6.2.2.1.c1; have c3 := t6.2.2.2.c0; have c4 := t6.2.2.2.c1
        go_wp2_with fail
        clear c1 c2 c3 c4
        go_loopw [13, 17, 72] (fun s _ i wr => ∃ (k g cap : Nat) (M : List (Int × Int)), k ≤ 2 ∧ i = .int .i64 k ∧ s = .slice (some ⟨g, 0, none⟩) M.length cap ∧ Hid (M = S1 ++ tillF (onP (ax, ay) (bx, by')) [(cx, cy), (dx, dy)] k) ∧ wr.ownsRow w4.heap.size 30 2 (.slice (some ⟨g, 0, none⟩) M.length cap) M.length (flat M) ∧
            g ≠ w6.heap.size ∧ w6.heap.size < wr.heap.size ∧ Four wr w.heap.size ax ay bx by' cx cy dx dy 30 ∧ Pts wr (w6.heap.size) [(cx, cy), (dx, dy)] ∧ Below w.heap.size w wr) (fun _ _ i _ => 2 - (intOf i).toNat)
        case atStart => exact ⟨0, g, cp, S1, by omega, rfl, rfl, by simp [Hid, tillF], own6.alloc _, by omega, by simp, t6.alloc _, pts2_new w6 cx cy dx dy, b6.alloc b6.size _⟩
        case round =>
          obtain ⟨wo, rfl⟩ : ∃ wo : World, wo = wr := ⟨_, rfl⟩
          clear own6 t6 b6
          obtain ⟨k, g, cp, M, hk, rfl, rfl, HMM, hown, hgs, hgl, t1, hP, b1⟩ := hrel
          by_cases hlt : k < 2
          · obtain ⟨x, y, hxy⟩ : ∃ x y, [(cx, cy), (dx, dy)][k]? = some (x, y) := ⟨_, _, List.getElem?_eq_getElem (by simpa using hlt)⟩
            have hok : okP x y = true := by
              have := List.mem_of_getElem? hxy
              simp only [List.mem_cons, Prod.mk.injEq, List.not_mem_nil, or_false] at this
              rcases this with ⟨rfl, rfl⟩ | ⟨rfl, rfl⟩
              · exact HC.out
              · exact HD.out
            have hpk := hP k (by simpa using hlt)
            have hLk : [(cx, cy), (dx, dy)][k]'(by simpa using hlt) = (x, y) := (List.getElem?_eq_some_iff.1 hxy).2
            rw [hLk] at hpk
            obtain ⟨p1, p2⟩ := hpk
            simp only at p1 p2
            have hs := tillF_step (f := (onP (ax, ay) (bx, by'))) hxy
            have hE4 : M.length ≤ 4 := by
              have h1 := tillF_len (onP (ax, ay) (bx, by')) [(cx, cy), (dx, dy)] k
              rw [HMM.out]
              simp only [List.length_append, List.length_cons, List.length_nil] at *
              omega
            have HON := Lib.hid (fun w => on_any' ax ay bx by' x y w HA.out HB.out hok)
            have HS : Hid (S1 ++ tillF (onP (ax, ay) (bx, by')) [(cx, cy), (dx, dy)] (k + 1) = bif (onP (ax, ay) (bx, by')) (x, y) then M ++ [(x, y)] else M) := by
              show _ = _
              rw [HMM.out, hs]
              try (cases (onP (ax, ay) (bx, by')) (x, y) <;> simp)
            clear hxy hs hLk hok HMM
            have u1 := t1.alloc (.cells #[.int .i64 x, .int .i64 y] 30)
            have n1 := at_new wo x y 30
            have hP1 := hP.alloc hgl (.cells #[.int .i64 x, .int .i64 y] 30)
            have c1 := u1.1.c0; have c2 := u1.1.c1; have c3 := u1.2.1.c0; have c4 := u1.2.1.c1
            go_wp2_with fail
            refine (HON.out _).mono ?_
            rintro e w2 ⟨rfl, hb2⟩
            have t2 := u1.step hb2
            have n2 := n1.step hb2
            have hP2 := hP1.step (by simp; omega) hb2
            have b2 := below_on (b1.alloc b1.size _) hb2
            have own2 := own_below (hown.alloc _) hb2
            have hgl2 : w6.heap.size < w2.heap.size := by have := hb2.size; simp at this; omega
            clear u1 n1 t1 b1 hown hb2 c1 c2 c3 c4 hP hP1 p1 p2 HON
            cases ho1 : (onP (ax, ay) (bx, by')) (x, y)
            · have HE : Hid (M = S1 ++ tillF (onP (ax, ay) (bx, by')) [(cx, cy), (dx, dy)] (k + 1)) := by
                show _ = _
                rw [HS.out, ho1]; rfl
              have R := Lib.hid (And.intro own2 (And.intro t2 (And.intro hP2 b2)))
              clear own2 t2 b2 n2 hP2
              go_wp2_with fail
              go_roundw
              case rel => exact ⟨k + 1, g, cp, M, by omega, by go_num, rfl, HE, R.out.1, hgs, hgl2, R.out.2.1, R.out.2.2.1, R.out.2.2.2⟩
              case measure => simp [intOf]; omega
            · have HE : Hid (M ++ [(x, y)] = S1 ++ tillF (onP (ax, ay) (bx, by')) [(cx, cy), (dx, dy)] (k + 1)) := by
                show _ = _
                rw [HS.out, ho1]; rfl
              have c5 := n2.c0; have c6 := n2.c1
              have hB := t2.2.2.2.lt
              go_wp2_with (at_builtin; refine wpList_append_lies _ rfl _ _ 23 rfl w4.heap.size 30 i0 (.agg #[.int .i64 0, .int .i64 0]) 2 16 Try.underlying23 hi0 hz0 hz1 hz2 rfl (by decide) _ _ _ rfl (own2.alloc _) ⟨w2.heap.size, 0, none⟩ 1 1 [.int .i64 x, .int .i64 y] rfl rfl ?d1 ?d2 (by omega) ?d3 ?d4 ?d5 (w2.heap.size + 1) (by simp) ?_)
              case d1 => exact World.news_of_block (cs := #[.int .i64 x, .int .i64 y]) (t := 30) (fr := (0, 0)) (heap_alloc_new w2 _)
              case d2 => simp [Value.oneCell']
              case d3 => unfold maxLen; omega
              case d4 => omega
              case d5 => have := (own2.lt g rfl); simp; omega
              intro g5 cp5 w5 own5 hgrow hat _
              have hr := fun k hk => (own2.lt k hk).1
              have hw4 : w.heap.size + 1 + 1 + 1 < w4.heap.size := H4.out
              have hg5 : g5 ≠ w6.heap.size := by
                rcases hat with hat | hat
                · simp [Value.ownBlock] at hat; omega
                · omega
              have HN : Hid ((M ++ [(x, y)]).length = M.length + 1) := by simp [Hid]
              have R : Hid (w5.ownsRow w4.heap.size 30 2 (.slice (some ⟨g5, 0, none⟩) (M ++ [(x, y)]).length cp5) (M ++ [(x, y)]).length (flat (M ++ [(x, y)])) ∧ Four w5 w.heap.size ax ay bx by' cx cy dx dy 30 ∧ Pts w5 (w6.heap.size) [(cx, cy), (dx, dy)] ∧ Below w.heap.size w w5 ∧ w6.heap.size < w5.heap.size) :=
                ⟨by rw [flat_append, HN.out]; exact own5, (t2.alloc _).grown hgrow (fun q hq => by have := hr q hq; omega), (hP2.alloc hgl2 _).grown hgrow (by simp [Value.ownBlock]; omega),
                  (b2.alloc b2.size _).grown hgrow (by have := b2.size; simp; omega) (fun q hq => by have := hr q hq; omega), by have := hgrow.size; simp at this; omega⟩
              clear own2 own5 hgrow t2 b2 n2 c5 c6 hP2
              go_wp2_with fail
              exact ⟨⟨k + 1, g5, cp5, M ++ [(x, y)], by omega, by go_num, by rw [HN.out], HE, R.out.1, hg5, R.out.2.2.2.2, R.out.2.1, R.out.2.2.1, R.out.2.2.2.1⟩, by simp [intOf]; omega⟩
          · have HK := Lib.hid (show k = 2 by omega)
            replace HMM : Hid (M = S1 ++ tillF (onP (ax, ay) (bx, by')) [(cx, cy), (dx, dy)] 2) := by
              show _ = _
              rw [HMM.out, HK.out]
            have HS2 : Hid (sharedS (ax, ay) (bx, by') (cx, cy) (dx, dy) = M) := by
              show _ = _
              rw [HSH.out, HMM.out]
            have hl4 : M.length ≤ 4 := by
              have h1 := tillF_len (onP (ax, ay) (bx, by')) [(cx, cy), (dx, dy)] 2
              rw [HMM.out]
              simp only [List.length_append, List.length_cons, List.length_nil] at *
              omega
            have HRS : Hid (meetI (ax, ay) (bx, by') (cx, cy) (dx, dy) = bif M.isEmpty then 0 else bif sameAll M then 1 else 3) := by
              show _ = _
              rw [HR.out, HS2.out]
            have HPA := Lib.hid (ptsA_of hown)
            clear HMM HSH HS2 hP hgs hgl t1 hown HR
            rcases Nat.eq_zero_or_pos M.length with h0 | h0
            · obtain rfl : M = [] := List.length_eq_zero_iff.1 h0
              clear h0
              go_wp2_with fail
              go_ret
              exact ⟨ret_int HRS.out.symm, b1⟩
            · have e0 : ((M.length : Int) == 0) = false := by rw [beq_eq_false_iff_ne]; omega
              have e0' : ¬ M = [] := fun h => by rw [h] at h0; simp at h0
              have HE : Hid (M.isEmpty = false) := by
                cases M with
                | nil => simp at h0
                | cons p t => rfl
              obtain ⟨x0, hx0⟩ : ∃ x0, x0 = (M[0]).1 := ⟨_, rfl⟩
              obtain ⟨y0, hy0⟩ : ∃ y0, y0 = (M[0]).2 := ⟨_, rfl⟩
              have HS := Lib.hid (same_iff M h0)
              have HX := Lib.hid (And.intro hx0 hy0)
              clear hx0 hy0
              obtain ⟨w7, e7⟩ : ∃ w7 : World, w7 = wo := ⟨_, rfl⟩
              rw [← e7] at b1 HPA ⊢
              clear e7
              go_wp2_with fail
              go_loopw [19, 90] (fun _ i wr => ∃ k : Nat, k ≤ M.length ∧ i = .int .i64 k ∧ Below w7.heap.size w7 wr ∧ Hid (∀ j (hj : j < M.length), j < k → M[j].1 = x0 ∧ M[j].2 = y0)) (fun _ i _ => M.length - (intOf i).toNat)
              case atStart => exact ⟨0, Nat.zero_le _, rfl, Below.refl _ _, fun j hj h => by omega⟩
              case round =>
                obtain ⟨wo, rfl⟩ : ∃ wo : World, wo = wr := ⟨_, rfl⟩
                obtain ⟨k, hk, rfl, hb, HN⟩ := hrel
                by_cases hlt : k < M.length
                · obtain ⟨g1, hg1, q1, q2⟩ := ptsA_on HPA.out hb k hlt
                  obtain ⟨g2, hg2, q3, q4⟩ := ptsA_on HPA.out hb 0 h0
                  simp only [Option.some.injEq, Addr.mk.injEq, and_true] at hg1 hg2
                  subst hg1
                  subst hg2
                  obtain ⟨x, hx⟩ : ∃ x, x = (M[k]).1 := ⟨_, rfl⟩
                  obtain ⟨y, hy⟩ : ∃ y, y = (M[k]).2 := ⟨_, rfl⟩
                  rw [← hx] at q1
                  rw [← hy] at q2
                  rw [← HX.out.1] at q3
                  rw [← HX.out.2] at q4
                  have HXY := Lib.hid (And.intro hx hy)
                  clear hx hy
                  have hal := (Below.refl wo.heap.size wo).alloc (Nat.le_refl _) (.cells #[.int .i64 x, .int .i64 y] 30)
                  have r3 := cell_on hal rfl q3; have r4 := cell_on hal rfl q4
                  have n1 := at_new wo x y 30
                  have s1 := n1.c0; have s2 := n1.c1
                  have b2 := below_on (b1.trans (hb.mono b1.size)) hal
                  have hb2 := below_on hb hal
                  clear hal n1 hb
                  cases he : (x == x0 && y == y0)
                  · have HV : Hid (meetI (ax, ay) (bx, by') (cx, cy) (dx, dy) = 3) := by
                      have hsm : sameAll M = false := by
                        cases hq : sameAll M
                        · rfl
                        · have := HS.out.1 hq k hlt
                          rw [← HXY.out.1, ← HXY.out.2, ← HX.out.1, ← HX.out.2] at this
                          simp [this.1, this.2] at he
                      show _ = _
                      rw [HRS.out, HE.out, hsm]; rfl
                    have R := Lib.hid b2
                    clear b2 hb2 b1
                    go_wp2_with fail
                    go_quiet (fail)
                    go_wp2_with fail
                    go_ret
                    exact ⟨ret_int HV.out.symm, R.out.os, R.out.tape, R.out.output, R.out.size, R.out.block⟩
                  · have HN2 : Hid (∀ j (hj : j < M.length), j < k + 1 → M[j].1 = x0 ∧ M[j].2 = y0) := fun j hj h => by
                      rcases Nat.lt_or_ge j k with h1 | h1
                      · exact HN.out j hj h1
                      · obtain rfl : j = k := by omega
                        rw [← HXY.out.1, ← HXY.out.2]
                        simpa using he
                    have R := Lib.hid hb2
                    clear b2 hb2
                    go_wp2_with fail
                    go_quiet (fail)
                    go_wp2_with fail
                    go_roundw
                    case rel => exact ⟨k + 1, by omega, by go_num, ⟨R.out.os, R.out.tape, R.out.output, R.out.size, R.out.block⟩, HN2⟩
                    case measure => simp [intOf]; omega
                · have HV : Hid (meetI (ax, ay) (bx, by') (cx, cy) (dx, dy) = 1) := by
                    have hsm : sameAll M = true := HS.out.2 fun j hj => by
                      rw [← HX.out.1, ← HX.out.2]
                      exact HN.out j hj (by omega)
                    show _ = _
                    rw [HRS.out, HE.out, hsm]; rfl
                  have R := Lib.hid (b1.trans (hb.mono b1.size))
                  clear b1 hb
                  go_wp2_with fail
                  go_ret
                  exact ⟨ret_int HV.out.symm, R.out⟩
end Go.Proofs.Ytncahchhinfneaa

/-! Gcd -/
namespace Go.Proofs.Ytncahchhinfneaa
open Go.RowKit

theorem tmod_nat (m n : Nat) : Int.tmod (m : Int) (n : Int) = ((m % n : Nat) : Int) := by
  rw [Int.tmod_eq_emod_of_nonneg (by omega)]; simp
theorem gcd_round {m n : Nat} (_ : 0 < n) : Nat.gcd n (m % n) = Nat.gcd m n := by
  rw [Nat.gcd_comm m n, Nat.gcd_rec n m, Nat.gcd_comm]
theorem gcdI_any (m n : Nat) (w : World) (hm : m ≤ 1000000) (hn : n ≤ 1000000) :
    Calls Try.prog 229 #[.int .i64 m, .int .i64 n] w fun e w' => e = .returned (.int .i64 (Nat.gcd m n : Nat)) ∧ Below w.heap.size w w' := by
  go_enter Try.func229, Try.ntmps229
  go_wp2_with fail
  go_loopw [0, 1] (fun x y w' => ∃ p q : Nat, x = .int .i64 p ∧ y = .int .i64 q ∧ p ≤ 1000000 ∧ q ≤ 1000000 ∧ Hid (Nat.gcd p q = Nat.gcd m n) ∧ Below w.heap.size w w') (fun _ y _ => (intOf y).toNat)
  case atStart => exact ⟨m, n, rfl, rfl, hm, hn, rfl, Below.refl _ _⟩
  case round =>
    obtain ⟨wo, rfl⟩ : ∃ wo : World, wo = wr := ⟨_, rfl⟩
    obtain ⟨p, q, rfl, rfl, hp, hq, HG, hb⟩ := hrel
    by_cases hlt : 0 < q
    · have HG2 : Hid (Nat.gcd q (p % q) = Nat.gcd m n) := (gcd_round hlt).trans HG.out
      have hlt' := Nat.mod_lt p hlt
      have hle := Nat.mod_le p q
      obtain ⟨r, hr⟩ : ∃ r : Nat, r = p % q := ⟨_, rfl⟩
      have hmod : Int.tmod (p : Int) (q : Int) = (r : Int) := by rw [tmod_nat, hr]
      rw [← hr] at HG2 hlt' hle
      clear hr
      go_wp2_with fail
      go_quiet (fail)
      go_wp2_with fail
      go_roundw
      case rel => exact ⟨q, r, rfl, rfl, by omega, by omega, HG2, ⟨hb.os, hb.tape, hb.output, hb.size, hb.block⟩⟩
      case measure => simp [intOf]; omega
    · obtain rfl : q = 0 := by omega
      go_wp2_with fail
      go_ret
      exact ⟨ret_int (by rw [← HG.out]; simp), hb⟩
theorem ab (a : Int) : ∃ m : Nat, a.natAbs = m ∧ ((0 < a ∧ a = m) ∨ (a = 0 ∧ (m : Int) = 0) ∨ (a < 0 ∧ -a = m)) := ⟨_, rfl, by omega⟩
end Go.Proofs.Ytncahchhinfneaa

/-! Poly -/
namespace Go.Proofs.Ytncahchhinfneaa
open Go.RowKit

def gt (L : List (Int × Int)) (i : Nat) : Int × Int := L.getD i (0, 0)
theorem gt_at {L : List (Int × Int)} {i : Nat} (h : i < L.length) : gt L i = L[i] := by simp [gt, h]
/-- Two sides, by their first corners' indexes i < k, meet as those of a polygon. -/
def adjB (n i k : Nat) : Bool := (k == i + 1) || (i == 0 && k == n - 1)
def pairM (L : List (Int × Int)) (i k : Nat) : Int := meetI (gt L i) (gt L ((i + 1) % L.length)) (gt L k) (gt L ((k + 1) % L.length))
def pairOk (L : List (Int × Int)) (i k : Nat) : Bool := bif adjB L.length i k then pairM L i k == 1 else pairM L i k == 0
def nbB (L : List (Int × Int)) : Bool := (List.range L.length).all fun i => !(eqQ (gt L i) (gt L ((i + 1) % L.length)))
def pairsB (L : List (Int × Int)) : Bool := (List.range L.length).all fun i => (List.range L.length).all fun k => decide (k ≤ i) || pairOk L i k
def polyB (L : List (Int × Int)) : Bool := inB L.length 3 10 && allOk L && nbB L && pairsB L
theorem nb_true {L : List (Int × Int)} (h : ∀ j, j < L.length → eqQ (gt L j) (gt L ((j + 1) % L.length)) = false) : nbB L = true := by
  simp only [nbB, List.all_eq_true, List.mem_range]
  intro j hj; rw [h j hj]; rfl
theorem nb_false {L : List (Int × Int)} {j : Nat} (hj : j < L.length) (h : eqQ (gt L j) (gt L ((j + 1) % L.length)) = true) : nbB L = false := by
  cases hb : nbB L
  · rfl
  · simp only [nbB, List.all_eq_true, List.mem_range] at hb
    have := hb j hj
    rw [h] at this; simp at this
theorem pairs_true {L : List (Int × Int)} (h : ∀ i, i < L.length → ∀ k, i < k → k < L.length → pairOk L i k = true) : pairsB L = true := by
  simp only [pairsB, List.all_eq_true, List.mem_range, Bool.or_eq_true, decide_eq_true_eq]
  intro i hi k hk
  rcases Nat.lt_or_ge i k with h1 | h1
  · exact .inr (h i hi k h1 hk)
  · exact .inl h1
theorem pairs_false {L : List (Int × Int)} {i k : Nat} (hi : i < k) (hk : k < L.length) (h : pairOk L i k = false) : pairsB L = false := by
  cases hb : pairsB L
  · rfl
  · simp only [pairsB, List.all_eq_true, List.mem_range, Bool.or_eq_true, decide_eq_true_eq] at hb
    rcases hb i (by omega) k hk with h1 | h1
    · omega
    · rw [h] at h1; cases h1
theorem all_at {L : List (Int × Int)} (h : allOk L = true) {i : Nat} (hi : i < L.length) : okP (gt L i).1 (gt L i).2 = true := by
  rw [gt_at hi]
  simp only [allOk, List.all_eq_true] at h
  exact h _ (List.getElem_mem hi)
theorem gt_cells {w : World} {g : Nat} {L : List (Int × Int)} (h : PtsA w (some ⟨g, 0, none⟩) L) {i : Nat} (hi : i < L.length) : w.cell? ⟨g, i * 2, none⟩ = some (.int .i64 (gt L i).1) ∧ w.cell? ⟨g, i * 2 + 1, none⟩ = some (.int .i64 (gt L i).2) := by
  obtain ⟨g', hg, h1, h2⟩ := h i hi
  simp only [Option.some.injEq, Addr.mk.injEq, and_true] at hg
  subst hg
  rw [gt_at hi]
  exact ⟨h1, h2⟩
theorem next_int {i n : Nat} (hn : 0 < n) : Int.tmod ((i : Int) + 1) (n : Int) = (((i + 1) % n : Nat) : Int) ∧ (i + 1) % n < n := by
  refine ⟨?_, Nat.mod_lt _ hn⟩
  have : (i : Int) + 1 = ((i + 1 : Nat) : Int) := by omega
  rw [this, tmod_nat]

set_option maxHeartbeats 8000000 in
set_option maxRecDepth 100000 in
theorem spec_poly (A : Option Addr) (c : Nat) (L : List (Int × Int)) (w : World) (hA : PtsA w A L) (hL : L.length ≤ 1048576) :
    Calls Try.prog 135 #[.slice A L.length c] w fun e w' => e = .returned (.bool (polyB L)) ∧ Below w.heap.size w w' := by
  have GP := guard_pt
  have EP := fun w x y x' y' => eql_pt w x y x' y'
  have HV : Hid (polyB L = (inB L.length 3 10 && allOk L && nbB L && pairsB L)) := rfl
  cases hin : inB (L.length : Int) 3 10
  · clear hA
    go_enter Try.func135, Try.ntmps135
    go_wp2_with fail
    refine (in_any _ _ _ _).mono ?_
    rintro e w1 ⟨rfl, rfl⟩
    go_wp2_with fail
    go_ret
    exact ⟨ret_bool (by rw [HV.out, hin]; rfl), Below.refl _ _⟩
  have hn := inB_spec.1 hin
  have h0 : 0 < L.length := by omega
  obtain ⟨g, rfl, -⟩ := hA 0 h0
  have HA := Lib.hid hA; clear hA
  go_enter Try.func135, Try.ntmps135
  go_wp2_with fail
  refine (in_any _ _ _ _).mono ?_
  rintro e w1 ⟨rfl, rfl⟩
  go_wp2_with fail
  go_loopw [4, 16] (fun _ i wr => ∃ k : Nat, k ≤ L.length ∧ i = .int .i64 k ∧ Hid (allOk L = allOk (L.drop k)) ∧ Below w1.heap.size w1 wr) (fun _ i _ => L.length - (intOf i).toNat)
  case atStart => exact ⟨0, Nat.zero_le _, rfl, rfl, Below.refl _ _⟩
  case round =>
    obtain ⟨wo, rfl⟩ : ∃ wo : World, wo = wr := ⟨_, rfl⟩
    obtain ⟨k, hk, rfl, HK, hb⟩ := hrel
    by_cases hlt : k < L.length
    · obtain ⟨c1, c2⟩ := gt_cells (ptsA_on HA.out hb) hlt
      have hd : L.drop k = L[k] :: L.drop (k + 1) := List.drop_eq_getElem_cons hlt
      have HK2 : Hid (allOk L = (okP (gt L k).1 (gt L k).2 && allOk (L.drop (k + 1)))) := by
        show _ = _
        rw [HK.out, hd, gt_at hlt]; rfl
      generalize (gt L k).1 = x at *
      generalize (gt L k).2 = y at *
      clear hd HK
      go_wp2_with fail
      refine (spec_ok _ _ _).mono ?_
      rintro e w2 ⟨rfl, hb2⟩
      have b2 := below_on (hb.alloc hb.size _) hb2
      clear hb hb2 c1 c2
      cases hok : okP x y
      · rw [hok] at HK2
        go_wp2_with fail
        go_ret
        exact ⟨ret_bool (by rw [HV.out, HK2.out, Bool.false_and, Bool.and_false, Bool.false_and, Bool.false_and]), b2⟩
      · rw [hok] at HK2
        go_wp2_with fail
        go_roundw
        case rel => exact ⟨k + 1, by omega, by go_num, HK2, b2⟩
        case measure => simp [intOf]; omega
    · have HAK : Hid (allOk L = true) := by
        show _ = _
        rw [HK.out, List.drop_of_length_le (by omega)]; rfl
      clear HK
      have b1 := hb
      clear hb
      obtain ⟨w2, e2⟩ : ∃ w2 : World, w2 = wo := ⟨_, rfl⟩
      rw [← e2] at b1 ⊢
      clear e2 wo
      have HA2 := Lib.hid (ptsA_on HA.out b1)
      go_wp2_with fail
      clear hlt hk
      go_loopw [6, 28] (fun _ i wr => ∃ k : Nat, k ≤ L.length ∧ i = .int .i64 k ∧ Hid (∀ j, j < L.length → j < k → eqQ (gt L j) (gt L ((j + 1) % L.length)) = false) ∧ Below w2.heap.size w2 wr) (fun _ i _ => L.length - (intOf i).toNat)
      case atStart => exact ⟨0, Nat.zero_le _, rfl, fun j _ h => by omega, Below.refl _ _⟩
      case round =>
        obtain ⟨wo, rfl⟩ : ∃ wo : World, wo = wr := ⟨_, rfl⟩
        obtain ⟨k, hk, rfl, HN, hb⟩ := hrel
        by_cases hlt : k < L.length
        · obtain ⟨hr, hrl⟩ := next_int (i := k) h0
          have hap := ptsA_on HA2.out hb
          obtain ⟨c1, c2⟩ := gt_cells hap hlt
          obtain ⟨c3, c4⟩ := gt_cells hap hrl
          clear hap
          have HE : Hid (eqQ (gt L k) (gt L ((k + 1) % L.length)) = ((gt L k).1 == (gt L ((k + 1) % L.length)).1 && (gt L k).2 == (gt L ((k + 1) % L.length)).2)) := rfl
          have hf1 : IntKind.i64.wrap ((k : Int) + 1) = (k : Int) + 1 := IntWalk.i64_in _ (by omega)
          obtain ⟨r, er⟩ : ∃ r, r = (k + 1) % L.length := ⟨_, rfl⟩
          have HR := Lib.hid er
          rw [← er] at hr hrl c3 c4 HE
          clear er
          have hf2 : IntKind.i64.wrap (r : Int) = (r : Int) := IntWalk.i64_in _ (by omega)
          have hne : ¬ L.length = 0 := by omega
          have hp1 : (r : Int) < (L.length : Int) := by omega
          have hp2 : (0 : Int) ≤ (r : Int) := by omega
          generalize (gt L k).1 = x at *
          generalize (gt L k).2 = y at *
          generalize (gt L r).1 = x' at *
          generalize (gt L r).2 = y' at *
          cases he : (x == x' && y == y')
          · have HN2 : Hid (∀ j, j < L.length → j < k + 1 → eqQ (gt L j) (gt L ((j + 1) % L.length)) = false) := fun j hj h => by
              rcases Nat.lt_or_ge j k with h1 | h1
              · exact HN.out j hj h1
              · obtain rfl : j = k := by omega
                rw [← HR.out, HE.out, he]
            go_wp2_with fail
            go_quiet (fail)
            go_wp2_with fail
            go_roundw
            case rel => exact ⟨k + 1, by omega, by go_num, HN2, ⟨hb.os, hb.tape, hb.output, hb.size, hb.block⟩⟩
            case measure => simp [intOf]; omega
          · have HF : Hid (nbB L = false) := nb_false hlt (by rw [← HR.out, HE.out, he])
            go_wp2_with fail
            go_quiet (fail)
            go_wp2_with fail
            go_ret
            have b3 := below_on b1 hb
            exact ⟨ret_bool (by rw [HV.out, HF.out, Bool.and_false, Bool.false_and]), b3.os, b3.tape, b3.output, b3.size, b3.block⟩
        · have HNB : Hid (nbB L = true) := nb_true fun j hj => HN.out j hj (by omega)
          have b3 := below_on b1 hb
          obtain ⟨w3, e3⟩ : ∃ w3 : World, w3 = wo := ⟨_, rfl⟩
          have HA3 := Lib.hid (ptsA_on HA2.out hb)
          rw [← e3] at b3 HA3 ⊢
          clear e3 hb HN b1
          go_wp2_with fail
          clear hlt hk
          go_loopw [7, 8, 9, 46] (fun _ _ _ i wr => ∃ k : Nat, k ≤ L.length ∧ i = .int .i64 k ∧ Hid (∀ i, i < k → ∀ m, i < m → m < L.length → pairOk L i m = true) ∧ Below w3.heap.size w3 wr) (fun _ _ _ i _ => L.length - (intOf i).toNat)
          case atStart => exact ⟨0, Nat.zero_le _, rfl, fun j h => by omega, Below.refl _ _⟩
          case round =>
            obtain ⟨wo, rfl⟩ : ∃ wo : World, wo = wr := ⟨_, rfl⟩
            obtain ⟨k, hk, rfl, HN, hb⟩ := hrel
            by_cases hlt : k < L.length
            · have hf1 : IntKind.i64.wrap ((k : Int) + 1) = (k : Int) + 1 := IntWalk.i64_in _ (by omega)
              go_wp2_with fail
              go_loopw [8, 9] (fun m _ wr => ∃ q : Nat, k + 1 ≤ q ∧ q ≤ L.length ∧ m = .int .i64 q ∧ Hid (∀ m, k < m → m < q → pairOk L k m = true) ∧ Below w3.heap.size w3 wr) (fun m _ _ => L.length - (intOf m).toNat)
              case atStart => exact ⟨k + 1, Nat.le_refl _, by omega, by go_num, fun m h1 h2 => by omega, hb⟩
              case round =>
                obtain ⟨wi, rfl⟩ : ∃ wi : World, wi = wr := ⟨_, rfl⟩
                clear hb
                obtain ⟨q, hkq, hq, rfl, HM, hb⟩ := hrel
                by_cases hlq : q < L.length
                · obtain ⟨hr, hrl⟩ := next_int (i := k) h0
                  obtain ⟨hs, hsl⟩ := next_int (i := q) h0
                  have hap := ptsA_on HA3.out hb
                  obtain ⟨c1, c2⟩ := gt_cells hap hlt
                  obtain ⟨c3, c4⟩ := gt_cells hap hrl
                  obtain ⟨c5, c6⟩ := gt_cells hap hlq
                  obtain ⟨c7, c8⟩ := gt_cells hap hsl
                  have HCM := Lib.hid (fun w => meet_any _ _ _ _ _ _ _ _ w (all_at HAK.out hlt) (all_at HAK.out hrl) (all_at HAK.out hlq) (all_at HAK.out hsl))
                  have HPM : Hid (pairM L k q = meetI ((gt L k).1, (gt L k).2) ((gt L ((k + 1) % L.length)).1, (gt L ((k + 1) % L.length)).2) ((gt L q).1, (gt L q).2) ((gt L ((q + 1) % L.length)).1, (gt L ((q + 1) % L.length)).2)) := rfl
                  clear hap
                  generalize (k + 1) % L.length = r at *
                  generalize (q + 1) % L.length = t at *
                  generalize (gt L k).1 = x1 at *
                  generalize (gt L k).2 = y1 at *
                  generalize (gt L r).1 = x2 at *
                  generalize (gt L r).2 = y2 at *
                  generalize (gt L q).1 = x3 at *
                  generalize (gt L q).2 = y3 at *
                  generalize (gt L t).1 = x4 at *
                  generalize (gt L t).2 = y4 at *
                  have hf2 : IntKind.i64.wrap (r : Int) = (r : Int) := IntWalk.i64_in _ (by omega)
                  have hf3 : IntKind.i64.wrap ((q : Int) + 1) = (q : Int) + 1 := IntWalk.i64_in _ (by omega)
                  have hf4 : IntKind.i64.wrap (t : Int) = (t : Int) := IntWalk.i64_in _ (by omega)
                  have hne : ¬ L.length = 0 := by omega
                  have hp1 : (r : Int) < (L.length : Int) := by omega
                  have hp2 : (0 : Int) ≤ (r : Int) := by omega
                  have hp3 : (t : Int) < (L.length : Int) := by omega
                  have hp4 : (0 : Int) ≤ (t : Int) := by omega
                  have k1 := cell_regrown c1; have k2 := cell_regrown c2; have k3 := cell_regrown c3; have k4 := cell_regrown c4; have k5 := cell_regrown c5; have k6 := cell_regrown c6; have k7 := cell_regrown c7; have k8 := cell_regrown c8
                  go_wp2_with fail
                  refine wp_region_quiet_below (by kernel_rfl) (by kernel_rfl) ?_
                  repeat (first
                    | go_big_quiet_step (first | exact Calls.regrown_of (HCM.out _))
                    | quiet_step (first | exact Calls.regrown_of (HCM.out _)))
                  refine wpQuiet_nil ?_
                  rintro _ ⟨⟨dq, osq⟩, rfl⟩
                  have hb2 := below_on hb (below_regrown _ dq osq)
                  clear k1 k2 k3 k4 k5 k6 k7 k8 c1 c2 c3 c4 c5 c6 c7 c8 hb
                  simp only at *
                  generalize Go.Sort.grow (redrawn wi dq) osq = w5 at *
                  clear hr hs hf2 hf4 hp1 hp2 hp3 hp4 HCM
                  generalize meetI (x1, y1) (x2, y2) (x3, y3) (x4, y4) = M at *
                  have HAD : Hid (pairOk L k q = bif adjB L.length k q then pairM L k q == 1 else pairM L k q == 0) := rfl
                  have hw1 : wrap64 ((L.length : Int) - 1) = (L.length : Int) - 1 := IntWalk.wrap64_in _ (by omega)
                  have hw2 : IntKind.i64.wrap ((L.length : Int) - 1) = (L.length : Int) - 1 := IntWalk.i64_in _ (by omega)
                  by_cases h1 : q = k + 1
                  · have e1 : ((q : Int) == (k : Int) + 1) = true := by rw [beq_iff_eq]; omega
                    have e1' : ((k + 1 : Nat) : Int) = (k : Int) + 1 := by omega
                    have HJ : Hid (adjB L.length k q = true) := by
                      show _ = _
                      simp [adjB, h1]
                    clear h1
                    cases hM : (M == 1)
                    · have HF : Hid (pairsB L = false) := pairs_false (i := k) (k := q) (by omega) hlq (by rw [HAD.out, HJ.out, HPM.out]; exact hM)
                      have hM' : (M != 1) = true := by simp [bne, hM]
                      go_wp2_with fail
                      go_ret
                      exact ⟨ret_bool (by rw [HV.out, HF.out, Bool.and_false]), below_on b3 hb2⟩
                    · have HM2 : Hid (∀ m, k < m → m < q + 1 → pairOk L k m = true) := fun m h1 h2 => by
                        rcases Nat.lt_or_ge m q with h3 | h3
                        · exact HM.out m h1 h3
                        · obtain rfl : m = q := by omega
                          rw [HAD.out, HJ.out, HPM.out]; exact hM
                      have hM' : (M != 1) = false := by simp [bne, hM]
                      go_wp2_with fail
                      go_roundw
                      case rel => exact ⟨q + 1, by omega, by omega, by go_num, HM2, hb2⟩
                      case measure => simp [intOf]; omega
                  · have e1 : ((q : Int) == (k : Int) + 1) = false := by rw [beq_eq_false_iff_ne]; omega
                    by_cases h2 : k = 0
                    · have e2 : ((k : Int) == 0) = true := by rw [beq_iff_eq]; omega
                      by_cases h3 : q = L.length - 1
                      · have e3 : ((q : Int) == (L.length : Int) - 1) = true := by rw [beq_iff_eq]; omega
                        have HJ : Hid (adjB L.length k q = true) := by
                          show _ = _
                          simp [adjB, h2, h3]
                        clear h3 h2
                        cases hM : (M == 1)
                        · have HF : Hid (pairsB L = false) := pairs_false (i := k) (k := q) (by omega) hlq (by rw [HAD.out, HJ.out, HPM.out]; exact hM)
                          have hM' : (M != 1) = true := by simp [bne, hM]
                          go_wp2_with fail
                          go_ret
                          exact ⟨ret_bool (by rw [HV.out, HF.out, Bool.and_false]), below_on b3 hb2⟩
                        · have HM2 : Hid (∀ m, k < m → m < q + 1 → pairOk L k m = true) := fun m h1 h2 => by
                            rcases Nat.lt_or_ge m q with h3 | h3
                            · exact HM.out m h1 h3
                            · obtain rfl : m = q := by omega
                              rw [HAD.out, HJ.out, HPM.out]; exact hM
                          have hM' : (M != 1) = false := by simp [bne, hM]
                          go_wp2_with fail
                          go_roundw
                          case rel => exact ⟨q + 1, by omega, by omega, by go_num, HM2, hb2⟩
                          case measure => simp [intOf]; omega
                      · have e3 : ((q : Int) == (L.length : Int) - 1) = false := by rw [beq_eq_false_iff_ne]; omega
                        have HJ : Hid (adjB L.length k q = false) := by
                          show _ = _
                          simp [adjB, h3]; omega
                        clear h2
                        cases hM : (M == 0)
                        · have HF : Hid (pairsB L = false) := pairs_false (i := k) (k := q) (by omega) hlq (by rw [HAD.out, HJ.out, HPM.out]; exact hM)
                          have hM' : (M != 0) = true := by simp [bne, hM]
                          go_wp2_with fail
                          go_ret
                          exact ⟨ret_bool (by rw [HV.out, HF.out, Bool.and_false]), below_on b3 hb2⟩
                        · have HM2 : Hid (∀ m, k < m → m < q + 1 → pairOk L k m = true) := fun m h1 h2 => by
                            rcases Nat.lt_or_ge m q with h3 | h3
                            · exact HM.out m h1 h3
                            · obtain rfl : m = q := by omega
                              rw [HAD.out, HJ.out, HPM.out]; exact hM
                          have hM' : (M != 0) = false := by simp [bne, hM]
                          go_wp2_with fail
                          go_roundw
                          case rel => exact ⟨q + 1, by omega, by omega, by go_num, HM2, hb2⟩
                          case measure => simp [intOf]; omega
                    · have e2 : ((k : Int) == 0) = false := by rw [beq_eq_false_iff_ne]; omega
                      have HJ : Hid (adjB L.length k q = false) := by
                        show _ = _
                        simp [adjB, h2]; omega
                      cases hM : (M == 0)
                      · have HF : Hid (pairsB L = false) := pairs_false (i := k) (k := q) (by omega) hlq (by rw [HAD.out, HJ.out, HPM.out]; exact hM)
                        have hM' : (M != 0) = true := by simp [bne, hM]
                        go_wp2_with fail
                        go_ret
                        exact ⟨ret_bool (by rw [HV.out, HF.out, Bool.and_false]), below_on b3 hb2⟩
                      · have HM2 : Hid (∀ m, k < m → m < q + 1 → pairOk L k m = true) := fun m h1 h2 => by
                          rcases Nat.lt_or_ge m q with h3 | h3
                          · exact HM.out m h1 h3
                          · obtain rfl : m = q := by omega
                            rw [HAD.out, HJ.out, HPM.out]; exact hM
                        have hM' : (M != 0) = false := by simp [bne, hM]
                        go_wp2_with fail
                        go_roundw
                        case rel => exact ⟨q + 1, by omega, by omega, by go_num, HM2, hb2⟩
                        case measure => simp [intOf]; omega
                · have HN2 : Hid (∀ i, i < k + 1 → ∀ m, i < m → m < L.length → pairOk L i m = true) := fun i hi m h1 h2 => by
                    rcases Nat.lt_or_ge i k with h3 | h3
                    · exact HN.out i h3 m h1 h2
                    · obtain rfl : i = k := by omega
                      exact HM.out m h1 (by omega)
                  go_wp2_with fail
                  go_roundw
                  case rel => exact ⟨k + 1, by omega, by go_num, HN2, hb⟩
                  case measure => simp [intOf]; omega
            · have HPB : Hid (pairsB L = true) := pairs_true fun i hi m h1 h2 => HN.out i (by omega) m h1 h2
              have b4 := below_on b3 hb
              clear hb b3
              go_wp2_with fail
              go_ret
              exact ⟨ret_bool (by rw [HV.out, hin, HAK.out, HNB.out, HPB.out]; rfl), b4⟩
end Go.Proofs.Ytncahchhinfneaa

/-! Square -/
namespace Go.Proofs.Ytncahchhinfneaa
open Go.RowKit

def squareI (ax ay bx by' : Int) : Int := (ax - bx) * (ax - bx) + (ay - by') * (ay - by')
def squareV (ax ay bx by' : Int) : Int := bif okP ax ay && okP bx by' then squareI ax ay bx by' else -1
theorem squareI_flip (ax ay bx by' : Int) : squareI bx by' ax ay = squareI ax ay bx by' := by
  unfold squareI
  rw [← Int.neg_mul_neg (bx - ax), ← Int.neg_mul_neg (by' - ay), Int.neg_sub, Int.neg_sub]
theorem square_wrap {ax ay bx by' : Int} (ha : okP ax ay = true) (hb : okP bx by' = true) :
    wrap64 (wrap64 (wrap64 (ax - bx) * wrap64 (ax - bx)) + wrap64 (wrap64 (ay - by') * wrap64 (ay - by'))) = squareI ax ay bx by' := by
  have := okP_bounds ha; have := okP_bounds hb
  rw [wrap_id (x := ax - bx) (by omega), wrap_id (x := ay - by') (by omega)]
  have h1 := abs_mul (x := ax - bx) (y := ax - bx) (m := 40) (n := 40) (by omega) (by omega)
  have h2 := abs_mul (x := ay - by') (y := ay - by') (m := 40) (n := 40) (by omega) (by omega)
  rw [wrap_id (x := (ax - bx) * (ax - bx)) (by omega), wrap_id (x := (ay - by') * (ay - by')) (by omega)]
  unfold squareI
  generalize (ax - bx) * (ax - bx) = u at *
  generalize (ay - by') * (ay - by') = v at *
  exact wrap_id (by omega)
theorem impl_square (ax ay bx by' : Int) (w : World) :
    Calls Try.prog 24 #[(.agg #[.int .i64 ax, .int .i64 ay]), (.agg #[.int .i64 bx, .int .i64 by'])] w fun e w' => e = .returned (.int .i64 (squareV ax ay bx by')) ∧ Below w.heap.size w w' := by
  have HP := Lib.hid (pts2 w ax ay bx by')
  go_enter Try.func24, Try.ntmps24
  go_wp2_with fail
  refine (all_any _ _ [(ax, ay), (bx, by')] _ HP.out (by simp) (by simp)).mono ?_
  rintro e w1 ⟨rfl, hb1⟩
  have t1 := ((two0 w ax ay bx by' 30).alloc _).step hb1
  have b1 := below_on (below3 w _ _ _) hb1
  clear hb1 HP
  have HO := Lib.hid (all2 ax ay bx by')
  cases hok : allOk [(ax, ay), (bx, by')]
  · go_wp2_with fail
    go_ret
    exact ⟨ret_int (by rw [squareV, ← HO.out, hok]; rfl), b1⟩
  have hok2 := HO.out.symm
  rw [hok] at hok2
  simp only [Bool.and_eq_true] at hok2
  obtain ⟨ha, hb⟩ := hok2
  have c1 := t1.1.c0; have c2 := t1.1.c1; have c3 := t1.2.c0; have c4 := t1.2.c1
  go_wp2_with fail
  refine (minus_any _ _ _ _ _).mono ?_
  rintro e w2 ⟨rfl, hb2⟩
  have b2 := below_on b1 hb2
  clear hb2 t1 b1 c1 c2 c3 c4
  go_wp2_with fail
  go_ret
  exact ⟨ret_int (by rw [square_wrap hb ha, squareI_flip]; simp [squareV, ha, hb]), b2.alloc b2.size _⟩
end Go.Proofs.Ytncahchhinfneaa

/-! Steps -/
namespace Go.Proofs.Ytncahchhinfneaa
open Go.RowKit

theorem gcd_le {dx dy : Int} (hx : dx.natAbs ≤ 40) (hy : dy.natAbs ≤ 40) : Nat.gcd dx.natAbs dy.natAbs ≤ 40 := by
  rcases Nat.eq_zero_or_pos dx.natAbs with h | h
  · rw [h, Nat.gcd_zero_left]; exact hy
  · exact Nat.le_trans (Nat.gcd_le_left _ h) hx
def stepsN (ax ay bx by' : Int) : Nat := Nat.gcd (bx - ax).natAbs (by' - ay).natAbs
def stepsV (ax ay bx by' : Int) : Int := bif okP ax ay && okP bx by' then (stepsN ax ay bx by' : Int) else -1
theorem impl_steps (ax ay bx by' : Int) (w : World) :
    Calls Try.prog 201 #[(.agg #[.int .i64 ax, .int .i64 ay]), (.agg #[.int .i64 bx, .int .i64 by'])] w fun e w' => e = .returned (.int .i64 (stepsV ax ay bx by')) ∧ Below w.heap.size w w' := by
  have HP := Lib.hid (pts2 w ax ay bx by')
  go_enter Try.func201, Try.ntmps201
  go_wp2_with fail
  refine (all_any _ _ [(ax, ay), (bx, by')] _ HP.out (by simp) (by simp)).mono ?_
  rintro e w1 ⟨rfl, hb1⟩
  have t1 := ((two0 w ax ay bx by' 30).alloc _).step hb1
  have b1 := below_on (below3 w _ _ _) hb1
  clear hb1 HP
  have HO := Lib.hid (all2 ax ay bx by')
  cases hok : allOk [(ax, ay), (bx, by')]
  · go_wp2_with fail
    go_ret
    exact ⟨ret_int (by rw [stepsV, ← HO.out, hok]; rfl), b1⟩
  have hok2 := HO.out.symm
  rw [hok] at hok2
  simp only [Bool.and_eq_true] at hok2
  obtain ⟨ha, hb⟩ := hok2
  have c1 := t1.1.c0; have c2 := t1.1.c1; have c3 := t1.2.c0; have c4 := t1.2.c1
  go_wp2_with fail
  refine (minus_any _ _ _ _ _).mono ?_
  rintro e w2 ⟨rfl, hb2⟩
  have b2 := below_on b1 hb2
  clear hb2 t1 b1 c1 c2 c3 c4
  have h1 := okP_bounds ha; have h2 := okP_bounds hb
  rw [wrap_id (x := bx - ax) (by omega), wrap_id (x := by' - ay) (by omega)]
  obtain ⟨m, em, hm⟩ := ab (bx - ax)
  obtain ⟨n, en, hn⟩ := ab (by' - ay)
  have HN : Hid (stepsV ax ay bx by' = (Nat.gcd m n : Nat)) := by rw [← em, ← en]; show _ = _; rw [stepsV, ha, hb]; rfl
  have hm1 : m ≤ 1000000 := by omega
  have hn1 : n ≤ 1000000 := by omega
  have hdx : -100 ≤ bx - ax ∧ bx - ax ≤ 100 := by omega
  have hdy : -100 ≤ by' - ay ∧ by' - ay ≤ 100 := by omega
  obtain ⟨dx, hdx0⟩ : ∃ d, d = bx - ax := ⟨_, rfl⟩
  obtain ⟨dy, hdy0⟩ : ∃ d, d = by' - ay := ⟨_, rfl⟩
  rw [← hdx0] at hm hdx ⊢
  rw [← hdy0] at hn hdy ⊢
  clear ha hb h1 h2 em en hok HO hdx0 hdy0
  have HG := Lib.hid (fun w => gcdI_any m n w hm1 hn1)
  rcases hm with ⟨hm, hm'⟩ | ⟨rfl, hm'⟩ | ⟨hm, hm'⟩ <;> rcases hn with ⟨hn, hn'⟩ | ⟨rfl, hn'⟩ | ⟨hn, hn'⟩
  all_goals (
    go_wp2_with fail
    refine (show Calls _ _ _ _ _ from by
      have := HG.out
      try simp only [hm', hn'] at this
      exact this _).mono ?_
    rintro e w3 ⟨rfl, hb3⟩
    have b3 := below_on (b2.alloc b2.size _) hb3
    clear hb3
    go_wp2_with fail
    go_ret
    exact ⟨ret_int HN.out.symm, b3⟩)
end Go.Proofs.Ytncahchhinfneaa

/-! Area -/
namespace Go.Proofs.Ytncahchhinfneaa
open Go.RowKit

/-- The sum of the first k terms. -/
def sumT (f : Nat → Int) : Nat → Int
  | 0 => 0
  | k + 1 => sumT f k + f k
theorem sumT_abs {f : Nat → Int} {m : Nat} (n : Nat) (h : ∀ i, i < n → (f i).natAbs ≤ m) : ∀ k, k ≤ n → (sumT f k).natAbs ≤ k * m
  | 0, _ => by simp [sumT]
  | k + 1, hk => by
    have h1 := sumT_abs n h k (by omega)
    have h2 := h k (by omega)
    simp only [sumT]
    have e : (k + 1) * m = k * m + m := Nat.succ_mul k m
    rw [e]
    generalize k * m = a at *
    omega
def nx (L : List (Int × Int)) (i : Nat) : Nat := (i + 1) % L.length
def twiceT (L : List (Int × Int)) (i : Nat) : Int := (gt L i).1 * (gt L (nx L i)).2 - (gt L i).2 * (gt L (nx L i)).1
def twiceI (L : List (Int × Int)) : Int := sumT (twiceT L) L.length
def rimT (L : List (Int × Int)) (i : Nat) : Int := (stepsN (gt L i).1 (gt L i).2 (gt L (nx L i)).1 (gt L (nx L i)).2 : Int)
def rimI (L : List (Int × Int)) : Int := sumT (rimT L) L.length
theorem polyB_all {L : List (Int × Int)} (h : polyB L = true) : 3 ≤ L.length ∧ L.length ≤ 10 ∧ allOk L = true := by
  simp only [polyB, Bool.and_eq_true, inB_spec] at h
  exact ⟨by omega, by omega, h.1.1.2⟩
end Go.Proofs.Ytncahchhinfneaa

/-! Sides -/
namespace Go.Proofs.Ytncahchhinfneaa
open Go.RowKit Go.Shelf Go.Sort
attribute [local go_sem] Oper.semAt_some

def sideV (L : List (Int × Int)) (i : Nat) : Value := .agg #[.int .i64 (gt L i).1, .int .i64 (gt L i).2, .int .i64 (gt L (nx L i)).1, .int .i64 (gt L (nx L i)).2]

/-- What lay below m and block B lie as they lay. -/
def KeepP (m B : Nat) (W W' : World) : Prop := Below m W W' ∧ W'.heap[B]? = W.heap[B]?
theorem KeepP.refl (m B : Nat) (W : World) : KeepP m B W W := ⟨Below.refl _ _, rfl⟩
theorem keepP_t {m B : Nat} {X Y Z : World} (h : KeepP m B X Y) (k : KeepP m B Y Z) : KeepP m B X Z := ⟨h.1.trans k.1, k.2.trans h.2⟩
theorem keepP_b {m B : Nat} {w : World} (hn : m ≤ w.heap.size) (hB : B < w.heap.size) (W : World) (l : Nat) (o o' : Obj) (hl : w.heap.size ≤ l) (h : W.heap[l]? = some o) (h1 : o.isCells = false) (h2 : o.isWalk = false) : KeepP m B W (W.putObj l o') :=
  ⟨belowK_b hn W l o o' hl h h1 h2, World.putObj_heap_other (by omega)⟩
theorem KeepP.of_below {m B : Nat} {W W' : World} (h : Below W.heap.size W W') (hm : m ≤ W.heap.size) (hB : B < W.heap.size) : KeepP m B W W' := ⟨h.mono hm, h.block B hB⟩
theorem KeepP.setCell {m B : Nat} {W W' : World} (h : KeepP m B W W') {b : Nat} (hm : m ≤ b) (hB : B ≠ b) (o : Nat) (v : Value) : KeepP m B W (W'.setCell ⟨b, o, none⟩ v) :=
  ⟨h.1.setCell (p := ⟨b, o, none⟩) hm v, (Below.heap_setCell W' ⟨b, o, none⟩ v B hB).trans h.2⟩
theorem grown_of_below {W W' : World} (h : Below W.heap.size W W') : W.grownBy W' none := ⟨h.os, h.tape, h.output, h.size, fun k hk _ => h.block k hk⟩
theorem keepsFrom_below {B : Nat} {W W' : World} (h : Below W.heap.size W W') : KeepsFrom B W W' := ⟨h.size, fun k _ _ h0 _ => (h.block k (Array.getElem?_eq_some_iff.1 h0).1).trans h0⟩

theorem cell_same {X Y : World} {B o : Nat} {v : Value} (h : Y.heap[B]? = X.heap[B]?) (hc : X.cell? ⟨B, o, none⟩ = some v) : Y.cell? ⟨B, o, none⟩ = some v := by
  have : Y.cell? ⟨B, o, none⟩ = X.cell? ⟨B, o, none⟩ := by simp only [World.cell?, h]
  rw [this]; exact hc

theorem sides_any (A : Option Addr) (n c : Nat) (w : World) :
    Calls Try.prog 77 #[.slice A n c] w fun e w' => e = .returned (.func (.func 144) #[] #[.pointer (some ⟨w.heap.size, 0, none⟩)]) ∧ w.alloc (.cells #[.slice A n c] 23) = w' := by
  go_enter Try.func77, Try.ntmps77
  go_wp2_with fail
  go_ret
  exact ⟨rfl, rfl⟩

set_option maxRecDepth 100000 in
set_option maxHeartbeats 4000000 in
theorem sides1 (n l Bs : Nat) (A : Option Addr) (c : Nat) (L : List (Int × Int)) (w0 : World) (h1 : 1 ≤ L.length) (h2 : L.length ≤ 1048576) (hA : PtsA w0 A L) (J Jx : List Nat → World → Prop) (W : World) (hJ : AbidesFrom W.heap.size J)
    (hY : ∀ (pre : List Nat) (x : Nat) (W1 : World), J pre W1 → pre.length < L.length → YieldAt Fence.wide (n - 1) Try.prog l #[.int .i64 (x : Int), sideV L x] W1 fun e W' =>
      (e = .returned (.bool true) ∧ J (pre ++ [x]) W' ∧ KeepP w0.heap.size Bs W1 W') ∨ (e = .returned (.bool false) ∧ Jx (pre ++ [x]) W'))
    (hBl : Bs < W.heap.size) (hBs : W.cell? ⟨Bs, 0, none⟩ = some (.slice A L.length c)) (hW : Below w0.heap.size w0 W) (h0 : J [] W) :
    CallsIn Fence.wide n Try.prog 144 #[.func (.yield l) #[] #[], .pointer (some ⟨Bs, 0, none⟩)] W fun e W' => (∃ v, e = .returned v) ∧
      ((∃ ys, ys = List.range L.length ∧ J ys W') ∨ (∃ pre, (∃ k, k ≤ L.length ∧ pre = List.range k) ∧ Jx pre W')) := by
  obtain ⟨g, rfl, -⟩ := hA 0 h1
  have HA := Lib.hid hA; clear hA
  refine callsIn_of_wp Try.func144 rfl trivial ?_ rfl
  simp only [Try.ntmps144, List.size_toArray, List.length_cons, List.length_nil, Nat.reduceAdd, Nat.reduceSub, Array.replicate_succ, Array.replicate_zero, List.push_toArray, List.append_toArray, List.nil_append, List.cons_append]
  gi_wp2
  gi_loopw [7] (fun i wr => ∃ k : Nat, k ≤ L.length ∧ i = .int .i64 k ∧ J (List.range k) wr ∧ KeepP w0.heap.size Bs W wr)
    (fun i _ => L.length - (intOf i).toNat)
  case atStart => exact ⟨0, Nat.zero_le _, rfl, h0, KeepP.refl _ _ _⟩
  case round =>
    obtain ⟨k, hk, rfl, hJs, hnx⟩ := hrel
    have hsz : W.heap.size ≤ wr.heap.size := hnx.1.size
    have hbox : wr.cell? ⟨Bs, 0, none⟩ = some (.slice (some ⟨g, 0, none⟩) L.length c) := cell_same hnx.2 hBs
    by_cases hlt : k < L.length
    · obtain ⟨c1, c2⟩ := gt_cells (ptsA_on HA.out (hW.trans hnx.1)) hlt
      obtain ⟨m, hm⟩ : ∃ m, m = nx L k := ⟨_, rfl⟩
      have hml : m < L.length := by rw [hm]; exact (next_int (i := k) h1).2
      have e2 : ((k : Int) + 1) % (L.length : Int) = (m : Int) := by rw [hm]; unfold nx; exact (Int.natCast_emod (k + 1) L.length).symm
      obtain ⟨d1, d2⟩ := gt_cells (ptsA_on HA.out (hW.trans hnx.1)) hml
      obtain ⟨x, hx⟩ : ∃ x, x = (gt L k).1 := ⟨_, rfl⟩
      obtain ⟨y, hy⟩ : ∃ y, y = (gt L k).2 := ⟨_, rfl⟩
      obtain ⟨x', hx'⟩ : ∃ x', x' = (gt L m).1 := ⟨_, rfl⟩
      obtain ⟨y', hy'⟩ : ∃ y', y' = (gt L m).2 := ⟨_, rfl⟩
      rw [← hx] at c1; rw [← hy] at c2; rw [← hx'] at d1; rw [← hy'] at d2
      have HV : Hid (sideV L k = .agg #[.int .i64 x, .int .i64 y, .int .i64 x', .int .i64 y']) := by
        show _ = _
        rw [hx, hy, hx', hy', hm]; rfl
      clear hx hy hx' hy' hm
      have hb0 := below1 wr (.cells #[.int .i64 x, .int .i64 y] 30)
      have A0 := at_new wr x y 30
      have k1 := cell_regrown A0.c0
      have k2 := cell_regrown A0.c1
      have k3 := cell_regrown (cell_on hb0 rfl d1)
      have k4 := cell_regrown (cell_on hb0 rfl d2)
      have k5 := cell_regrown (cell_on hb0 rfl hbox)
      have hJ1 : J (List.range k) (wr.alloc (.cells #[.int .i64 x, .int .i64 y] 30)) := hJ _ _ _ none hJs (grown_of_below hb0) (fun r e => by cases e)
      gi_wp2
      refine region_tail_in 12 wide0 (by kernel_rfl) (by kernel_rfl) (by kernel_rfl) ?_
      simp only [List.take_succ_cons, List.take_zero, List.drop_succ_cons, List.drop_zero]
      repeat (first
        | go_big_quiet_step (fail)
        | quiet_step (fail))
      refine wpQuiet_nil ?_
      rintro _ ⟨⟨dq, osq⟩, rfl⟩
      have hb1 := hb0.trans ((below_regrown _ dq osq).mono (by simp))
      have hJ2 : J (List.range k) (grow (redrawn (wr.alloc (.cells #[.int .i64 x, .int .i64 y] 30)) dq) osq) := hJ _ _ _ none hJs (grown_of_below hb1) (fun r e => by cases e)
      clear k1 k2 k3 k4 k5 c1 c2 d1 d2 hJ1 A0
      generalize grow (redrawn (wr.alloc (.cells #[.int .i64 x, .int .i64 y] 30)) dq) osq = w2 at *
      obtain ⟨fn, tmps, assign, body, hy, hR⟩ := hY _ k w2 hJ2 (by rw [List.length_range]; exact hlt)
      rw [HV.out] at hy
      gi_wp2
      refine ⟨fun e => (by cases e), hR.mono ?_⟩
      have hk2 : KeepP w0.heap.size Bs W w2 := keepP_t hnx (KeepP.of_below hb1 (Nat.le_trans hW.size hsz) (by omega))
      rintro e W3 (⟨rfl, hJ3, hk3⟩ | ⟨rfl, hJx3⟩)
      · gi_wp2
        go_roundw
        case rel => exact ⟨k + 1, by omega, by go_num, by rw [List.range_succ]; exact hJ3, keepP_t hk2 hk3⟩
        case measure => simp [intOf]; omega
      · gi_wp2
        refine bodyPost_ret (results_none rfl _ _ _) rfl ?_
        exact ⟨⟨_, rfl⟩, .inr ⟨_, ⟨k + 1, by omega, List.range_succ.symm⟩, hJx3⟩⟩
    · obtain rfl : k = L.length := by omega
      gi_wp2
      go_end0
      exact ⟨⟨_, rfl⟩, .inl ⟨_, rfl, hJs⟩⟩

/-- **The iterator of the sides.** -/
theorem sides_stops (n Bs : Nat) (A : Option Addr) (c : Nat) (L : List (Int × Int)) (w0 w : World) (h1 : 1 ≤ L.length) (h2 : L.length ≤ 1048576) (hA : PtsA w0 A L) (hB : Below w0.heap.size w0 w) (hBl : Bs < w.heap.size) (hBs : w.cell? ⟨Bs, 0, none⟩ = some (.slice A L.length c)) :
    SeqStopsK Fence.wide n Try.prog 144 #[.pointer (some ⟨Bs, 0, none⟩)] (fun i : Nat => #[.int .i64 (i : Int), sideV L i]) (KeepP w0.heap.size Bs) (fun ys => ys = List.range L.length) (fun pre => ∃ k, k ≤ L.length ∧ pre = List.range k) L.length w := fun l J Jx W hW hJ _ hY h0 =>
  sides1 n l Bs A c L w0 h1 h2 hA J Jx W hJ hY (Nat.lt_of_lt_of_le hBl hW.size) ((hW.cell (p := ⟨Bs, 0, none⟩) hBl).trans hBs) (hB.trans (hW.mono hB.size)) h0
/-- Block g holds a side. -/
def SideAt (W : World) (g : Nat) (L : List (Int × Int)) (i : Nat) : Prop := W.heap[g]? = some (.cells #[.int .i64 (gt L i).1, .int .i64 (gt L i).2, .int .i64 (gt L (nx L i)).1, .int .i64 (gt L (nx L i)).2] 81 (0, 0))
theorem sideAt_new (W : World) (L : List (Int × Int)) (i : Nat) : SideAt (W.alloc (.cells #[.int .i64 (gt L i).1, .int .i64 (gt L i).2, .int .i64 (gt L (nx L i)).1, .int .i64 (gt L (nx L i)).2] 81)) W.heap.size L i := heap_alloc_new W _
theorem SideAt.lt {W : World} {g : Nat} {L : List (Int × Int)} {i : Nat} (h : SideAt W g L i) : g < W.heap.size := (Array.getElem?_eq_some_iff.1 h).1
theorem sideAt_own (g : Nat) (L : List (Int × Int)) (i B : Nat) : OwnFrom B (fun (_ : Unit) W => SideAt W g L i) := fun _ X Y row hs hg hr =>
  (hg.block g hs.lt (fun e => by
    obtain ⟨_, o, ho, hc⟩ := hr g e.symm
    rw [show X.heap[g]? = _ from hs] at ho
    cases ho; cases hc)).trans hs
theorem SideAt.cells {W : World} {g : Nat} {L : List (Int × Int)} {i : Nat} (h : SideAt W g L i) :
    W.cell? ⟨g, 0, none⟩ = some (.int .i64 (gt L i).1) ∧ W.cell? ⟨g, 1, none⟩ = some (.int .i64 (gt L i).2) ∧ W.cell? ⟨g, 2, none⟩ = some (.int .i64 (gt L (nx L i)).1) ∧ W.cell? ⟨g, 3, none⟩ = some (.int .i64 (gt L (nx L i)).2) :=
  ⟨cell_of_row W g 0 _ _ _ h, cell_of_row W g 1 _ _ _ h, cell_of_row W g 2 _ _ _ h, cell_of_row W g 3 _ _ _ h⟩

theorem boxed_on {W W' : World} {B : Nat} {t : TypeId} {v : Value} (h : Boxed W B t v) (hb : Below W.heap.size W W') : Boxed W' B t v := (hb.block B h.lt).trans h

theorem gt_ok {L : List (Int × Int)} (h : allOk L = true) (i : Nat) : okP (gt L i).1 (gt L i).2 = true := by
  by_cases hi : i < L.length
  · exact all_at h hi
  · have : gt L i = (0, 0) := by simp [gt, List.getElem?_eq_none (Nat.le_of_not_lt hi)]
    rw [this]; rfl
end Go.Proofs.Ytncahchhinfneaa

/-! Ends -/
namespace Go.Proofs.Ytncahchhinfneaa
open Go.RowKit

def tillE (a b c d : Int × Int) (k : Nat) : List (Int × Int) := ([a, b, c, d].take k).foldl (addE a b c d) []
theorem tillE_step {a b c d p : Int × Int} {k : Nat} (h : [a, b, c, d][k]? = some p) : tillE a b c d (k + 1) = addE a b c d (tillE a b c d k) p := by
  have hk : k < [a, b, c, d].length := (List.getElem?_eq_some_iff.1 h).1
  have hp : [a, b, c, d][k] = p := (List.getElem?_eq_some_iff.1 h).2
  rw [tillE, List.take_succ_eq_append_getElem hk, List.foldl_append, hp]; rfl
theorem idx4 (ax ay bx by' cx cy dx dy x y : Int) : ∀ (k : Nat) (_ : [(ax, ay), (bx, by'), (cx, cy), (dx, dy)][k]? = some (x, y)) (w : World),
    (Instr.index 126 (.agg #[.int .i64 ax, .int .i64 ay, .int .i64 bx, .int .i64 by', .int .i64 cx, .int .i64 cy, .int .i64 dx, .int .i64 dy]) (.int .i64 (k : Int))).run Try.prog w = .ok (.agg #[.int .i64 x, .int .i64 y]) w
  | 0, h, w => by
    obtain ⟨rfl, rfl⟩ : ax = x ∧ ay = y := by simpa using h
    simp [go_sem, Instr.index]
  | 1, h, w => by
    obtain ⟨rfl, rfl⟩ : bx = x ∧ by' = y := by simpa using h
    simp [go_sem, Instr.index]
  | 2, h, w => by
    obtain ⟨rfl, rfl⟩ : cx = x ∧ cy = y := by simpa using h
    simp [go_sem, Instr.index]
  | 3, h, w => by
    obtain ⟨rfl, rfl⟩ : dx = x ∧ dy = y := by simpa using h
    simp [go_sem, Instr.index]
  | k + 4, h, w => by simp at h
theorem tillE_len (a b c d : Int × Int) (k : Nat) : (tillE a b c d k).length ≤ 4 := by
  have : ∀ (l : List (Int × Int)) E, (l.foldl (addE a b c d) E).length ≤ E.length + l.length := by
    intro l
    induction l with
    | nil => intro E; simp
    | cons p l ih =>
      intro E
      have h1 := ih (addE a b c d E p)
      have h2 : (addE a b c d E p).length ≤ E.length + 1 := by
        unfold addE
        cases onP a b p && onP c d p && !(hasP E p.1 p.2) <;> simp
      simp only [List.foldl_cons, List.length_cons]
      omega
  have h := this ([a, b, c, d].take k) []
  have h2 : ([a, b, c, d].take k).length ≤ 4 := by rw [List.length_take]; simp; omega
  unfold tillE
  simp only [List.length_nil] at h
  omega
theorem onV_on {ax ay bx by' px py : Int} (ha : okP ax ay = true) (hb : okP bx by' = true) (hp : okP px py = true) : onV ax ay bx by' px py = onP (ax, ay) (bx, by') (px, py) := by
  rw [onV, ha, hb, hp]; rfl
set_option maxHeartbeats 4000000 in
set_option maxRecDepth 100000 in
theorem count_any (ax ay bx by' cx cy dx dy : Int) (w : World) (ha : okP ax ay = true) (hb : okP bx by' = true) (hc : okP cx cy = true) (hd : okP dx dy = true) :
    Calls Try.prog 227 #[(.agg #[.int .i64 ax, .int .i64 ay]), (.agg #[.int .i64 bx, .int .i64 by']), (.agg #[.int .i64 cx, .int .i64 cy]), (.agg #[.int .i64 dx, .int .i64 dy])] w fun e w' => e = .returned (.int .i64 (endsE (ax, ay) (bx, by') (cx, cy) (dx, dy)).length) ∧ Below w.heap.size w w' := by
  have t0 := four0 w ax ay bx by' cx cy dx dy 30
  have b0 := below4 w (.cells #[.int .i64 ax, .int .i64 ay] 30) (.cells #[.int .i64 bx, .int .i64 by'] 30) (.cells #[.int .i64 cx, .int .i64 cy] 30) (.cells #[.int .i64 dx, .int .i64 dy] 30)
  obtain ⟨i0, hi0, hz0, hz1, hz2⟩ := info_parts infoPt
  go_enter Try.func227, Try.ntmps227
  go_wp2_with fail
  generalize (((w.alloc (.cells #[.int .i64 ax, .int .i64 ay] 30)).alloc (.cells #[.int .i64 bx, .int .i64 by'] 30)).alloc (.cells #[.int .i64 cx, .int .i64 cy] 30)).alloc (.cells #[.int .i64 dx, .int .i64 dy] 30) = w1 at *
  have HT := Lib.hid t0; have HB := Lib.hid b0
  clear t0 b0
  go_loopw [9, 11, 17] (fun s _ i wr => ∃ k : Nat, k ≤ 4 ∧ i = .int .i64 k ∧ wr.ownsRow (w.heap.size + 1 + 1 + 1 + 1) 30 2 s (tillE (ax, ay) (bx, by') (cx, cy) (dx, dy) k).length (flat (tillE (ax, ay) (bx, by') (cx, cy) (dx, dy) k)) ∧
      Four wr w.heap.size ax ay bx by' cx cy dx dy 30 ∧ Below w.heap.size w wr) (fun _ _ i _ => 4 - (intOf i).toNat)
  case atStart => exact ⟨0, by omega, rfl, World.ownsRow_nil _ _ _ _, HT.out, HB.out⟩
  case round =>
    obtain ⟨wo, rfl⟩ : ∃ wo : World, wo = wr := ⟨_, rfl⟩
    obtain ⟨k, hk, rfl, hown, t1, b1⟩ := hrel
    by_cases hlt : k < 4
    · obtain ⟨x, y, hxy⟩ : ∃ x y, [(ax, ay), (bx, by'), (cx, cy), (dx, dy)][k]? = some (x, y) := ⟨_, _, List.getElem?_eq_getElem (by simpa using hlt)⟩
      have hok : okP x y = true := by
        have := List.mem_of_getElem? hxy
        simp only [List.mem_cons, Prod.mk.injEq, List.not_mem_nil, or_false] at this
        rcases this with ⟨rfl, rfl⟩ | ⟨rfl, rfl⟩ | ⟨rfl, rfl⟩ | ⟨rfl, rfl⟩ <;> assumption
      have hs := tillE_step hxy
      have hidx := fun w => idx4 ax ay bx by' cx cy dx dy x y k hxy w
      have V1 := Lib.hid (onV_on ha hb hok); have V2 := Lib.hid (onV_on hc hd hok)
      have HS := Lib.hid hs
      have hE4 := tillE_len (ax, ay) (bx, by') (cx, cy) (dx, dy) k
      generalize tillE (ax, ay) (bx, by') (cx, cy) (dx, dy) k = E at *
      clear hxy hs hok
      have u1 := t1.alloc (.cells #[.int .i64 x, .int .i64 y] 30)
      have n1 := at_new wo x y 30
      have c1 := u1.1.c0; have c2 := u1.1.c1; have c3 := u1.2.1.c0; have c4 := u1.2.1.c1
      obtain ⟨_, A, cp, rfl, _⟩ := own_pts hown
      go_wp2_with fail
      refine (impl_on _ _ _ _ _ _ _).mono ?_
      rintro e w2 ⟨rfl, hb2⟩
      have t2 := u1.step hb2
      have n2 := n1.step hb2
      have b2 := below_on (b1.alloc b1.size _) hb2
      have own2 := own_below (hown.alloc _) hb2
      clear u1 n1 t1 b1 hown hb2 c1 c2 c3 c4 hidx
      rw [V1.out]
      cases ho1 : onP (ax, ay) (bx, by') (x, y)
      · have HE : Hid (tillE (ax, ay) (bx, by') (cx, cy) (dx, dy) (k + 1) = E) := by
          show _ = _
          rw [HS.out, addE, ho1]; rfl
        have R := Lib.hid (And.intro own2 (And.intro t2 b2))
        clear own2 t2 b2 n2
        go_wp2_with fail
        go_roundw
        case rel => exact ⟨k + 1, by omega, by go_num, by rw [HE.out]; exact R.out.1, R.out.2.1, R.out.2.2⟩
        case measure => simp [intOf]; omega
      have c1 := t2.2.2.1.c0; have c2 := t2.2.2.1.c1; have c3 := t2.2.2.2.c0; have c4 := t2.2.2.2.c1; have c5 := n2.c0; have c6 := n2.c1
      go_wp2_with fail
      refine (impl_on _ _ _ _ _ _ _).mono ?_
      rintro e w3 ⟨rfl, hb3⟩
      have t3 := t2.step hb3
      have n3 := n2.step hb3
      have b3 := below_on b2 hb3
      have own3 := own_below own2 hb3
      clear t2 n2 b2 own2 hb3 c1 c2 c3 c4 c5 c6
      rw [V2.out]
      cases ho2 : onP (cx, cy) (dx, dy) (x, y)
      · have HE : Hid (tillE (ax, ay) (bx, by') (cx, cy) (dx, dy) (k + 1) = E) := by
          show _ = _
          rw [HS.out, addE, ho1, ho2]; rfl
        have R := Lib.hid (And.intro own3 (And.intro t3 b3))
        clear own3 t3 b3 n3
        go_wp2_with fail
        go_roundw
        case rel => exact ⟨k + 1, by omega, by go_num, by rw [HE.out]; exact R.out.1, R.out.2.1, R.out.2.2⟩
        case measure => simp [intOf]; omega
      have c5 := n3.c0; have c6 := n3.c1
      have HH := Lib.hid (has_any A cp E x y w3 (ptsA_of own3) (by omega))
      go_wp2_with fail
      refine HH.out.mono ?_
      rintro e w4 ⟨rfl, hb4⟩
      have t4 := t3.step hb4
      have n4 := n3.step hb4
      have b4 := below_on b3 hb4
      have own4 := own_below own3 hb4
      clear t3 n3 b3 own3 hb4 c5 c6 HH
      cases ho3 : hasP E x y
      · have HE : Hid (tillE (ax, ay) (bx, by') (cx, cy) (dx, dy) (k + 1) = E ++ [(x, y)]) := by
          show _ = _
          rw [HS.out, addE, ho1, ho2]
          show (bif true && true && !(hasP E x y) then _ else _) = _
          rw [ho3]; rfl
        have c5 := n4.c0; have c6 := n4.c1
        have hB := t4.2.2.2.lt
        go_wp2_with (at_builtin; refine wpList_append_own _ rfl _ _ 23 rfl (w.heap.size + 1 + 1 + 1 + 1) 30 i0 (.agg #[.int .i64 0, .int .i64 0]) 2 16 Try.underlying23 hi0 hz0 hz1 hz2 rfl (by decide) _ _ _ rfl (own4.alloc _) ⟨w4.heap.size, 0, none⟩ 1 1 [.int .i64 x, .int .i64 y] rfl rfl ?d1 ?d2 ?d3 ?d4 ?d5 ?_)
        case d1 => exact World.news_of_block (cs := #[.int .i64 x, .int .i64 y]) (t := 30) (fr := (0, 0)) (heap_alloc_new w4 _)
        case d2 => simp [Value.oneCell']
        case d3 => unfold maxLen; omega
        case d4 => omega
        case d5 => simp; omega
        intro v' w5 own5 hgrow _
        have hr := fun k hk => (own4.lt k hk).1
        have R : Hid (w5.ownsRow (w.heap.size + 1 + 1 + 1 + 1) 30 2 v' (E ++ [(x, y)]).length (flat (E ++ [(x, y)])) ∧ Four w5 w.heap.size ax ay bx by' cx cy dx dy 30 ∧ Below w.heap.size w w5) :=
          ⟨by rw [flat_append, List.length_append]; exact own5, (t4.alloc _).grown hgrow hr, (b4.alloc b4.size _).grown hgrow (by have := b4.size; simp; omega) (fun q hq => by have := hr q hq; omega)⟩
        clear own4 own5 hgrow t4 b4 n4 c5 c6
        go_wp2_with fail
        exact ⟨⟨k + 1, by omega, by go_num, by rw [HE.out]; exact R.out.1, R.out.2.1, R.out.2.2⟩, by simp [intOf]; omega⟩
      · have HE : Hid (tillE (ax, ay) (bx, by') (cx, cy) (dx, dy) (k + 1) = E) := by
          show _ = _
          rw [HS.out, addE, ho1, ho2]
          show (bif true && true && !(hasP E x y) then _ else _) = _
          rw [ho3]; rfl
        have R := Lib.hid (And.intro own4 (And.intro t4 b4))
        clear own4 t4 b4 n4
        go_wp2_with fail
        go_roundw
        case rel => exact ⟨k + 1, by omega, by go_num, by rw [HE.out]; exact R.out.1, R.out.2.1, R.out.2.2⟩
        case measure => simp [intOf]; omega
    · obtain rfl : k = 4 := by omega
      obtain ⟨_, A, c, rfl, _⟩ := own_pts hown
      go_wp2_with fail
      go_ret
      exact ⟨rfl, b1⟩
theorem crossV_on {ax ay bx by' px py : Int} (ha : okP ax ay = true) (hb : okP bx by' = true) (hp : okP px py = true) : crossV ax ay bx by' px py = crossP (ax, ay) (bx, by') (px, py) := by
  rw [crossV, ha, hb, hp]; rfl
set_option maxRecDepth 100000 in
set_option maxHeartbeats 1000000 in
theorem parts_any (ax ay bx by' cx cy dx dy : Int) (w : World) (ha : okP ax ay = true) (hb : okP bx by' = true) (hc : okP cx cy = true) (hd : okP dx dy = true) :
    Calls Try.prog 228 #[(.agg #[.int .i64 ax, .int .i64 ay]), (.agg #[.int .i64 bx, .int .i64 by']), (.agg #[.int .i64 cx, .int .i64 cy]), (.agg #[.int .i64 dx, .int .i64 dy])] w fun e w' => e = .returned (.bool (opp (ax, ay) (bx, by') (cx, cy) (dx, dy))) ∧ Below w.heap.size w w' := by
  have m1 := sgn_abs (crossV ax ay bx by' cx cy)
  have m2 := sgn_abs (crossV ax ay bx by' dx dy)
  have HO : Hid (opp (ax, ay) (bx, by') (cx, cy) (dx, dy) = decide (sgn (crossV ax ay bx by' cx cy) * sgn (crossV ax ay bx by' dx dy) < 0)) := by
    show _ = _
    rw [crossV_on ha hb hc, crossV_on ha hb hd]; rfl
  have hm := abs_mul m1 m2
  obtain ⟨m, em⟩ : ∃ m, m = sgn (crossV ax ay bx by' cx cy) * sgn (crossV ax ay bx by' dx dy) := ⟨_, rfl⟩
  rw [← em] at hm HO
  have e1 : sgn (crossV ax ay bx by' cx cy) * sgn (crossV ax ay bx by' dx dy) = m := em.symm
  have e2 : IntKind.i64.wrap m = m := IntWalk.i64_in _ (by omega)
  have e3 : wrap64 m = m := wrap_id (by omega)
  clear m1 m2 hm em ha hb hc hd
  go_enter Try.func228, Try.ntmps228
  go_wp2_with fail
  obtain ⟨w1, t1, b1, h1⟩ : ∃ w1, Four w1 w.heap.size ax ay bx by' cx cy dx dy 30 ∧ Below w.heap.size w w1 ∧ w1 = _ := ⟨_, four0 w ax ay bx by' cx cy dx dy 30, below4 w _ _ _ _, rfl⟩
  rw [← h1]
  clear h1
  have c1 := t1.1.c0; have c2 := t1.1.c1; have c3 := t1.2.1.c0; have c4 := t1.2.1.c1; have c5 := t1.2.2.1.c0; have c6 := t1.2.2.1.c1; have c7 := t1.2.2.2.c0; have c8 := t1.2.2.2.c1
  have k1 := cell_regrown c1; have k2 := cell_regrown c2; have k3 := cell_regrown c3; have k4 := cell_regrown c4; have k5 := cell_regrown c5; have k6 := cell_regrown c6; have k7 := cell_regrown c7; have k8 := cell_regrown c8
  refine wp_region_quiet_below (by kernel_rfl) (by kernel_rfl) ?_
  repeat (first
    | go_big_quiet_step (first | exact Calls.regrown_of (impl_side _ _ _ _ _ _ _))
    | quiet_step (first | exact Calls.regrown_of (impl_side _ _ _ _ _ _ _)))
  refine wpQuiet_nil ?_
  rintro _ ⟨⟨dq, osq⟩, rfl⟩
  have b2 := b1.trans ((below_regrown w1 dq osq).mono b1.size)
  clear k1 k2 k3 k4 k5 k6 k7 k8 c1 c2 c3 c4 c5 c6 c7 c8 t1 b1
  go_wp2_with fail
  go_ret
  exact ⟨ret_bool (by rw [HO.out]), b2⟩
theorem okQ_pair (x y : Int) : okQ (x, y) = okP x y := rfl
set_option maxRecDepth 100000 in
set_option maxHeartbeats 4000000 in
theorem impl_meet (ax ay bx by' cx cy dx dy : Int) (w : World) :
    Calls Try.prog 195 #[(.agg #[.int .i64 ax, .int .i64 ay]), (.agg #[.int .i64 bx, .int .i64 by']), (.agg #[.int .i64 cx, .int .i64 cy]), (.agg #[.int .i64 dx, .int .i64 dy])] w fun e w' => e = .returned (.int .i64 (meetV (ax, ay) (bx, by') (cx, cy) (dx, dy))) ∧ Below w.heap.size w w' := by
  have HP := Lib.hid (pts4 w ax ay bx by' cx cy dx dy)
  have GP := guard_pt
  have EP := fun w x y x' y' => eql_pt w x y x' y'
  go_enter Try.func195, Try.ntmps195
  go_wp2_with fail
  refine (all_any _ _ [(ax, ay), (bx, by'), (cx, cy), (dx, dy)] _ HP.out (by simp) (by simp)).mono ?_
  rintro e w1 ⟨rfl, hb1⟩
  have t1 := ((four0 w ax ay bx by' cx cy dx dy 30).alloc _).step hb1
  have b1 := below_on ((below4 w _ _ _ _).alloc (by simp; omega) _) hb1
  clear hb1 HP
  have HO := Lib.hid (all4 ax ay bx by' cx cy dx dy)
  cases hok : allOk [(ax, ay), (bx, by'), (cx, cy), (dx, dy)]
  · go_wp2_with fail
    go_ret
    exact ⟨ret_int (by simp only [meetV, okQ_pair]; rw [← HO.out, hok]; rfl), b1⟩
  have hok2 := HO.out.symm
  rw [hok] at hok2
  simp only [Bool.and_eq_true] at hok2
  obtain ⟨⟨⟨ha, hb⟩, hc⟩, hd⟩ := hok2
  have c1 := t1.1.c0; have c2 := t1.1.c1; have c3 := t1.2.1.c0; have c4 := t1.2.1.c1; have c5 := t1.2.2.1.c0; have c6 := t1.2.2.1.c1; have c7 := t1.2.2.2.c0; have c8 := t1.2.2.2.c1
  cases hab : (ax == bx && ay == by')
  case true =>
    go_wp2_with fail
    go_ret
    exact ⟨ret_int (by simp only [meetV, okQ_pair, eqQ]; rw [← HO.out, hok, hab]; rfl), b1⟩
  cases hcd : (cx == dx && cy == dy)
  case true =>
    go_wp2_with fail
    go_ret
    exact ⟨ret_int (by simp only [meetV, okQ_pair, eqQ]; rw [← HO.out, hok, hab, hcd]; rfl), b1⟩
  have HM : Hid (meetV (ax, ay) (bx, by') (cx, cy) (dx, dy) = meetI (ax, ay) (bx, by') (cx, cy) (dx, dy)) := by
    show _ = _
    simp only [meetV, okQ_pair, eqQ]; rw [← HO.out, hok, hab, hcd]; rfl
  have HC := Lib.hid (fun w => count_any ax ay bx by' cx cy dx dy w ha hb hc hd)
  have H1 := Lib.hid (fun w => parts_any ax ay bx by' cx cy dx dy w ha hb hc hd)
  have H2 := Lib.hid (fun w => parts_any cx cy dx dy ax ay bx by' w hc hd ha hb)
  clear ha hb hc hd
  go_wp2_with fail
  refine (HC.out _).mono ?_
  rintro e w2 ⟨rfl, hb2⟩
  have t2 := t1.step hb2
  have b2 := below_on b1 hb2
  clear hb2 t1 b1 c1 c2 c3 c4 c5 c6 c7 c8 hok hab hcd HO
  have hz := fun h => ends_zero (a := (ax, ay)) (b := (bx, by')) (c := (cx, cy)) (d := (dx, dy)) h
  have hs := fun h => ends_some (a := (ax, ay)) (b := (bx, by')) (c := (cx, cy)) (d := (dx, dy)) h
  generalize (endsE (ax, ay) (bx, by') (cx, cy) (dx, dy)).length = m at *
  have HZ := Lib.hid hz; have HS := Lib.hid hs
  clear hz hs
  rcases Nat.lt_or_ge m 1 with hm | hm
  · obtain rfl : m = 0 := by omega
    have HV := Lib.hid (HZ.out rfl)
    have c1 := t2.1.c0; have c2 := t2.1.c1; have c3 := t2.2.1.c0; have c4 := t2.2.1.c1; have c5 := t2.2.2.1.c0; have c6 := t2.2.2.1.c1; have c7 := t2.2.2.2.c0; have c8 := t2.2.2.2.c1
    clear hm
    go_wp2_with fail
    refine (H1.out _).mono ?_
    rintro e w3 ⟨rfl, hb3⟩
    have t3 := t2.step hb3
    have b3 := below_on b2 hb3
    clear hb3 t2 b2 c1 c2 c3 c4 c5 c6 c7 c8
    cases ho : opp (ax, ay) (bx, by') (cx, cy) (dx, dy)
    · go_wp2_with fail
      go_ret
      exact ⟨ret_int (by rw [HM.out, HV.out, ho]; rfl), b3⟩
    have c1 := t3.1.c0; have c2 := t3.1.c1; have c3 := t3.2.1.c0; have c4 := t3.2.1.c1; have c5 := t3.2.2.1.c0; have c6 := t3.2.2.1.c1; have c7 := t3.2.2.2.c0; have c8 := t3.2.2.2.c1
    go_wp2_with fail
    refine (H2.out _).mono ?_
    rintro e w4 ⟨rfl, hb4⟩
    have b4 := below_on b3 hb4
    clear hb4 t3 b3 c1 c2 c3 c4 c5 c6 c7 c8
    cases ho2 : opp (cx, cy) (dx, dy) (ax, ay) (bx, by')
    · go_wp2_with fail
      go_ret
      exact ⟨ret_int (by rw [HM.out, HV.out, ho, ho2]; rfl), b4⟩
    · go_wp2_with fail
      go_ret
      exact ⟨ret_int (by rw [HM.out, HV.out, ho, ho2]; rfl), b4⟩
  · have HV := Lib.hid (HS.out hm)
    by_cases h1 : m = 1
    · subst h1
      clear hm
      go_wp2_with fail
      go_ret
      exact ⟨ret_int (by rw [HM.out, HV.out]; rfl), b2⟩
    · have e0 : ((m : Int) == 0) = false := by simp; omega
      have e1 : ((m : Int) == 1) = false := by simp; omega
      have HV2 : Hid (meetI (ax, ay) (bx, by') (cx, cy) (dx, dy) = 3) := by
        show _ = _
        rw [HV.out, if_neg h1]
      clear hm h1
      go_wp2_with fail
      go_ret
      exact ⟨ret_int (by rw [HM.out, HV2.out]), b2⟩
end Go.Proofs.Ytncahchhinfneaa
