/-
  What can be reached: sets of cells, their parts, and both ways to find one (by growth, and by taking cells one after another).
-/
import Derived.Test.YtimkknljoeiceaaBitN
namespace Go.Proofs.Ytimkknljoeiceaa
open Go.RowKit

/-- What can be reached from i within F by steps of A. -/
inductive Rc (A : Nat → Nat → Prop) (F : Nat → Bool) (i : Nat) : Nat → Prop where
  | here : F i = true → Rc A F i i
  | step {j k : Nat} : Rc A F i j → A j k → F k = true → Rc A F i k
section
variable {A : Nat → Nat → Prop} {F G : Nat → Bool} {i j k : Nat}
theorem Rc.mem (h : Rc A F i j) : F j = true := by
  cases h <;> assumption
theorem Rc.start (h : Rc A F i j) : F i = true := by
  induction h with
  | here h => exact h
  | step _ _ _ ih => exact ih
theorem Rc.trans (h : Rc A F i j) (h2 : Rc A F j k) : Rc A F i k := by
  induction h2 with
  | here _ => exact h
  | step _ a f ih => exact .step ih a f
theorem Rc.symm (hA : ∀ a b, A a b → A b a) (h : Rc A F i j) : Rc A F j i := by
  induction h with
  | here h => exact .here h
  | @step j k h1 a f ih => exact Rc.trans (.step (.here f) (hA _ _ a) h1.mem) ih
theorem Rc.mono (hFG : ∀ j, F j = true → G j = true) (h : Rc A F i j) : Rc A G i j := by
  induction h with
  | here h => exact .here (hFG _ h)
  | step _ a f ih => exact .step ih a (hFG _ f)
/-- A closed set that holds the start holds all that can be reached. -/
theorem Rc.closed {S : Nat → Bool} (h0 : S i = true) (hc : ∀ a b, S a = true → A a b → F b = true → S b = true) (h : Rc A F i j) : S j = true := by
  induction h with
  | here _ => exact h0
  | step _ a f ih => exact hc _ _ ih a f
/-- Once a set with no way out is gone, what can be reached from elsewhere stays. -/
theorem Rc.without {S : Nat → Bool} (hA : ∀ a b, A a b → A b a) (hc : ∀ a b, S a = true → A a b → F b = true → S b = true) (hi : S i = false) (h : Rc A F i j) : Rc A (fun j => F j && !S j) i j := by
  induction h with
  | here h => exact .here (by simp [h, hi])
  | @step j k h1 a f ih =>
    refine .step ih a ?_
    have hj := ih.mem
    simp only [Bool.and_eq_true, Bool.not_eq_true'] at hj ⊢
    refine ⟨f, ?_⟩
    cases hk : S k
    · rfl
    · rw [hc k j hk (hA _ _ a) hj.1] at hj; exact absurd hj.2 (by simp)
end

/-- The mask p is the part of i in F. -/
def PartOf (A : Nat → Nat → Prop) (F : Nat → Bool) (i p : Nat) : Prop := ∀ j, p.testBit j = true ↔ Rc A F i j
theorem PartOf.uniq {A : Nat → Nat → Prop} {F : Nat → Bool} {i p q : Nat} (h : PartOf A F i p) (h2 : PartOf A F i q) : p = q := by
  apply Nat.eq_of_testBit_eq
  intro j
  rw [Bool.eq_iff_iff, h j, h2 j]
theorem PartOf.sub {A : Nat → Nat → Prop} {m i p : Nat} (h : PartOf A m.testBit i p) : SubM p m := fun j hj => ((h j).1 hj).mem

/-- The list of the parts of a mask, by their least cells. -/
inductive PartsR (A : Nat → Nat → Prop) : Nat → List Nat → Prop where
  | none : PartsR A 0 []
  | more {m k p : Nat} {L : List Nat} : m.testBit k = true → (∀ j, j < k → m.testBit j = false) → PartOf A m.testBit k p → PartsR A (m - p) L → PartsR A m (p :: L)
theorem least_uniq {m k k' : Nat} (h : m.testBit k = true) (hl : ∀ j, j < k → m.testBit j = false) (h' : m.testBit k' = true) (hl' : ∀ j, j < k' → m.testBit j = false) : k = k' := by
  rcases Nat.lt_trichotomy k k' with a | a | a
  · rw [hl' k a] at h; cases h
  · exact a
  · rw [hl k' a] at h'; cases h'
theorem PartsR.uniq {A : Nat → Nat → Prop} {m : Nat} {L L' : List Nat} (h : PartsR A m L) (h' : PartsR A m L') : L = L' := by
  induction h generalizing L' with
  | none =>
    cases h' with
    | none => rfl
    | more hk _ _ _ => simp at hk
  | more hk hl hp _ ih =>
    cases h' with
    | none => simp at hk
    | more hk' hl' hp' h2 =>
      obtain rfl := least_uniq hk hl hk' hl'
      obtain rfl := hp.uniq hp'
      rw [ih h2]
/-- One part exactly: the part of the least cell is all. -/
theorem PartsR.one {A : Nat → Nat → Prop} {m k p : Nat} {L : List Nat} (h : PartsR A m L) (hk : m.testBit k = true) (hl : ∀ j, j < k → m.testBit j = false) (hp : PartOf A m.testBit k p) : L.length = 1 ↔ p = m := by
  cases h with
  | none => simp at hk
  | more hk' hl' hp' h2 =>
    obtain rfl := least_uniq hk hl hk' hl'
    obtain rfl := hp.uniq hp'
    have hle := hp.sub.le
    constructor
    · intro h1
      have : m - p = 0 := by
        generalize m - p = d at h2
        cases h2 with
        | none => rfl
        | more _ _ _ _ => simp at h1
      omega
    · rintro rfl
      rw [Nat.sub_self] at h2
      cases h2 with
      | none => rfl
      | more hk2 _ _ _ => simp at hk2

/-! ### Neighbors in a table -/
def Adj (w h : Nat) (i j : Nat) : Prop := i < w * h ∧ j < w * h ∧ ((i % w = j % w ∧ (i / w + 1 = j / w ∨ j / w + 1 = i / w)) ∨ (i / w = j / w ∧ (i % w + 1 = j % w ∨ j % w + 1 = i % w)))
theorem Adj.symm {w h i j : Nat} (a : Adj w h i j) : Adj w h j i := by
  unfold Adj at *; omega

/-! ### Growth: the cells that are near, step by step -/
/-- What a cell brings: its neighbors. -/
def sides (w h k : Nat) (o : Nat) : Nat :=
  let x := k % w
  let y := k / w
  let o := if 0 < x then o ||| 2 ^ (k - 1) else o
  let o := if x + 1 < w then o ||| 2 ^ (k + 1) else o
  let o := if 0 < y then o ||| 2 ^ (k - w) else o
  if y + 1 < h then o ||| 2 ^ (k + w) else o
def nearT (w h M : Nat) : Nat → Nat
  | 0 => M
  | k + 1 => if M.testBit k then sides w h k (nearT w h M k) else nearT w h M k
theorem tb_or_pow {o a j : Nat} : (o ||| 2 ^ a).testBit j = (o.testBit j || decide (a = j)) := by
  rw [Nat.testBit_or, Nat.testBit_two_pow]
theorem tb_if {c : Prop} [Decidable c] {o a j : Nat} : (if c then o ||| 2 ^ a else o).testBit j = (o.testBit j || (decide c && decide (a = j))) := by
  by_cases h : c
  · rw [if_pos h, tb_or_pow]; simp [h]
  · rw [if_neg h]; simp [h]
theorem row_col {w k x y : Nat} (hw : 0 < w) (hx : x < w) (e : k = y * w + x) : k % w = x ∧ k / w = y := by
  subst e
  constructor
  · rw [Nat.add_comm, Nat.add_mul_mod_self_right, Nat.mod_eq_of_lt hx]
  · rw [Nat.add_comm, Nat.add_mul_div_right _ _ hw, Nat.div_eq_of_lt hx, Nat.zero_add]
theorem in_tab {w h x y : Nat} (hx : x < w) (hy : y < h) : y * w + x < w * h := by
  have : (y + 1) * w ≤ h * w := Nat.mul_le_mul_right w hy
  rw [Nat.add_mul, Nat.one_mul] at this
  rw [Nat.mul_comm w h]
  omega
theorem adj_iff {w h k j : Nat} (hw : 0 < w) (hk : k < w * h) :
    Adj w h k j ↔ ((0 < k % w ∧ k - 1 = j) ∨ (k % w + 1 < w ∧ k + 1 = j) ∨ (0 < k / w ∧ k - w = j) ∨ (k / w + 1 < h ∧ k + w = j)) := by
  have hkd : k = k / w * w + k % w := by have := Nat.div_add_mod k w; rw [Nat.mul_comm] at this; omega
  have hjd : j = j / w * w + j % w := by have := Nat.div_add_mod j w; rw [Nat.mul_comm] at this; omega
  have hkm := Nat.mod_lt k hw
  have hjm := Nat.mod_lt j hw
  have hky : k / w < h := by rw [Nat.div_lt_iff_lt_mul hw, Nat.mul_comm]; exact hk
  constructor
  · rintro ⟨-, hj, h1⟩
    have hjy : j / w < h := by rw [Nat.div_lt_iff_lt_mul hw, Nat.mul_comm]; exact hj
    generalize k / w = a at *
    generalize j / w = b at *
    generalize k % w = c at *
    generalize j % w = d at *
    rcases h1 with ⟨e, e2 | e2⟩ | ⟨e, e2 | e2⟩
    · refine .inr (.inr (.inr ⟨by omega, ?_⟩))
      have hm : b * w = a * w + w := by rw [← e2, Nat.add_mul, Nat.one_mul]
      omega
    · refine .inr (.inr (.inl ⟨by omega, ?_⟩))
      have hm : a * w = b * w + w := by rw [← e2, Nat.add_mul, Nat.one_mul]
      omega
    · refine .inr (.inl ⟨by omega, ?_⟩)
      subst e; omega
    · refine .inl ⟨by omega, ?_⟩
      subst e; omega
  · rintro (⟨h1, rfl⟩ | ⟨h1, rfl⟩ | ⟨h1, rfl⟩ | ⟨h1, rfl⟩)
    · obtain ⟨a, b⟩ := row_col hw (show k % w - 1 < w by omega) (show k - 1 = k / w * w + (k % w - 1) by omega)
      exact ⟨hk, by omega, .inr ⟨b.symm, .inr (by rw [a]; omega)⟩⟩
    · obtain ⟨a, b⟩ := row_col hw h1 (show k + 1 = k / w * w + (k % w + 1) by omega)
      have := in_tab (h := h) h1 hky
      exact ⟨hk, by omega, .inr ⟨b.symm, .inl a.symm⟩⟩
    · have e : k / w * w = (k / w - 1) * w + w := by
        have : k / w = (k / w - 1) + 1 := by omega
        rw [show k / w * w = ((k / w - 1) + 1) * w by rw [← this], Nat.add_mul, Nat.one_mul]
      obtain ⟨a, b⟩ := row_col hw hkm (show k - w = (k / w - 1) * w + k % w by omega)
      exact ⟨hk, by omega, .inl ⟨a.symm, .inr (by rw [b]; omega)⟩⟩
    · have e : (k / w + 1) * w = k / w * w + w := by rw [Nat.add_mul, Nat.one_mul]
      obtain ⟨a, b⟩ := row_col hw hkm (show k + w = (k / w + 1) * w + k % w by omega)
      have := in_tab (x := k % w) hkm h1
      exact ⟨hk, by omega, .inl ⟨a.symm, .inl b.symm⟩⟩
theorem testBit_sides {w h k : Nat} (o j : Nat) (hw : 0 < w) (hk : k < w * h) : (sides w h k o).testBit j = true ↔ o.testBit j = true ∨ Adj w h k j := by
  rw [adj_iff hw hk]
  unfold sides
  simp only [tb_if, Bool.or_eq_true, Bool.and_eq_true, decide_eq_true_eq]
  constructor
  · rintro ((((h | h) | h) | h) | h)
    · exact .inl h
    · exact .inr (.inl h)
    · exact .inr (.inr (.inl h))
    · exact .inr (.inr (.inr (.inl h)))
    · exact .inr (.inr (.inr (.inr h)))
  · rintro (h | h | h | h | h)
    · exact .inl (.inl (.inl (.inl h)))
    · exact .inl (.inl (.inl (.inr h)))
    · exact .inl (.inl (.inr h))
    · exact .inl (.inr h)
    · exact .inr h
theorem testBit_nearT {w h M : Nat} (hw : 0 < w) (j : Nat) : ∀ k, k ≤ w * h → ((nearT w h M k).testBit j = true ↔ M.testBit j = true ∨ ∃ i, i < k ∧ M.testBit i = true ∧ Adj w h i j) := by
  intro k
  induction k with
  | zero => intro _; simp [nearT]
  | succ k ih =>
    intro hk
    have ih := ih (by omega)
    simp only [nearT]
    by_cases hm : M.testBit k = true
    · rw [if_pos hm, testBit_sides _ _ hw (by omega), ih]
      constructor
      · rintro ((h | ⟨i, a, b, c⟩) | h)
        · exact .inl h
        · exact .inr ⟨i, by omega, b, c⟩
        · exact .inr ⟨k, by omega, hm, h⟩
      · rintro (h | ⟨i, a, b, c⟩)
        · exact .inl (.inl h)
        · rcases Nat.lt_or_ge i k with h | h
          · exact .inl (.inr ⟨i, h, b, c⟩)
          · obtain rfl : i = k := by omega
            exact .inr c
    · rw [if_neg hm, ih]
      constructor
      · rintro (h | ⟨i, a, b, c⟩)
        · exact .inl h
        · exact .inr ⟨i, by omega, b, c⟩
      · rintro (h | ⟨i, a, b, c⟩)
        · exact .inl h
        · rcases Nat.lt_or_ge i k with h | h
          · exact .inr ⟨i, h, b, c⟩
          · obtain rfl : i = k := by omega
            exact absurd b hm
theorem nearT_lt {w h M : Nat} (hw : 0 < w) (hM : M < 2 ^ (w * h)) (k : Nat) (hk : k ≤ w * h) : nearT w h M k < 2 ^ (w * h) := by
  apply Nat.lt_pow_two_of_testBit
  intro j hj
  rw [← Bool.not_eq_true, testBit_nearT hw j k hk]
  rintro (h | ⟨i, _, _, a⟩)
  · rw [Nat.testBit_lt_two_pow (Nat.lt_of_lt_of_le hM (Nat.pow_le_pow_right (by omega) hj))] at h; cases h
  · exact absurd a.2.1 (by omega)
/-- One step of growth within m. -/
def grow1 (w h m p : Nat) : Nat := nearT w h p (w * h) &&& m
theorem testBit_grow1 {w h m p : Nat} (hw : 0 < w) (hs : SubM p m) (j : Nat) : (grow1 w h m p).testBit j = true ↔ p.testBit j = true ∨ (m.testBit j = true ∧ ∃ i, p.testBit i = true ∧ Adj w h i j) := by
  unfold grow1
  rw [Nat.testBit_and, Bool.and_eq_true, testBit_nearT hw j _ (Nat.le_refl _)]
  constructor
  · rintro ⟨h | ⟨i, _, a, b⟩, c⟩
    · exact .inl h
    · exact .inr ⟨c, i, a, b⟩
  · rintro (h | ⟨c, i, a, b⟩)
    · exact ⟨.inl h, hs j h⟩
    · exact ⟨.inr ⟨i, b.1, a, b⟩, c⟩
/-- What growth keeps: all is reached from k, k is in it, it lies in m. -/
def Grown (w h m k p : Nat) : Prop := p.testBit k = true ∧ ∀ j, p.testBit j = true → Rc (Adj w h) m.testBit k j
theorem Grown.sub {w h m k p : Nat} (g : Grown w h m k p) : SubM p m := fun j hj => (g.2 j hj).mem
theorem Grown.start {w h m k : Nat} (hk : m.testBit k = true) : Grown w h m k (2 ^ k) :=
  ⟨by simp, fun j hj => by
    rw [Nat.testBit_two_pow] at hj
    simp at hj
    subst hj
    exact .here hk⟩
theorem lt_of_sub {m p n : Nat} (hs : SubM p m) (hm : m < 2 ^ n) : p < 2 ^ n := Nat.lt_of_le_of_lt hs.le hm
theorem Grown.next {w h m k p : Nat} (hw : 0 < w) (g : Grown w h m k p) : Grown w h m k (grow1 w h m p) ∧ p ≤ grow1 w h m p := by
  have ht := testBit_grow1 (h := h) hw g.sub
  refine ⟨⟨(ht k).2 (.inl g.1), fun j hj => ?_⟩, SubM.le fun j hj => (ht j).2 (.inl hj)⟩
  rcases (ht j).1 hj with h | ⟨a, i, b, c⟩
  · exact g.2 j h
  · exact .step (g.2 i b) c a
theorem Grown.done {w h m k p : Nat} (hw : 0 < w) (g : Grown w h m k p) (he : grow1 w h m p = p) : PartOf (Adj w h) m.testBit k p := fun j => by
  refine ⟨g.2 j, fun hr => ?_⟩
  have ht := testBit_grow1 (h := h) hw g.sub
  rw [he] at ht
  exact hr.closed (S := p.testBit) g.1 (fun a b h1 h2 h3 => (ht b).2 (.inr ⟨h3, a, h1, h2⟩))

/-! ### Taking: a cell, then what can be reached from each neighbor in what is left -/
def rem1 (F : Nat → Bool) (i : Nat) : Nat → Bool := fun j => F j && !decide (j = i)
def less (F : Nat → Bool) (p : Nat) : Nat → Bool := fun j => F j && !p.testBit j
theorem less_zero (F : Nat → Bool) : less F 0 = F := by funext j; simp [less]
theorem less_or (F : Nat → Bool) (p q : Nat) : less (less F p) q = less F (p ||| q) := by
  funext j; simp [less, Nat.testBit_or, Bool.and_assoc]
theorem less_pow (F : Nat → Bool) (i : Nat) : less F (2 ^ i) = rem1 F i := by
  funext j
  simp only [less, rem1, Nat.testBit_two_pow]
  congr 2
  rw [decide_eq_decide]; omega
/-- P is what can be reached from the place o, if it is one. -/
def Took (A : Nat → Nat → Prop) (F : Nat → Bool) (o : Option Nat) (P : Nat) : Prop := ∀ j, P.testBit j = true ↔ ∃ k, o = some k ∧ Rc A F k j
theorem Took.none {A : Nat → Nat → Prop} {F : Nat → Bool} : Took A F .none 0 := fun j => by simp
theorem Took.off {A : Nat → Nat → Prop} {F : Nat → Bool} {k : Nat} (h : F k = false) : Took A F (some k) 0 := fun j => by
  simp only [Nat.zero_testBit, Bool.false_eq_true, false_iff]
  rintro ⟨k', e, r⟩
  cases e
  have := r.start
  rw [h] at this; cases this
theorem Took.part {A : Nat → Nat → Prop} {F : Nat → Bool} {k P : Nat} (h : Took A F (some k) P) : PartOf A F k P := fun j => by
  rw [h j]; simp
def Taking (A : Nat → Nat → Prop) (F : Nat → Bool) (i : Nat) (os : List (Option Nat)) (P : Nat) : Prop := ∀ j, P.testBit j = true ↔ j = i ∨ ∃ k, some k ∈ os ∧ Rc A (rem1 F i) k j
theorem Taking.start {A : Nat → Nat → Prop} {F : Nat → Bool} {i : Nat} : Taking A F i [] (2 ^ i) := fun j => by
  rw [Nat.testBit_two_pow]
  simp [eq_comm]
theorem Taking.next {A : Nat → Nat → Prop} {F : Nat → Bool} {i P Q : Nat} {os : List (Option Nat)} {o : Option Nat} (hA : ∀ a b, A a b → A b a) (T : Taking A F i os P) (hQ : Took A (less F P) o Q) : Taking A F i (os ++ [o]) (P ||| Q) := fun j => by
  have hsub : ∀ j, less F P j = true → rem1 F i j = true := fun j hj => by
    simp only [less, rem1, Bool.and_eq_true, Bool.not_eq_true', decide_eq_false_iff_not] at hj ⊢
    refine ⟨hj.1, fun e => ?_⟩
    have := (T j).2 (.inl e)
    rw [hj.2] at this; cases this
  have hQ' : ∀ j, Q.testBit j = true → ∃ k, o = some k ∧ Rc A (rem1 F i) k j := fun j hj => by
    obtain ⟨k, e, r⟩ := (hQ j).1 hj
    exact ⟨k, e, r.mono hsub⟩
  rw [Nat.testBit_or, Bool.or_eq_true]
  constructor
  · rintro (h | h)
    · rcases (T j).1 h with h | ⟨k, a, b⟩
      · exact .inl h
      · exact .inr ⟨k, by simp [a], b⟩
    · obtain ⟨k, a, b⟩ := hQ' j h
      exact .inr ⟨k, by simp [a], b⟩
  · rintro (h | ⟨k, a, b⟩)
    · exact .inl ((T j).2 (.inl h))
    · rcases List.mem_append.1 a with a | a
      · exact .inl ((T j).2 (.inr ⟨k, a, b⟩))
      · have e : o = some k := (List.mem_singleton.1 a).symm
        cases hk : P.testBit k
        · -- k is left: what can be reached from it is left, too
          refine .inr ((hQ j).2 ⟨k, e, ?_⟩)
          have hc : ∀ a b, (P.testBit a && !decide (a = i)) = true → A a b → rem1 F i b = true → (P.testBit b && !decide (b = i)) = true := fun a b h1 h2 h3 => by
            simp only [Bool.and_eq_true, Bool.not_eq_true', decide_eq_false_iff_not] at h1 ⊢
            have hb : ¬ b = i := by
              simp only [rem1, Bool.and_eq_true, Bool.not_eq_true', decide_eq_false_iff_not] at h3
              exact h3.2
            refine ⟨?_, hb⟩
            rcases (T a).1 h1.1 with h | ⟨k', h4, h5⟩
            · exact absurd h h1.2
            · exact (T b).2 (.inr ⟨k', h4, .step h5 h2 h3⟩)
          have := Rc.without (S := fun a => P.testBit a && !decide (a = i)) hA hc (by simp [hk]) b
          refine this.mono fun j hj => ?_
          simp only [rem1, less, Bool.and_eq_true, Bool.not_eq_true', decide_eq_false_iff_not, Bool.and_eq_false_iff, Bool.not_eq_false', decide_eq_true_eq] at hj ⊢
          refine ⟨hj.1.1, ?_⟩
          rcases hj.2 with h | h
          · exact h
          · exact absurd h hj.1.2
        · rcases (T k).1 hk with h | ⟨k', h4, h5⟩
          · have := b.start
            simp [rem1, h] at this
          · exact .inl ((T j).2 (.inr ⟨k', h4, h5.trans b⟩))
theorem Taking.done {A : Nat → Nat → Prop} {F : Nat → Bool} {i P : Nat} {os : List (Option Nat)} (hi : F i = true) (hos : ∀ k, some k ∈ os ↔ A i k) (T : Taking A F i os P) : Took A F (some i) P := fun j => by
  have hm : ∀ j, rem1 F i j = true → F j = true := fun j hj => by simp [rem1] at hj; exact hj.1
  rw [T j]
  constructor
  · rintro (rfl | ⟨k, a, b⟩)
    · exact ⟨_, rfl, .here hi⟩
    · exact ⟨i, rfl, Rc.trans (.step (.here hi) ((hos k).1 a) (hm _ b.start)) (b.mono hm)⟩
  · rintro ⟨k, e, r⟩
    cases e
    induction r with
    | here _ => exact .inl rfl
    | @step j k h1 a f ih =>
      by_cases hk : k = i
      · exact .inl hk
      · have fk : rem1 F i k = true := by simp [rem1, f, hk]
        rcases ih with rfl | ⟨k', h4, h5⟩
        · exact .inr ⟨k, (hos k).2 a, .here fk⟩
        · exact .inr ⟨k', h4, .step h5 a fk⟩
/-- The neighbors of a cell: up, left, right, down. -/
def nbI (w h i : Nat) (t : Nat) : Option Nat :=
  match t with
  | 0 => if 0 < i / w then some (i - w) else none
  | 1 => if 0 < i % w then some (i - 1) else none
  | 2 => if i % w + 1 < w then some (i + 1) else none
  | _ => if i / w + 1 < h then some (i + w) else none
theorem nbI_adj {w h i : Nat} (hw : 0 < w) (hi : i < w * h) (k : Nat) : some k ∈ ((List.range 4).map (nbI w h i)) ↔ Adj w h i k := by
  rw [adj_iff hw hi]
  have e : (List.range 4).map (nbI w h i) = [nbI w h i 0, nbI w h i 1, nbI w h i 2, nbI w h i 3] := rfl
  rw [e]
  simp only [nbI, List.mem_cons, List.not_mem_nil, or_false]
  have hif : ∀ (c : Prop) [Decidable c] (a : Nat), (some k = if c then some a else none) ↔ (c ∧ a = k) := by
    intro c _ a
    by_cases h : c
    · rw [if_pos h]; simp [h, eq_comm]
    · rw [if_neg h]; simp [h]
  rw [hif, hif, hif, hif]
  constructor
  · rintro (h | h | h | h)
    · exact .inr (.inr (.inl h))
    · exact .inl h
    · exact .inr (.inl h)
    · exact .inr (.inr (.inr h))
  · rintro (h | h | h | h)
    · exact .inr (.inl h)
    · exact .inr (.inr (.inl h))
    · exact .inl h
    · exact .inr (.inr (.inr h))
/-- How many places are left. -/
def cntF (F : Nat → Bool) (n : Nat) : Nat := (List.range n).countP F
theorem cntF_mono {F G : Nat → Bool} {n : Nat} (h : ∀ j, F j = true → G j = true) : cntF F n ≤ cntF G n := List.countP_mono_left fun j _ => h j
theorem cntF_rem {F : Nat → Bool} {n i : Nat} (hi : i < n) (hF : F i = true) : cntF (rem1 F i) n < cntF F n := by
  unfold cntF
  induction n with
  | zero => omega
  | succ n ih =>
    rw [List.range_succ, List.countP_append, List.countP_append]
    simp only [List.countP_cons, List.countP_nil, Nat.zero_add]
    by_cases e : i = n
    · subst e
      have := cntF_mono (F := rem1 F i) (G := F) (n := i) (fun j hj => by simp [rem1] at hj; exact hj.1)
      unfold cntF at this
      have e0 : rem1 F i i = false := by simp [rem1]
      rw [e0, hF]
      simp
      omega
    · have := ih (by omega)
      have e2 : rem1 F i n = F n := by simp [rem1, Ne.symm e]
      rw [e2]; omega
end Go.Proofs.Ytimkknljoeiceaa
