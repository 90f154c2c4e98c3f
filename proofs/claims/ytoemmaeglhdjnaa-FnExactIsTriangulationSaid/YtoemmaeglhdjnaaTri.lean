/-
  Sets of chords that do not cross, counted: as many as triangulations counted part by part.
-/
import Derived.Test.YtoemmaeglhdjnaaProg
namespace Go.Proofs.Ytoemmaeglhdjnaa

/-- Whether two chords cross. -/
def crB (d e : Int × Int) : Bool := (decide (d.1 < e.1) && (decide (e.1 < d.2) && decide (d.2 < e.2))) || (decide (e.1 < d.1) && (decide (d.1 < e.2) && decide (e.2 < d.2)))
theorem crB_iff (d e : Int × Int) : crB d e = true ↔ (d.1 < e.1 ∧ e.1 < d.2 ∧ d.2 < e.2) ∨ (e.1 < d.1 ∧ d.1 < e.2 ∧ e.2 < d.2) := by simp [crB]
theorem crB_symm (d e : Int × Int) : crB d e = crB e d := by
  rw [Bool.eq_iff_iff, crB_iff, crB_iff]; omega
def ncL (d : Int × Int) (R : List (Int × Int)) : List (Int × Int) := R.filter fun e => !crB d e
def sumN (f : List (Int × Int) → Nat) : List (Int × Int) → Nat
  | [] => 0
  | d :: R => f (ncL d R) + sumN f R
/-- How many sets of m of the chords there are, no two of which cross. -/
def setN : Nat → List (Int × Int) → Nat
  | 0 => fun _ => 1
  | m + 1 => sumN (setN m)
theorem setN_nil (m : Nat) : setN (m + 1) [] = 0 := rfl
theorem setN_cons (m : Nat) (d : Int × Int) (R : List (Int × Int)) : setN (m + 1) (d :: R) = setN m (ncL d R) + setN (m + 1) R := rfl
theorem ncL_comm (a b : Int × Int) (R : List (Int × Int)) : ncL a (ncL b R) = ncL b (ncL a R) := by
  unfold ncL
  rw [List.filter_filter, List.filter_filter]
  exact List.filter_congr fun x _ => Bool.and_comm _ _
theorem ncL_cons (a b : Int × Int) (R : List (Int × Int)) : ncL a (b :: R) = bif crB a b then ncL a R else b :: ncL a R := by
  unfold ncL
  rw [List.filter_cons]
  cases crB a b <;> rfl
theorem sum_swap (m : Nat) (a b : Int × Int) (R : List (Int × Int)) : setN m (ncL a (b :: R)) + setN m (ncL b R) = setN m (ncL b (a :: R)) + setN m (ncL a R) := by
  cases m with
  | zero => rfl
  | succ m =>
    rw [ncL_cons, ncL_cons, crB_symm b a]
    cases h : crB a b
    · simp only [cond_false, setN_cons]
      rw [ncL_comm b a]; omega
    · simp only [cond_true]; omega
theorem setN_perm (m : Nat) {R R' : List (Int × Int)} (h : R.Perm R') : setN m R = setN m R' := by
  induction m generalizing R R' with
  | zero => rfl
  | succ m ih =>
    induction h with
    | nil => rfl
    | cons d h ih2 =>
      rw [setN_cons, setN_cons, ih2]
      exact congrArg (· + _) (ih (h.filter _))
    | swap a b R =>
      rw [setN_cons, setN_cons, setN_cons, setN_cons]
      have := sum_swap m b a R
      omega
    | trans _ _ h1 h2 => exact h1.trans h2
/-- No set of more than p. -/
def Cap (A : List (Int × Int)) (p : Nat) : Prop := ∀ s, p < s → setN s A = 0
theorem cap_nil (p : Nat) : Cap [] p := fun s h => by
  obtain ⟨s, rfl⟩ : ∃ t, s = t + 1 := ⟨s - 1, by omega⟩
  rfl
theorem cap_cons {d : Int × Int} {A : List (Int × Int)} {p : Nat} (h : Cap (d :: A) p) : ∃ q, p = q + 1 ∧ Cap (ncL d A) q ∧ Cap A p := by
  cases p with
  | zero =>
    have := h 1 (by omega)
    rw [setN_cons] at this
    have e : setN 0 (ncL d A) = 1 := rfl
    omega
  | succ q =>
    refine ⟨q, rfl, fun s hs => ?_, fun s hs => ?_⟩
    · have := h (s + 1) (by omega)
      rw [setN_cons] at this; omega
    · obtain ⟨t, rfl⟩ : ∃ t, s = t + 1 := ⟨s - 1, by omega⟩
      have := h (t + 1) hs
      rw [setN_cons] at this; omega
theorem cap_mk {d : Int × Int} {A : List (Int × Int)} {q : Nat} (h1 : Cap (ncL d A) q) (h2 : Cap A (q + 1)) : Cap (d :: A) (q + 1) := fun s hs => by
  obtain ⟨t, rfl⟩ : ∃ t, s = t + 1 := ⟨s - 1, by omega⟩
  rw [setN_cons, h1 t (by omega), h2 (t + 1) hs]
theorem cap_perm {A B : List (Int × Int)} {p : Nat} (h : A.Perm B) (hc : Cap A p) : Cap B p := fun s hs => by rw [← setN_perm s h]; exact hc s hs
theorem cap_more {A : List (Int × Int)} {p q : Nat} (h : Cap A p) (hq : p ≤ q) : Cap A q := fun s hs => h s (by omega)
def Apart (A B : List (Int × Int)) : Prop := ∀ a ∈ A, ∀ b ∈ B, crB a b = false
theorem ncL_apart {d : Int × Int} {A B : List (Int × Int)} (h : ∀ b ∈ B, crB d b = false) : ncL d (A ++ B) = ncL d A ++ B := by
  unfold ncL
  rw [List.filter_append]
  congr 1
  exact List.filter_eq_self.2 fun b hb => by rw [h b hb]; rfl
theorem ncL_all {d : Int × Int} {B : List (Int × Int)} (h : ∀ b ∈ B, crB d b = false) : ncL d B = B := by
  have := ncL_apart (A := []) h
  simpa [ncL] using this
theorem ncL_len (d : Int × Int) (A : List (Int × Int)) : (ncL d A).length ≤ A.length := List.length_filter_le _ _
theorem product : ∀ (n : Nat) (A : List (Int × Int)), A.length ≤ n → ∀ (B : List (Int × Int)) (p q : Nat), Apart A B → Cap A p → Cap B q → setN (p + q) (A ++ B) = setN p A * setN q B ∧ Cap (A ++ B) (p + q)
  | _, [], _, B, p, q, _, _, hB => by
    refine ⟨?_, fun s hs => hB s (by omega)⟩
    cases p with
    | zero => rw [Nat.zero_add]; show setN q B = 1 * _; omega
    | succ p => rw [setN_nil, Nat.zero_mul]; exact hB _ (by omega)
  | 0, d :: A, hn, _, _, _, _, _, _ => by simp at hn
  | n + 1, d :: A, hn, B, p, q, hx, hA, hB => by
    obtain ⟨r, rfl, h1, h2⟩ := cap_cons hA
    have hl := ncL_len d A
    simp only [List.length_cons] at hn
    have hd : ∀ b ∈ B, crB d b = false := hx d (by simp)
    obtain ⟨k1, k2⟩ := product n (ncL d A) (by omega) B r q (fun a ha => hx a (by simp [(List.mem_filter.1 ha).1])) h1 hB
    obtain ⟨k3, k4⟩ := product n A (by omega) B (r + 1) q (fun a ha => hx a (by simp [ha])) h2 hB
    rw [← ncL_apart hd] at k1 k2
    have e : r + 1 + q = (r + q) + 1 := by omega
    rw [e] at k3 k4 ⊢
    refine ⟨?_, cap_mk k2 k4⟩
    rw [List.cons_append, setN_cons, k1, k3, setN_cons, Nat.add_mul]
/-! ### chords within a part of the polygon -/
def inO (i k : Nat) (e : Int × Int) : Bool := decide ((i : Int) ≤ e.1) && (decide (e.2 ≤ (k : Int)) && !(decide (e.1 = (i : Int)) && decide (e.2 = (k : Int))))
def inC (i k : Nat) (e : Int × Int) : Bool := decide ((i : Int) ≤ e.1) && decide (e.2 ≤ (k : Int))
def inX (i k j : Nat) (e : Int × Int) : Bool := decide ((i : Int) ≤ e.1) && (decide (e.2 ≤ (k : Int)) && (!decide (e.1 = (i : Int)) || decide (e.2 < (j : Int))))
/-- Chords with at least one corner between their ends, each once. -/
def Chords (S : List (Int × Int)) : Prop := S.Nodup ∧ ∀ e ∈ S, e.1 + 2 ≤ e.2
def seesB (S : List (Int × Int)) (i k : Nat) : Bool := k == i + 1 || S.contains ((i : Int), (k : Int))
def sumT' (f : Nat → Nat) : Nat → Nat
  | 0 => 0
  | t + 1 => sumT' f t + f t
def triN (S : List (Int × Int)) : Nat → Nat → Nat → Nat
  | 0, _, _ => 1
  | d + 1, i, k => bif k == i + 1 then 1 else sumT' (fun t => bif seesB S i (i + 1 + t) && seesB S (i + 1 + t) k then triN S d i (i + 1 + t) * triN S d (i + 1 + t) k else 0) (k - i - 1)
theorem perm_of {S T : List (Int × Int)} (hS : S.Nodup) (hT : T.Nodup) (h : ∀ e, e ∈ S ↔ e ∈ T) : S.Perm T := (List.perm_ext_iff_of_nodup hS hT).2 h
def OpenOk (S : List (Int × Int)) (d i k : Nat) : Prop := Cap (S.filter (inO i k)) (k - i - 2) ∧ setN (k - i - 2) (S.filter (inO i k)) = triN S d i k
def ShutOk (S : List (Int × Int)) (d i k : Nat) : Prop := Cap (S.filter (inC i k)) (k - i - 1) ∧ setN (k - i - 1) (S.filter (inC i k)) = bif seesB S i k then triN S d i k else 0
theorem shut_of {S : List (Int × Int)} (hS : Chords S) {d i k : Nat} (hik : i < k) (h : OpenOk S d i k) : ShutOk S d i k := by
  obtain ⟨h1, h2⟩ := h
  by_cases hm : ((i : Int), (k : Int)) ∈ S
  · have hk : i + 2 ≤ k := by have := hS.2 _ hm; simp only at this; omega
    have hp : (S.filter (inC i k)).Perm (((i : Int), (k : Int)) :: S.filter (inO i k)) := by
      refine perm_of (hS.1.filter _) (List.nodup_cons.2 ⟨by simp [inO], hS.1.filter _⟩) fun e => ?_
      simp only [List.mem_filter, List.mem_cons, inC, inO, Bool.and_eq_true, decide_eq_true_eq, Bool.not_eq_true', Bool.and_eq_false_imp, decide_eq_false_iff_not]
      constructor
      · rintro ⟨a, b, c⟩
        by_cases q : e = ((i : Int), (k : Int))
        · exact Or.inl q
        · exact Or.inr ⟨a, b, c, fun q1 q2 => q (Prod.ext q1 q2)⟩
      · rintro (rfl | ⟨a, b, c, -⟩)
        · exact ⟨hm, Int.le_refl _, Int.le_refl _⟩
        · exact ⟨a, b, c⟩
    have hnc : ncL ((i : Int), (k : Int)) (S.filter (inO i k)) = S.filter (inO i k) := ncL_all fun b hb => by
      simp only [List.mem_filter, inO, Bool.and_eq_true, decide_eq_true_eq] at hb
      rw [← Bool.not_eq_true, crB_iff]; simp only; omega
    have e : k - i - 1 = (k - i - 2) + 1 := by omega
    have hs : seesB S i k = true := by simp [seesB, hm]
    rw [ShutOk, e, hs, cond_true]
    refine ⟨cap_perm hp.symm (cap_mk (by rw [hnc]; exact h1) (cap_more h1 (by omega))), ?_⟩
    rw [setN_perm _ hp, setN_cons, hnc, h2, h1 (k - i - 2 + 1) (by omega)]
    rfl
  · have hp : S.filter (inC i k) = S.filter (inO i k) := List.filter_congr fun e he => by
      by_cases q1 : e.1 = (i : Int) <;> by_cases q2 : e.2 = (k : Int)
      · exact absurd (show ((i : Int), (k : Int)) ∈ S by rw [← q1, ← q2]; exact he) hm
      all_goals simp [inC, inO, q1, q2]
    have hc : S.contains ((i : Int), (k : Int)) = false := by simp [hm]
    rw [ShutOk, hp]
    refine ⟨cap_more h1 (by omega), ?_⟩
    rw [seesB, hc, Bool.or_false]
    cases hq : (k == i + 1)
    · have hne : k ≠ i + 1 := by simpa using hq
      exact h1 _ (by omega)
    · have he : k = i + 1 := by simpa using hq
      subst he
      have e1 : i + 1 - i - 1 = 0 := by omega
      have e2 : i + 1 - i - 2 = 0 := by omega
      rw [e2] at h2
      rw [e1, h2]; rfl
theorem sum_step (S : List (Int × Int)) (hS : Chords S) (d i k : Nat) (hik : i + 2 ≤ k) (hO : ∀ j, i < j → j < k → OpenOk S d i j) (hC : ∀ j, i < j → j < k → ShutOk S d j k) :
    ∀ t, t + i + 2 ≤ k → Cap (S.filter (inX i k (i + 2 + t))) (k - i - 2) ∧ setN (k - i - 2) (S.filter (inX i k (i + 2 + t))) = sumT' (fun t => bif seesB S i (i + 1 + t) && seesB S (i + 1 + t) k then triN S d i (i + 1 + t) * triN S d (i + 1 + t) k else 0) (t + 1)
  | 0, ht => by
    have hp : S.filter (inX i k (i + 2 + 0)) = S.filter (inC (i + 1) k) := List.filter_congr fun e he => by
      have := hS.2 e he
      rw [Bool.eq_iff_iff]
      simp only [inX, inC, Bool.and_eq_true, Bool.or_eq_true, decide_eq_true_eq, Bool.not_eq_true', decide_eq_false_iff_not]
      omega
    obtain ⟨c1, c2⟩ := hC (i + 1) (by omega) (by omega)
    have e : k - (i + 1) - 1 = k - i - 2 := by omega
    rw [e] at c1 c2
    rw [hp]
    refine ⟨c1, c2.trans ?_⟩
    show _ = 0 + _
    have o := (hO (i + 1) (by omega) (by omega)).2
    have e2 : i + 1 - i - 2 = 0 := by omega
    rw [e2] at o
    have s1 : seesB S i (i + 1) = true := by simp [seesB]
    have o' : triN S d i (i + 1) = 1 := o.symm
    simp only [Nat.add_zero, s1, Bool.true_and, o', Nat.one_mul, Nat.zero_add]
  | t + 1, ht => by
    obtain ⟨c1, c2⟩ := sum_step S hS d i k hik hO hC t (by omega)
    have ej : i + 1 + (t + 1) = i + 2 + t := by omega
    show _ ∧ _ = sumT' _ (t + 1) + _
    rw [← c2]
    simp only [ej]
    generalize hj : i + 2 + t = j at *
    have e2 : i + 2 + (t + 1) = j + 1 := by omega
    rw [e2]
    obtain ⟨o1, o2⟩ := hO j (by omega) (by omega)
    obtain ⟨s1, s2⟩ := hC j (by omega) (by omega)
    by_cases hm : ((i : Int), (j : Int)) ∈ S
    · have hp : (S.filter (inX i k (j + 1))).Perm (((i : Int), (j : Int)) :: S.filter (inX i k j)) := by
        refine perm_of (hS.1.filter _) (List.nodup_cons.2 ⟨by simp [inX], hS.1.filter _⟩) fun e => ?_
        simp only [List.mem_filter, List.mem_cons, inX, Bool.and_eq_true, Bool.or_eq_true, decide_eq_true_eq, Bool.not_eq_true', decide_eq_false_iff_not]
        constructor
        · rintro ⟨a, b, c, x⟩
          by_cases q : e = ((i : Int), (j : Int))
          · exact Or.inl q
          · refine Or.inr ⟨a, b, c, ?_⟩
            have q' : e.1 = (i : Int) → e.2 ≠ (j : Int) := fun q1 q2 => q (Prod.ext q1 q2)
            omega
        · rintro (rfl | ⟨a, b, c, x⟩)
          · exact ⟨hm, by simp only; omega, by simp only; omega, by simp only; omega⟩
          · exact ⟨a, b, c, by omega⟩
      have hnc : (ncL ((i : Int), (j : Int)) (S.filter (inX i k j))).Perm (S.filter (inO i j) ++ S.filter (inC j k)) := by
        refine perm_of ((hS.1.filter _).filter _) (List.nodup_append.2 ⟨hS.1.filter _, hS.1.filter _, ?_⟩) fun e => ?_
        · intro a ha b hb
          simp only [List.mem_filter, inO, inC, Bool.and_eq_true, decide_eq_true_eq] at ha hb
          have h1 := hS.2 a ha.1
          rintro rfl
          omega
        · simp only [ncL, List.mem_filter, List.mem_append, inX, inO, inC, Bool.and_eq_true, Bool.or_eq_true, decide_eq_true_eq, Bool.not_eq_true', decide_eq_false_iff_not, Bool.and_eq_false_imp]
          have cr : (crB ((i : Int), (j : Int)) e = false) ↔ ¬ (((i : Int) < e.1 ∧ e.1 < (j : Int) ∧ (j : Int) < e.2) ∨ (e.1 < (i : Int) ∧ (i : Int) < e.2 ∧ e.2 < (j : Int))) := by
            rw [← Bool.not_eq_true, crB_iff]
          rw [cr]
          constructor
          · rintro ⟨⟨a, b, c, x⟩, y⟩
            have := hS.2 e a
            by_cases z : e.2 ≤ (j : Int)
            · exact Or.inl ⟨a, b, z, fun q => by omega⟩
            · exact Or.inr ⟨a, by omega, c⟩
          · rintro (⟨a, b, c, x⟩ | ⟨a, b, c⟩)
            · have := hS.2 e a
              refine ⟨⟨a, b, by omega, ?_⟩, by omega⟩
              by_cases q : e.1 = (i : Int)
              · have := x q; omega
              · exact Or.inl q
            · have := hS.2 e a
              exact ⟨⟨a, by omega, c, by omega⟩, by omega⟩
      have hap : Apart (S.filter (inO i j)) (S.filter (inC j k)) := fun a ha b hb => by
        simp only [List.mem_filter, inO, inC, Bool.and_eq_true, decide_eq_true_eq] at ha hb
        have h1 := hS.2 a ha.1; have h2 := hS.2 b hb.1
        rw [← Bool.not_eq_true, crB_iff]; omega
      obtain ⟨p1, p2⟩ := product _ _ (Nat.le_refl _) _ _ _ hap o1 s1
      have e3 : j - i - 2 + (k - j - 1) = k - i - 3 := by omega
      rw [e3] at p1 p2
      have e4 : k - i - 2 = (k - i - 3) + 1 := by omega
      have hs : seesB S i j = true := by simp [seesB, hm]
      rw [e4] at c1 ⊢
      refine ⟨cap_perm hp.symm (cap_mk (cap_perm hnc.symm p2) c1), ?_⟩
      rw [setN_perm _ hp, setN_cons, setN_perm _ hnc, p1, o2, s2, hs, Bool.true_and, Nat.add_comm]
      cases seesB S j k <;> rfl
    · have hp : S.filter (inX i k (j + 1)) = S.filter (inX i k j) := List.filter_congr fun e he => by
        rw [Bool.eq_iff_iff]
        simp only [inX, Bool.and_eq_true, Bool.or_eq_true, decide_eq_true_eq, Bool.not_eq_true', decide_eq_false_iff_not]
        have q' : e.1 = (i : Int) → e.2 ≠ (j : Int) := fun q1 q2 => hm (by rw [← q1, ← q2]; exact he)
        omega
      have hs : seesB S i j = false := by
        simp only [seesB, Bool.or_eq_false_iff]
        exact ⟨by simp; omega, by simp [hm]⟩
      rw [hp, hs]
      exact ⟨c1, rfl⟩
theorem tri_ok (S : List (Int × Int)) (hS : Chords S) : ∀ d i k, i < k → k - i ≤ d → OpenOk S d i k
  | 0, i, k, hik, hd => by omega
  | d + 1, i, k, hik, hd => by
    cases hq : (k == i + 1)
    · have hne : k ≠ i + 1 := by simpa using hq
      have hO : ∀ j, i < j → j < k → OpenOk S d i j := fun j h1 h2 => tri_ok S hS d i j h1 (by omega)
      have hC : ∀ j, i < j → j < k → ShutOk S d j k := fun j h1 h2 => shut_of hS h2 (tri_ok S hS d j k h2 (by omega))
      obtain ⟨c1, c2⟩ := sum_step S hS d i k (by omega) hO hC (k - i - 2) (by omega)
      have e1 : i + 2 + (k - i - 2) = k := by omega
      have e2 : k - i - 2 + 1 = k - i - 1 := by omega
      rw [e1] at c1 c2
      rw [e2] at c2
      have hp : S.filter (inX i k k) = S.filter (inO i k) := List.filter_congr fun e he => by
        rw [Bool.eq_iff_iff]
        simp only [inX, inO, Bool.and_eq_true, Bool.or_eq_true, decide_eq_true_eq, Bool.not_eq_true', decide_eq_false_iff_not, Bool.and_eq_false_imp]
        constructor
        · rintro ⟨a, b, c⟩; exact ⟨a, b, fun q => by omega⟩
        · rintro ⟨a, b, c⟩
          refine ⟨a, b, ?_⟩
          by_cases q : e.1 = (i : Int)
          · have := c q; omega
          · exact Or.inl q
      rw [hp] at c1 c2
      refine ⟨c1, c2.trans ?_⟩
      rw [triN, hq]; rfl
    · have he : k = i + 1 := by simpa using hq
      have hp : S.filter (inO i k) = [] := List.filter_eq_nil_iff.2 fun e h => by
        have := hS.2 e h
        simp only [inO, Bool.and_eq_true, decide_eq_true_eq]; omega
      rw [OpenOk, hp]
      refine ⟨cap_nil _, ?_⟩
      have e2 : k - i - 2 = 0 := by omega
      rw [e2, triN, hq]; rfl
/-- As many sets of n - 3 chords as triangulations counted part by part. -/
theorem sets_tri {S : List (Int × Int)} (hS : Chords S) {n : Nat} (hn : 3 ≤ n) (hb : ∀ e ∈ S, 0 ≤ e.1 ∧ e.2 < (n : Int) ∧ ¬ (e.1 = 0 ∧ e.2 = (n : Int) - 1)) : setN (n - 3) S = triN S (n - 1) 0 (n - 1) := by
  have h := (tri_ok S hS (n - 1) 0 (n - 1) (by omega) (by omega)).2
  have hp : S.filter (inO 0 (n - 1)) = S := List.filter_eq_self.2 fun e he => by
    have := hb e he
    simp only [inO, Bool.and_eq_true, decide_eq_true_eq, Bool.not_eq_true', Bool.and_eq_false_imp, decide_eq_false_iff_not]
    exact ⟨by omega, by omega, fun q => by omega⟩
  rw [hp] at h
  have e : n - 1 - 0 - 2 = n - 3 := by omega
  rwa [e] at h
end Go.Proofs.Ytoemmaeglhdjnaa
