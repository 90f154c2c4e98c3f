/-
  Chains of a hull and sorted lists of points: plain facts. A list that repeats points behind each other has the chain of the list without repetitions.
-/
import Derived.Test.YtplccidmedkfaaaSort
import Derived.Test.YtplccidmedkfaaaStraight
namespace Go.Proofs.Ytplccidmedkfaaa
open Go.RowKit

abbrev P2 := Int × Int
def lfB (a b p : P2) : Bool := decide (0 < crossP a b p)
def bendB (M : List P2) (p : P2) : Bool := decide (2 ≤ M.length) && !(lfB (gt M (M.length - 2)) (gt M (M.length - 1)) p)
def popC (p : P2) : Nat → List P2 → List P2
  | 0, M => M
  | f + 1, M => bif bendB M p then popC p f M.dropLast else M
def popF (p : P2) (M : List P2) : List P2 := popC p M.length M
theorem bend_len {M : List P2} {p : P2} (h : bendB M p = true) : 2 ≤ M.length := by
  simp only [bendB, Bool.and_eq_true, decide_eq_true_eq] at h
  exact h.1
theorem popF_yes {M : List P2} {p : P2} (h : bendB M p = true) : popF p M = popF p M.dropLast := by
  have h2 := bend_len h
  unfold popF
  rw [List.length_dropLast]
  obtain ⟨k, hk⟩ : ∃ k, M.length = k + 1 := ⟨M.length - 1, by omega⟩
  rw [hk, popC, h]
  rfl
theorem popF_no {M : List P2} {p : P2} (h : bendB M p = false) : popF p M = M := by
  unfold popF
  cases hk : M.length with
  | zero => rfl
  | succ k => rw [popC, h]; rfl
theorem popF_ind {p : P2} {Q : List P2 → List P2 → Prop} (h0 : ∀ M, bendB M p = false → Q M M) (h1 : ∀ M N, bendB M p = true → Q M.dropLast N → Q M N) : ∀ n M, M.length = n → Q M (popF p M) := by
  intro n
  induction n with
  | zero =>
    intro M hM
    have hb : bendB M p = false := by
      have : ¬ 2 ≤ M.length := by omega
      simp [bendB, this]
    rw [popF_no hb]; exact h0 M hb
  | succ n ih =>
    intro M hM
    cases hb : bendB M p
    · rw [popF_no hb]; exact h0 M hb
    · rw [popF_yes hb]
      exact h1 M _ hb (ih M.dropLast (by rw [List.length_dropLast]; omega))
theorem popF_stop (p : P2) (M : List P2) : bendB (popF p M) p = false :=
  popF_ind (Q := fun _ N => bendB N p = false) (fun _ h => h) (fun _ _ _ h => h) M.length M rfl
theorem popF_le (p : P2) (M : List P2) : (popF p M).length ≤ M.length :=
  popF_ind (Q := fun M N => N.length ≤ M.length) (fun _ _ => Nat.le_refl _) (fun M N _ h => by rw [List.length_dropLast] at h; omega) M.length M rfl
theorem popF_ge (p : P2) (M : List P2) : 1 ≤ M.length → 1 ≤ (popF p M).length :=
  popF_ind (Q := fun M N => 1 ≤ M.length → 1 ≤ N.length) (fun _ _ h => h) (fun M N hb h _ => h (by have := bend_len hb; rw [List.length_dropLast]; omega)) M.length M rfl
theorem popF_sub (p : P2) (M : List P2) : ∀ x ∈ popF p M, x ∈ M :=
  popF_ind (Q := fun M N => ∀ x ∈ N, x ∈ M) (fun _ _ _ h => h) (fun M N _ h x hx => List.dropLast_subset _ (h x hx)) M.length M rfl
def chS (M : List P2) (p : P2) : List P2 := popF p M ++ [p]
def chL (P : List P2) : List P2 := P.foldl chS []
theorem chL_snoc (P : List P2) (p : P2) : chL (P ++ [p]) = chS (chL P) p := by simp [chL]
theorem chL_take {P : List P2} {k : Nat} (h : k < P.length) : chL (P.take (k + 1)) = chS (chL (P.take k)) (gt P k) := by
  rw [List.take_succ_eq_append_getElem h, chL_snoc, gt_at h]
theorem chL_len : ∀ (k : Nat) (P : List P2), P.length = k → (chL P).length ≤ k := by
  intro k
  induction k with
  | zero => intro P h; rw [List.eq_nil_of_length_eq_zero h]; exact Nat.le_refl _
  | succ k ih =>
    intro P h
    have e : P = P.take k ++ [P[k]'(by omega)] := by
      rw [← List.take_succ_eq_append_getElem (by omega), List.take_of_length_le (by omega)]
    rw [e, chL_snoc, chS, List.length_append]
    have := popF_le (P[k]'(by omega)) (chL (P.take k))
    have h2 := ih (P.take k) (by simp; omega)
    simp; omega
theorem chL_pos {P : List P2} (h : 1 ≤ P.length) : 1 ≤ (chL P).length := by
  have e : P = P.dropLast ++ [P.getLast (by intro e; rw [e] at h; simp at h)] := (List.dropLast_concat_getLast _).symm
  rw [e, chL_snoc, chS]; simp
theorem chL_two {P : List P2} (h : 2 ≤ P.length) : 2 ≤ (chL P).length := by
  have e : P = P.dropLast ++ [P.getLast (by intro e; rw [e] at h; simp at h)] := (List.dropLast_concat_getLast _).symm
  rw [e, chL_snoc, chS, List.length_append]
  have := popF_ge (P.getLast (by intro e; rw [e] at h; simp at h)) (chL P.dropLast) (chL_pos (by rw [List.length_dropLast]; omega))
  simp; omega
theorem chL_sub (P : List P2) : ∀ x ∈ chL P, x ∈ P := by
  have key : ∀ (k : Nat) (P : List P2), P.length = k → ∀ x ∈ chL P, x ∈ P := by
    intro k
    induction k with
    | zero => intro P h x hx; rw [List.eq_nil_of_length_eq_zero h] at hx; simp [chL] at hx
    | succ k ih =>
      intro P h x hx
      have e : P = P.take k ++ [P[k]'(by omega)] := by
        rw [← List.take_succ_eq_append_getElem (by omega), List.take_of_length_le (by omega)]
      rw [e, chL_snoc, chS, List.mem_append] at hx
      rw [e, List.mem_append]
      rcases hx with hx | hx
      · exact .inl (ih (P.take k) (by simp; omega) x (popF_sub _ _ x hx))
      · exact .inr hx
  exact key P.length P rfl

/-! ### Repetitions -/
theorem cross_same (a b : P2) : crossP a b b = 0 := by
  simp only [crossP, crossI]
  rw [Int.mul_comm]; omega
theorem cross_point (a p : P2) : crossP a a p = 0 := by
  simp [crossP, crossI]
theorem gt_snoc (N : List P2) (x : P2) : gt (N ++ [x]) N.length = x := by
  rw [gt_at (by simp)]; simp
theorem gt_snoc2 (N : List P2) (a x : P2) : gt (N ++ [a] ++ [x]) N.length = a := by
  rw [gt_at (by simp)]; simp
/-- A point that is pushed twice. -/
theorem chS_twice {N : List P2} {x : P2} (hN : bendB N x = false) (h1 : 1 ≤ N.length) : chS (N ++ [x]) x = N ++ [x] := by
  have e : N = N.dropLast ++ [N.getLast (by intro e; rw [e] at h1; simp at h1)] := (List.dropLast_concat_getLast _).symm
  have hb : bendB (N ++ [x]) x = true := by
    have hl : (N ++ [x]).length = N.length + 1 := by simp
    have g1 : gt (N ++ [x]) ((N ++ [x]).length - 1) = x := by rw [hl, Nat.add_sub_cancel]; exact gt_snoc N x
    have hlf : lfB (gt (N ++ [x]) ((N ++ [x]).length - 2)) x x = false := by simp [lfB, cross_same]
    unfold bendB
    rw [g1, hlf, hl]
    simp; omega
  unfold chS
  rw [popF_yes hb, List.dropLast_concat, popF_no hN]
theorem chS_point (x p : P2) : chS [x, x] p = [x, p] := by
  have hb : bendB [x, x] p = true := by
    have h1 : gt [x, x] ([x, x].length - 2) = x := rfl
    have h2 : gt [x, x] ([x, x].length - 1) = x := rfl
    unfold bendB
    rw [h1, h2]
    simp [lfB, cross_point]
  have hn : bendB [x] p = false := by simp [bendB]
  unfold chS
  rw [popF_yes hb]
  show popF p [x] ++ [p] = _
  rw [popF_no hn]; rfl
theorem chS_one (x p : P2) : chS [x] p = [x, p] := by
  have hn : bendB [x] p = false := by simp [bendB]
  unfold chS
  rw [popF_no hn]; rfl

def ddA (D : List P2) (p : P2) : List P2 := if D.getLast? = some p then D else D ++ [p]
def ddL (S : List P2) : List P2 := S.foldl ddA []
theorem ddL_snoc (S : List P2) (p : P2) : ddL (S ++ [p]) = ddA (ddL S) p := by simp [ddL]
/-- The chains of a list and of the list without repetitions. -/
theorem dd_chain : ∀ (k : Nat) (S : List P2), S.length = k → (k = 0 ∧ ddL S = []) ∨ (∃ N x, chL (ddL S) = N ++ [x] ∧ bendB N x = false ∧ (ddL S).getLast? = some x ∧ (chL S = N ++ [x] ∨ (N = [] ∧ ddL S = [x] ∧ chL S = [x, x]))) := by
  intro k
  induction k with
  | zero => intro S h; rw [List.eq_nil_of_length_eq_zero h]; exact .inl ⟨rfl, rfl⟩
  | succ k ih =>
    intro S h
    obtain ⟨T, p, rfl, hT⟩ : ∃ T p, S = T ++ [p] ∧ T.length = k :=
      ⟨S.dropLast, S.getLast (by intro e; rw [e] at h; simp at h), (List.dropLast_concat_getLast _).symm, by rw [List.length_dropLast]; omega⟩
    refine .inr ?_
    rw [ddL_snoc, chL_snoc]
    rcases ih T hT with ⟨h0, hd⟩ | ⟨N, x, h1, h2, h3, h4⟩
    · obtain rfl : T = [] := List.eq_nil_of_length_eq_zero (by omega)
      rw [hd]
      exact ⟨[], p, by simp [ddA, chL, chS, popF, popC], by simp [bendB], by simp [ddA], .inl (by simp [chL, chS, popF, popC])⟩
    · by_cases hx : x = p
      · subst hx
        have hd : ddA (ddL T) x = ddL T := by unfold ddA; rw [if_pos h3]
        rw [hd]
        refine ⟨N, x, h1, h2, h3, ?_⟩
        rcases h4 with h4 | ⟨rfl, h5, h6⟩
        · rw [h4]
          by_cases hN : 1 ≤ N.length
          · exact .inl (chS_twice h2 hN)
          · obtain rfl : N = [] := List.eq_nil_of_length_eq_zero (by omega)
            refine .inr ⟨rfl, ?_, by rw [List.nil_append, chS_one]⟩
            have hl : ¬ 2 ≤ (ddL T).length := fun h => by have := chL_two h; rw [h1] at this; simp at this
            match hdt : ddL T, hl with
            | [], _ => rw [hdt] at h3; simp at h3
            | [y], _ => rw [hdt] at h3; simp at h3; rw [h3]
            | y :: z :: r, hl => simp at hl
        · rw [h6, chS_point]
          exact .inr ⟨rfl, h5, rfl⟩
      · have hd : ddA (ddL T) p = ddL T ++ [p] := by
          unfold ddA
          rw [if_neg]
          rw [h3]; simpa using hx
        rw [hd, chL_snoc]
        refine ⟨popF p (chL (ddL T)), p, rfl, popF_stop _ _, by simp, .inl ?_⟩
        rcases h4 with h4 | ⟨rfl, h5, h6⟩
        · rw [h4, h1]; rfl
        · rw [h6, chS_point, h1, List.nil_append]
          have := chS_one x p
          unfold chS at this
          rw [this]
theorem dd_chain_eq {S : List P2} (h : 2 ≤ (ddL S).length) : chL S = chL (ddL S) := by
  rcases dd_chain S.length S rfl with ⟨_, h0⟩ | ⟨N, x, h1, _, _, h4⟩
  · rw [h0] at h; simp at h
  · rcases h4 with h4 | ⟨_, h5, _⟩
    · rw [h4, h1]
    · rw [h5] at h; simp at h
theorem dd_chain_short {S : List P2} (h : (ddL S).length < 2) : (chL S).length ≤ 2 := by
  rcases dd_chain S.length S rfl with ⟨h1, h0⟩ | ⟨N, x, h1, _, _, h4⟩
  · rw [List.eq_nil_of_length_eq_zero h1]; simp [chL]
  · rcases h4 with h4 | ⟨_, _, h6⟩
    · rw [h4, ← h1]
      have := chL_len _ (ddL S) rfl
      omega
    · rw [h6]; simp

/-! ### Sorted lists -/
theorem bef_irrefl (a : P2) : befP a a = false := by rw [befP_no]; omega
theorem bef_trans {a b c : P2} (h1 : befP a b = true) (h2 : befP b c = true) : befP a c = true := by rw [befP_iff] at *; omega
theorem bef_asym {a b : P2} (h1 : befP a b = true) (h2 : befP b a = true) : False := by rw [befP_iff] at *; omega
theorem bef_total {a b : P2} (h1 : befP a b = false) (h2 : befP b a = false) : a = b := by
  rw [befP_no] at *
  apply Prod.ext <;> omega
theorem bef_of_not {a b : P2} (h1 : befP b a = false) (h2 : a ≠ b) : befP a b = true := by
  cases h : befP a b
  · exact absurd (bef_total h h1) h2
  · rfl
theorem uniq : ∀ (l m : List P2), l.Pairwise (fun a b => befP a b = true) → m.Pairwise (fun a b => befP a b = true) → (∀ x, x ∈ l ↔ x ∈ m) → l = m
  | [], m, _, _, h => by
    cases m with
    | nil => rfl
    | cons b u => exact absurd ((h b).2 (by simp)) (by simp)
  | a :: t, [], _, _, h => absurd ((h a).1 (by simp)) (by simp)
  | a :: t, b :: u, h1, h2, h => by
    obtain ⟨ha, ht⟩ := List.pairwise_cons.1 h1
    obtain ⟨hb, hu⟩ := List.pairwise_cons.1 h2
    have e : a = b := by
      have m1 := (h a).1 (by simp)
      have m2 := (h b).2 (by simp)
      rcases List.mem_cons.1 m1 with e | m1
      · exact e
      · rcases List.mem_cons.1 m2 with e | m2
        · exact e.symm
        · exact (bef_asym (ha b m2) (hb a m1)).elim
    subst e
    rw [uniq t u ht hu]
    intro x
    constructor
    · intro hx
      rcases List.mem_cons.1 ((h x).1 (List.mem_cons_of_mem _ hx)) with e | h3
      · subst e; have := ha x hx; rw [bef_irrefl] at this; cases this
      · exact h3
    · intro hx
      rcases List.mem_cons.1 ((h x).2 (List.mem_cons_of_mem _ hx)) with e | h3
      · subst e; have := hb x hx; rw [bef_irrefl] at this; cases this
      · exact h3
theorem dd_mem : ∀ (k : Nat) (S : List P2), S.length = k → ∀ x, x ∈ ddL S ↔ x ∈ S := by
  intro k
  induction k with
  | zero => intro S h x; rw [List.eq_nil_of_length_eq_zero h]; simp [ddL]
  | succ k ih =>
    intro S h x
    obtain ⟨T, p, rfl, hT⟩ : ∃ T p, S = T ++ [p] ∧ T.length = k :=
      ⟨S.dropLast, S.getLast (by intro e; rw [e] at h; simp at h), (List.dropLast_concat_getLast _).symm, by rw [List.length_dropLast]; omega⟩
    rw [ddL_snoc]
    unfold ddA
    have i := ih T hT
    split
    · rename_i hl
      have hp : p ∈ T := (i p).1 (List.mem_of_getLast? hl)
      rw [i x, List.mem_append]
      constructor
      · exact .inl
      · rintro (h | h)
        · exact h
        · simp at h; subst h; exact hp
    · rw [List.mem_append, List.mem_append, i x]
/-- Ascending behind each other: no later one lies before an earlier one. -/
theorem dd_sorted (r : P2 → P2 → Bool) (ht : ∀ a b, r a b = false → r b a = false → a = b) (htr : ∀ a b c, r a b = true → r b c = true → r a c = true) : ∀ (k : Nat) (S : List P2), S.length = k → S.Pairwise (fun a b => r b a = false) → (ddL S).Pairwise (fun a b => r a b = true) := by
  intro k
  induction k with
  | zero => intro S h _; rw [List.eq_nil_of_length_eq_zero h]; simp [ddL]
  | succ k ih =>
    intro S h hS
    obtain ⟨T, p, rfl, hT⟩ : ∃ T p, S = T ++ [p] ∧ T.length = k :=
      ⟨S.dropLast, S.getLast (by intro e; rw [e] at h; simp at h), (List.dropLast_concat_getLast _).symm, by rw [List.length_dropLast]; omega⟩
    rw [ddL_snoc]
    obtain ⟨hT1, _, hT2⟩ := List.pairwise_append.1 hS
    have i := ih T hT hT1
    unfold ddA
    split
    · exact i
    · rename_i hl
      refine List.pairwise_append.2 ⟨i, by simp, fun a ha b hb => ?_⟩
      simp only [List.mem_singleton] at hb
      subst hb
      have haT := (dd_mem _ T rfl a).1 ha
      cases hrab : r a b
      · exfalso
        have hrba := hT2 a haT b (by simp)
        have e := ht a b hrab hrba
        subst e
        -- a lies in the list without repetitions, yet not at its end
        obtain ⟨D, z, hD⟩ : ∃ D z, ddL T = D ++ [z] := ⟨(ddL T).dropLast, (ddL T).getLast (by intro e; rw [e] at ha; simp at ha), (List.dropLast_concat_getLast _).symm⟩
        rw [hD] at ha hl i
        rw [List.mem_append] at ha
        rcases ha with ha | ha
        · have h1 := (List.pairwise_append.1 i).2.2 a ha z (by simp)
          have hz : z ∈ T := (dd_mem _ T rfl z).1 (by rw [hD]; simp)
          have h2 := hT2 z hz a (by simp)
          rw [h1] at h2; cases h2
        · simp at ha; subst ha; simp at hl
      · rfl
end Go.Proofs.Ytplccidmedkfaaa
