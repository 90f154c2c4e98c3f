/-
  The hull of the model as plain lists, and that the program's is the same.
-/
import Derived.Test.YtplccidmedkfaaaChain
namespace Go.Proofs.Ytplccidmedkfaaa
open Go.RowKit

def slotC (x : P2) (M : List P2) : Nat → Nat
  | 0 => 0
  | k + 1 => bif befP x (gt M k) then slotC x M k else k + 1
def insD (M : List P2) (x : P2) : List P2 :=
  bif decide (0 < slotC x M M.length) && (gt M (slotC x M M.length - 1)).1 == x.1 && (gt M (slotC x M M.length - 1)).2 == x.2 then M else M.take (slotC x M M.length) ++ x :: M.drop (slotC x M M.length)
def sortD (L : List P2) : List P2 := L.foldl insD []
theorem sortD_snoc (L : List P2) (x : P2) : sortD (L ++ [x]) = insD (sortD L) x := by simp [sortD]
theorem sortD_take {L : List P2} {k : Nat} (h : k < L.length) : sortD (L.take (k + 1)) = insD (sortD (L.take k)) (gt L k) := by
  rw [List.take_succ_eq_append_getElem h, sortD_snoc, gt_at h]
theorem slot_spec (x : P2) (M : List P2) : ∀ n, slotC x M n ≤ n ∧ (∀ j, slotC x M n ≤ j → j < n → befP x (gt M j) = true) ∧ (slotC x M n = 0 ∨ befP x (gt M (slotC x M n - 1)) = false) := by
  intro n
  induction n with
  | zero => exact ⟨Nat.le_refl _, fun j _ h => by omega, .inl rfl⟩
  | succ n ih =>
    cases h : befP x (gt M n)
    · have e : slotC x M (n + 1) = n + 1 := by rw [slotC, h]; rfl
      rw [e]
      exact ⟨Nat.le_refl _, fun j h1 h2 => by omega, .inr (by simpa using h)⟩
    · have e : slotC x M (n + 1) = slotC x M n := by rw [slotC, h]; rfl
      rw [e]
      obtain ⟨i1, i2, i3⟩ := ih
      refine ⟨by omega, fun j h1 h2 => ?_, i3⟩
      rcases Nat.lt_or_ge j n with h3 | h3
      · exact i2 j h1 h3
      · obtain rfl : j = n := by omega
        exact h
theorem insD_len (M : List P2) (x : P2) : (insD M x).length ≤ M.length + 1 := by
  unfold insD
  have := (slot_spec x M M.length).1
  cases h : decide (0 < slotC x M M.length) && (gt M (slotC x M M.length - 1)).1 == x.1 && (gt M (slotC x M M.length - 1)).2 == x.2
  · simp; omega
  · simp
theorem sortD_len : ∀ (k : Nat) (L : List P2), L.length = k → (sortD L).length ≤ k := by
  intro k
  induction k with
  | zero => intro L h; rw [List.eq_nil_of_length_eq_zero h]; exact Nat.le_refl _
  | succ k ih =>
    intro L h
    have e : L = L.take k ++ [L[k]'(by omega)] := by
      rw [← List.take_succ_eq_append_getElem (by omega), List.take_of_length_le (by omega)]
    rw [e, sortD_snoc]
    have := insD_len (sortD (L.take k)) (L[k]'(by omega))
    have h2 := ih (L.take k) (by simp; omega)
    omega
theorem insD_mem (M : List P2) (x y : P2) : y ∈ insD M x ↔ y ∈ M ∨ y = x := by
  unfold insD
  cases h : decide (0 < slotC x M M.length) && (gt M (slotC x M M.length - 1)).1 == x.1 && (gt M (slotC x M M.length - 1)).2 == x.2
  · simp only [cond_false, List.mem_append, List.mem_cons]
    have e := List.take_append_drop (slotC x M M.length) M
    have hm : y ∈ M ↔ y ∈ M.take (slotC x M M.length) ∨ y ∈ M.drop (slotC x M M.length) := by
      rw [← List.mem_append, e]
    rw [hm]
    constructor
    · rintro (h | h | h)
      · exact .inl (.inl h)
      · exact .inr h
      · exact .inl (.inr h)
    · rintro ((h | h) | h)
      · exact .inl h
      · exact .inr (.inr h)
      · exact .inr (.inl h)
  · simp only [Bool.and_eq_true, decide_eq_true_eq, beq_iff_eq] at h
    obtain ⟨⟨h0, h1⟩, h2⟩ := h
    have hle := (slot_spec x M M.length).1
    have hx : x ∈ M := by
      have e : gt M (slotC x M M.length - 1) = x := Prod.ext h1 h2
      rw [gt_at (by omega)] at e
      rw [← e]; exact List.getElem_mem _
    simp only [cond_true]
    constructor
    · exact .inl
    · rintro (h | h)
      · exact h
      · rw [h]; exact hx
theorem insD_sorted {M : List P2} (x : P2) (hM : M.Pairwise (fun a b => befP a b = true)) : (insD M x).Pairwise (fun a b => befP a b = true) := by
  obtain ⟨s1, s2, s3⟩ := slot_spec x M M.length
  unfold insD
  cases h : decide (0 < slotC x M M.length) && (gt M (slotC x M M.length - 1)).1 == x.1 && (gt M (slotC x M M.length - 1)).2 == x.2
  · simp only [cond_false]
    generalize slotC x M M.length = k at *
    have e := List.take_append_drop k M
    rw [← e] at hM
    obtain ⟨h1, h2, h3⟩ := List.pairwise_append.1 hM
    have hdrop : ∀ b ∈ M.drop k, befP x b = true := fun b hb => by
      obtain ⟨j, hj, rfl⟩ := List.getElem_of_mem hb
      rw [List.length_drop] at hj
      rw [List.getElem_drop, ← gt_at (show k + j < M.length by omega)]
      exact s2 (k + j) (by omega) (by omega)
    have htake : ∀ a ∈ M.take k, befP a x = true := fun a ha => by
      have hk0 : 0 < k := by
        rcases Nat.eq_zero_or_pos k with h0 | h0
        · rw [h0] at ha; simp at ha
        · exact h0
      have hb : befP x (gt M (k - 1)) = false := by
        rcases s3 with s3 | s3
        · omega
        · exact s3
      have hne : gt M (k - 1) ≠ x := by
        intro he
        rw [he] at h
        simp [hk0] at h
      have hl : befP (gt M (k - 1)) x = true := bef_of_not hb hne
      obtain ⟨j, hj, rfl⟩ := List.getElem_of_mem ha
      rw [List.length_take] at hj
      rw [List.getElem_take]
      rcases Nat.lt_or_ge j (k - 1) with h4 | h4
      · refine bef_trans ?_ hl
        have hp : M.Pairwise (fun a b => befP a b = true) := by rw [← e]; exact hM
        rw [List.pairwise_iff_getElem] at hp
        rw [gt_at (show k - 1 < M.length by omega)]
        exact hp j (k - 1) (by omega) (by omega) h4
      · have hjk : j = k - 1 := by omega
        subst hjk
        rw [← gt_at (show k - 1 < M.length by omega)]
        exact hl
    refine List.pairwise_append.2 ⟨h1, List.pairwise_cons.2 ⟨hdrop, h2⟩, fun a ha b hb => ?_⟩
    rcases List.mem_cons.1 hb with e | hb
    · rw [e]; exact htake a ha
    · exact h3 a ha b hb
  · exact hM
theorem sortD_spec : ∀ (k : Nat) (L : List P2), L.length = k → (sortD L).Pairwise (fun a b => befP a b = true) ∧ ∀ x, x ∈ sortD L ↔ x ∈ L := by
  intro k
  induction k with
  | zero => intro L h; rw [List.eq_nil_of_length_eq_zero h]; simp [sortD]
  | succ k ih =>
    intro L h
    have e : L = L.take k ++ [L[k]'(by omega)] := by
      rw [← List.take_succ_eq_append_getElem (by omega), List.take_of_length_le (by omega)]
    obtain ⟨i1, i2⟩ := ih (L.take k) (by simp; omega)
    rw [e, sortD_snoc]
    refine ⟨insD_sorted _ i1, fun x => ?_⟩
    rw [insD_mem, i2 x, List.mem_append]
    simp
theorem sorted_pairwise {S : List P2} (h : sortedP S) : S.Pairwise (fun a b => befP b a = false) := by
  rw [List.pairwise_iff_getElem]
  intro i j hi hj hij
  have := h i j hij hj
  rw [gt_at hj, gt_at hi] at this
  exact this
theorem dd_sort {S L : List P2} (hp : S.Perm L) (hs : sortedP S) : ddL S = sortD L := by
  obtain ⟨h1, h2⟩ := sortD_spec _ L rfl
  refine uniq _ _ (dd_sorted befP (fun a b => bef_total) (fun a b c => bef_trans) _ S rfl (sorted_pairwise hs)) h1 fun x => ?_
  rw [dd_mem _ S rfl x, h2 x]
  exact hp.mem_iff
theorem dd_sort_rev {S L : List P2} (hp : S.Perm L) (hs : sortedP S) : ddL S.reverse = (sortD L).reverse := by
  obtain ⟨h1, h2⟩ := sortD_spec _ L rfl
  have hr : (ddL S.reverse).Pairwise (fun a b => befP b a = true) := dd_sorted (fun a b => befP b a) (fun a b h1 h2 => bef_total h2 h1) (fun a b c h1 h2 => bef_trans h2 h1) _ S.reverse rfl (List.pairwise_reverse.2 (sorted_pairwise hs))
  have e : (ddL S.reverse).reverse = sortD L := uniq _ _ (List.pairwise_reverse.2 hr) h1 fun x => by
    rw [List.mem_reverse, dd_mem _ S.reverse rfl x, List.mem_reverse, h2 x]
    exact hp.mem_iff
  rw [← e, List.reverse_reverse]

/-! ### The hull -/
def hullS (S : List P2) : List P2 := (chL S).dropLast ++ (chL S.reverse).dropLast
def hullM (L : List P2) : List P2 := bif decide ((sortD L).length < 3) then [] else hullS (sortD L)
theorem hullS_short {S : List P2} (h1 : (chL S).length ≤ 2) (h2 : (chL S.reverse).length ≤ 2) : (hullS S).length ≤ 2 := by
  unfold hullS
  rw [List.length_append, List.length_dropLast, List.length_dropLast]
  omega
theorem hull_same {S L : List P2} (hp : S.Perm L) (hs : sortedP S) : (3 ≤ (sortD L).length → hullS S = hullM L) ∧ ((sortD L).length < 3 → (hullS S).length ≤ 2 ∧ hullM L = []) := by
  have e1 := dd_sort hp hs
  have e2 := dd_sort_rev hp hs
  constructor
  · intro h
    have c1 := dd_chain_eq (S := S) (by rw [e1]; omega)
    have c2 := dd_chain_eq (S := S.reverse) (by rw [e2, List.length_reverse]; omega)
    have hd : decide ((sortD L).length < 3) = false := decide_eq_false (by omega)
    unfold hullM hullS
    rw [hd, c1, c2, e1, e2]
    rfl
  · intro h
    refine ⟨?_, by unfold hullM; rw [decide_eq_true h]; rfl⟩
    have k : ∀ T : List P2, (ddL T).length < 3 → (chL T).length ≤ 2 := fun T hT => by
      rcases Nat.lt_or_ge (ddL T).length 2 with h2 | h2
      · exact dd_chain_short h2
      · rw [dd_chain_eq h2]
        have := chL_len _ (ddL T) rfl
        omega
    exact hullS_short (k S (by rw [e1]; exact h)) (k S.reverse (by rw [e2, List.length_reverse]; exact h))
def hullOK (L : List P2) : Bool := decide (L.length ≤ 30) && (allOk L && inB ((hullM L).length : Int) 3 10)
def hullV (L : List P2) : List P2 := bif hullOK L then hullM L else []
end Go.Proofs.Ytplccidmedkfaaa
