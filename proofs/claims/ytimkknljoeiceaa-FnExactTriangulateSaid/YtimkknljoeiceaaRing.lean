/-
  Polygons by their sides as a set: from another corner; without a straight corner.
-/
import Derived.Test.YtimkknljoeiceaaCyc
namespace Go.Proofs.Ytimkknljoeiceaa
open Go.RowKit

abbrev Pt := Int × Int
def consec (l : List Pt) : List (Pt × Pt) := l.zip l.tail
def sidesL : List Pt → List (Pt × Pt)
  | [] => []
  | x :: xs => consec (x :: xs ++ [x])
def Good (L : List Pt) : Prop := (3 ≤ L.length ∧ L.length ≤ 10) ∧ allOk L = true ∧ L.Nodup ∧ ∀ s ∈ sidesL L, ∀ t ∈ sidesL L, s ≠ t →
  (s.2 = t.1 → onP t.1 t.2 s.1 = false ∧ onP s.1 s.2 t.2 = false) ∧ (s.2 ≠ t.1 → t.2 ≠ s.1 → meetI s.1 s.2 t.1 t.2 = 0)
theorem sides_eq (L : List Pt) : sidesL L = (List.range L.length).map fun i => (gt L i, gt L (nx L i)) := by
  cases L with
  | nil => rfl
  | cons x xs =>
    apply List.ext_getElem
    · simp [sidesL, consec]
    · intro i h1 h2
      have hi : i < xs.length + 1 := by simpa using h2
      have hn : nx (x :: xs) i = if i + 1 = xs.length + 1 then 0 else i + 1 := nx_eq (L := x :: xs) (by simpa using hi)
      simp only [sidesL, consec, List.getElem_zip, List.getElem_map, List.getElem_range, hn, List.cons_append, List.tail_cons]
      have e1 : (x :: (xs ++ [x]))[i]'(by simp; omega) = gt (x :: xs) i := by
        rw [gt_at (by simpa using hi)]
        cases i with
        | zero => rfl
        | succ i =>
          simp only [List.getElem_cons_succ]
          rw [List.getElem_append_left (by omega)]
      rw [e1]
      congr 1
      by_cases h : i + 1 = xs.length + 1
      · rw [if_pos h, List.getElem_append_right (by omega)]
        simp [gt]
      · rw [if_neg h, List.getElem_append_left (by omega), gt_at (by simp; omega)]
        rfl
theorem mem_sides {L : List Pt} {s : Pt × Pt} : s ∈ sidesL L ↔ ∃ i, i < L.length ∧ s = (gt L i, gt L (nx L i)) := by
  rw [sides_eq]
  simp only [List.mem_map, List.mem_range]
  constructor
  · rintro ⟨i, hi, rfl⟩; exact ⟨i, hi, rfl⟩
  · rintro ⟨i, hi, rfl⟩; exact ⟨i, hi, rfl⟩
theorem nodup_iff {L : List Pt} : L.Nodup ↔ ∀ i k, i < k → k < L.length → gt L i ≠ gt L k := by
  rw [List.nodup_iff_pairwise_ne, List.pairwise_iff_getElem]
  constructor
  · intro h i k hi hk
    rw [gt_at (by omega), gt_at hk]
    exact h i k (by omega) hk hi
  · intro h i k hi hk hik
    have := h i k hik hk
    rw [gt_at hi, gt_at hk] at this
    exact this
theorem gt_inj {L : List Pt} (h : L.Nodup) {i k : Nat} (hi : i < L.length) (hk : k < L.length) (e : gt L i = gt L k) : i = k := by
  rcases Nat.lt_trichotomy i k with h1 | h1 | h1
  · exact absurd e (nodup_iff.1 h i k h1 hk)
  · exact h1
  · exact absurd e.symm (nodup_iff.1 h k i h1 hi)
theorem touch_one {a b c : Pt} (h1 : onP b c a = false) (h2 : onP a b c = false) : meetI a b b c = 1 := by
  have ho : opp a b b c = false := by
    have : crossP a b b = 0 := by unfold crossP crossI; grind
    cases h : opp a b b c
    · rfl
    · rw [opp_iff] at h; omega
  have hs : sharedS a b b c = [b, b] := by
    simp only [sharedS, List.filter_cons, List.filter_nil, h1, h2, on_left, on_right]
    rfl
  unfold meetI
  rw [ho, hs, Bool.false_and]
  simp [sameAll]
theorem one_touch {a b c : Pt} (hab : a ≠ b) (hbc : b ≠ c) (h : meetI a b b c = 1) : onP b c a = false ∧ onP a b c = false := by
  have hb : b ∈ sharedS a b b c := mem_shared.2 (.inl ⟨.inr rfl, on_left b c⟩)
  constructor
  · cases h1 : onP b c a
    · rfl
    · exact absurd (meet_one h a b (mem_shared.2 (.inl ⟨.inl rfl, h1⟩)) hb) hab
  · cases h1 : onP a b c
    · rfl
    · exact absurd (meet_one h b c hb (mem_shared.2 (.inr ⟨.inr rfl, h1⟩))) hbc
theorem poly_good {L : List Pt} (h : polyB L = true) : Good L := by
  obtain ⟨hn, hok, hne, hp⟩ := polyB_spec h
  have hnd : L.Nodup := by
    rw [nodup_iff]
    intro i k hik hk e
    have h1 := hp i k hik hk
    have hs : meetI (gt L i) (gt L (nx L i)) (gt L k) (gt L (nx L k)) ≠ 0 := by
      intro h0
      obtain ⟨_, h2, _⟩ := meet_zero.1 h0
      rw [e, on_left] at h2
      cases h2
    have ha : adjB L.length i k = true := by
      cases ha : adjB L.length i k
      · rw [ha] at h1; exact absurd h1 hs
      · rfl
    simp only [adjB, Bool.or_eq_true, Bool.and_eq_true, beq_iff_eq] at ha
    rcases ha with ha | ha
    · have := hne i (by omega)
      rw [nx_eq (by omega), if_neg (by omega), ← ha] at this
      exact this e
    · have := hne k hk
      rw [nx_eq hk, if_pos (by omega), ← ha.1] at this
      exact this e.symm
  have key : ∀ i k, i < k → k < L.length → (meetI (gt L i) (gt L (nx L i)) (gt L k) (gt L (nx L k)) = if nx L i = k ∨ nx L k = i then 1 else 0) := by
    intro i k hik hk
    have h1 := hp i k hik hk
    unfold pairM at h1
    have e : adjB L.length i k = true ↔ (nx L i = k ∨ nx L k = i) := by
      rw [nx_eq (by omega), nx_eq hk]
      simp only [adjB, Bool.or_eq_true, Bool.and_eq_true, beq_iff_eq]
      rw [if_neg (by omega)]
      by_cases hl : k + 1 = L.length
      · rw [if_pos hl]; omega
      · rw [if_neg hl]; omega
    cases ha : adjB L.length i k
    · rw [ha] at h1
      rw [if_neg (fun h => by rw [e.2 h] at ha; cases ha)]
      exact h1
    · rw [ha] at h1
      rw [if_pos (e.1 ha)]
      exact h1
  have key2 : ∀ i k, i ≠ k → i < L.length → k < L.length → (meetI (gt L i) (gt L (nx L i)) (gt L k) (gt L (nx L k)) = if nx L i = k ∨ nx L k = i then 1 else 0) := by
    intro i k hik hi hk
    rcases Nat.lt_or_gt_of_ne hik with h1 | h1
    · exact key i k h1 hk
    · have := key k i h1 hi
      rw [meetI_swap, this]
      by_cases hc : nx L i = k ∨ nx L k = i
      · rw [if_pos hc, if_pos hc.symm]
      · rw [if_neg hc, if_neg (fun h => hc h.symm)]
  refine ⟨hn, hok, hnd, ?_⟩
  intro s hs t ht hst
  obtain ⟨i, hi, rfl⟩ := mem_sides.1 hs
  obtain ⟨k, hk, rfl⟩ := mem_sides.1 ht
  have hik : i ≠ k := fun e => hst (by rw [e])
  have hm := key2 i k hik hi hk
  constructor
  · intro e
    have e' : nx L i = k := gt_inj hnd (nx_lt (by omega) i) hk e
    rw [if_pos (.inl e'), e'] at hm
    show onP (gt L k) (gt L (nx L k)) (gt L i) = false ∧ onP (gt L i) (gt L (nx L i)) (gt L (nx L k)) = false
    rw [e']
    have h1 := hne i hi
    rw [e'] at h1
    exact one_touch h1 (hne k hk) hm
  · intro e1 e2
    rw [if_neg (fun h => by
      rcases h with h | h
      · exact e1 (congrArg (gt L) h)
      · exact e2 (congrArg (gt L) h))] at hm
    exact hm
theorem good_poly {L : List Pt} (h : Good L) : polyB L = true := by
  obtain ⟨hn, hok, hnd, hg⟩ := h
  have hin : inB (L.length : Int) 3 10 = true := inB_spec.2 (by omega)
  have hne : ∀ i, i < L.length → gt L i ≠ gt L (nx L i) := fun i hi e => by
    have := gt_inj hnd hi (nx_lt (by omega) i) e
    rw [nx_eq hi] at this
    by_cases hl : i + 1 = L.length
    · rw [if_pos hl] at this; omega
    · rw [if_neg hl] at this; omega
  have h1 : nbB L = true := nb_true (fun i hi => by
    cases he : eqQ (gt L i) (gt L ((i + 1) % L.length))
    · rfl
    · exact absurd ((eqQ_iff _ _).1 he) (hne i hi))
  have h2 : pairsB L = true := pairs_true (fun i hi k hik hk => by
    have hs : (gt L i, gt L (nx L i)) ∈ sidesL L := mem_sides.2 ⟨i, hi, rfl⟩
    have ht : (gt L k, gt L (nx L k)) ∈ sidesL L := mem_sides.2 ⟨k, hk, rfl⟩
    have hst : (gt L i, gt L (nx L i)) ≠ (gt L k, gt L (nx L k)) := fun e => by
      have := gt_inj hnd hi hk (Prod.ext_iff.1 e).1; omega
    have hg1 := hg _ hs _ ht hst
    have hg2 := hg _ ht _ hs (Ne.symm hst)
    have hm : meetI (gt L i) (gt L (nx L i)) (gt L k) (gt L (nx L k)) = if nx L i = k ∨ nx L k = i then 1 else 0 := by
      by_cases h1 : nx L i = k
      · rw [if_pos (.inl h1)]
        have := hg1.1 (congrArg (gt L) h1)
        simp only [h1] at this ⊢
        exact touch_one this.1 this.2
      · by_cases h2 : nx L k = i
        · rw [if_pos (.inr h2)]
          have := hg2.1 (congrArg (gt L) h2)
          rw [meetI_swap]
          simp only [h2] at this ⊢
          exact touch_one this.1 this.2
        · rw [if_neg (by rintro (h | h) <;> contradiction)]
          exact hg1.2 (fun e => h1 (gt_inj hnd (nx_lt (by omega) i) hk e)) (fun e => h2 (gt_inj hnd (nx_lt (by omega) k) hi e))
    have e : adjB L.length i k = true ↔ (nx L i = k ∨ nx L k = i) := by
      rw [nx_eq (by omega), nx_eq hk]
      simp only [adjB, Bool.or_eq_true, Bool.and_eq_true, beq_iff_eq]
      rw [if_neg (by omega)]
      by_cases hl : k + 1 = L.length
      · rw [if_pos hl]; omega
      · rw [if_neg hl]; omega
    unfold pairOk pairM
    rw [show (i + 1) % L.length = nx L i from rfl, show (k + 1) % L.length = nx L k from rfl, hm]
    cases ha : adjB L.length i k
    · rw [if_neg (fun h => by rw [e.2 h] at ha; cases ha)]; rfl
    · rw [if_pos (e.1 ha)]; rfl)
  rw [polyB, hin, hok, h1, h2]; rfl
theorem poly_iff (L : List Pt) : polyB L = true ↔ Good L := ⟨poly_good, good_poly⟩
end Go.Proofs.Ytimkknljoeiceaa
