/-
  Plain geometry: a polygon from another corner; without its straight corners; when two are the same.
-/
import Derived.Test.YtimkknljoeiceaaRing
import Derived.Test.YtimkknljoeiceaaStart
namespace Go.Proofs.Ytimkknljoeiceaa
open Go.RowKit

theorem consec_snoc (l : List Pt) (a b : Pt) : consec (l ++ [a] ++ [b]) = consec (l ++ [a]) ++ [(a, b)] := by
  induction l with
  | nil => rfl
  | cons x l ih =>
    cases l with
    | nil => rfl
    | cons y l =>
      have e1 : consec (x :: y :: l ++ [a] ++ [b]) = (x, y) :: consec (y :: l ++ [a] ++ [b]) := rfl
      have e2 : consec (x :: y :: l ++ [a]) = (x, y) :: consec (y :: l ++ [a]) := rfl
      rw [e1, e2, ih]; rfl
theorem good_of {L M : List Pt} (hl : M.length = L.length) (hm : ∀ p, p ∈ M ↔ p ∈ L) (hd : M.Nodup) (hs : ∀ s, s ∈ sidesL M → s ∈ sidesL L) (h : Good L) : Good M := by
  obtain ⟨h1, h2, h3, h4⟩ := h
  refine ⟨by rw [hl]; exact h1, ?_, hd, fun s hs1 t ht1 hst => h4 s (hs s hs1) t (hs t ht1) hst⟩
  simp only [allOk, List.all_eq_true] at h2 ⊢
  exact fun p hp => h2 p ((hm p).1 hp)
theorem sides_step (x y : Pt) (ys : List Pt) (s : Pt × Pt) : s ∈ sidesL (y :: ys ++ [x]) ↔ s ∈ sidesL (x :: y :: ys) := by
  have e1 : sidesL (x :: y :: ys) = (x, y) :: consec (y :: ys ++ [x]) := rfl
  have e2 : sidesL (y :: ys ++ [x]) = consec (y :: ys ++ [x] ++ [y]) := rfl
  rw [e1, e2, consec_snoc]
  rw [List.mem_append, List.mem_singleton, List.mem_cons]
  exact Or.comm
theorem good_step (x : Pt) (xs : List Pt) : Good (xs ++ [x]) ↔ Good (x :: xs) := by
  cases xs with
  | nil => exact Iff.rfl
  | cons y ys =>
    constructor
    · intro h
      refine good_of (L := y :: ys ++ [x]) (by simp) (fun p => by simp only [List.mem_cons, List.mem_append, List.not_mem_nil, or_false]; constructor <;> (intro h; rcases h with h | h | h <;> simp [h]) ) ?_ (fun s hs => (sides_step x y ys s).2 hs) h
      exact (List.perm_append_comm (l₁ := y :: ys) (l₂ := [x])).nodup_iff.1 h.2.2.1
    · intro h
      refine good_of (L := x :: y :: ys) (by simp) (fun p => by simp only [List.mem_cons, List.mem_append, List.not_mem_nil, or_false]; constructor <;> (intro h; rcases h with h | h | h <;> simp [h]) ) ?_ (fun s hs => (sides_step x y ys s).1 hs) h
      exact (List.perm_append_comm (l₁ := y :: ys) (l₂ := [x])).nodup_iff.2 h.2.2.1
theorem rotL_zero (L : List Pt) : rotL L 0 = L := by simp [rotL]
theorem rotL_succ {L : List Pt} {k : Nat} (hk : k < L.length) : ∃ x xs, rotL L k = x :: xs ∧ rotL L (k + 1) = xs ++ [x] := by
  refine ⟨L[k], L.drop (k + 1) ++ L.take k, ?_, ?_⟩
  · rw [rotL, List.drop_eq_getElem_cons hk]; rfl
  · rw [rotL, List.take_succ_eq_append_getElem hk, List.append_assoc]
theorem good_rot {L : List Pt} (h : Good L) : ∀ k, k ≤ L.length → Good (rotL L k) := by
  intro k
  induction k with
  | zero => intro _; rw [rotL_zero]; exact h
  | succ k ih =>
    intro hk
    obtain ⟨x, xs, e1, e2⟩ := rotL_succ (L := L) (k := k) (by omega)
    have := ih (by omega)
    rw [e1] at this
    rw [e2]
    exact (good_step x xs).2 this

/-! ### Without a straight corner -/
theorem cross_z (a b : Pt) : crossP a b b = 0 := by unfold crossP crossI; grind
theorem good_drop {b : Pt} {Y : List Pt} (h : Good (b :: Y)) (h4 : 3 ≤ Y.length) (hs : onP (gt Y (Y.length - 1)) (gt Y 0) b = true) : Good Y := by
  obtain ⟨h1, h2, h3, hg⟩ := h
  have hb : b ∉ Y := (List.nodup_cons.1 h3).1
  have hY : Y.Nodup := (List.nodup_cons.1 h3).2
  obtain ⟨c, Y', rfl⟩ : ∃ c Y', Y = c :: Y' := by
    cases Y with
    | nil => simp at h4
    | cons c Y' => exact ⟨c, Y', rfl⟩
  obtain ⟨a, ha⟩ : ∃ a, a = gt (c :: Y') ((c :: Y').length - 1) := ⟨_, rfl⟩
  have hc : gt (c :: Y') 0 = c := rfl
  rw [← ha, hc] at hs
  have hlast : c :: Y' = (c :: Y').dropLast ++ [a] := by
    have hl : (c :: Y').getLast (by simp) = a := by
      rw [ha, gt_at (by simp), List.getLast_eq_getElem]
    rw [← hl]
    exact (List.dropLast_concat_getLast _).symm
  have eL : sidesL (b :: c :: Y') = (b, c) :: consec (c :: Y') ++ [(a, b)] := by
    have e1 : sidesL (b :: c :: Y') = (b, c) :: consec (c :: Y' ++ [b]) := rfl
    rw [e1, hlast, consec_snoc]
    rfl
  have eY : sidesL (c :: Y') = consec (c :: Y') ++ [(a, c)] := by
    have e1 : sidesL (c :: Y') = consec (c :: Y' ++ [c]) := rfl
    rw [e1]
    conv => lhs; rw [hlast]
    rw [consec_snoc, ← hlast]
  have hbc : (b, c) ∈ sidesL (b :: c :: Y') := by rw [eL]; simp
  have hab : (a, b) ∈ sidesL (b :: c :: Y') := by rw [eL]; simp
  have hin : ∀ t, t ∈ consec (c :: Y') → t ∈ sidesL (b :: c :: Y') := fun t ht => by rw [eL]; simp [ht]
  have hmem : ∀ t, t ∈ consec (c :: Y') → t.1 ∈ c :: Y' ∧ t.2 ∈ c :: Y' := fun t ht => by
    have := List.of_mem_zip (a := t.1) (b := t.2) (l₁ := c :: Y') (l₂ := (c :: Y').tail) ht
    exact ⟨this.1, List.mem_of_mem_tail this.2⟩
  have haY : a ∈ c :: Y' := by rw [hlast]; simp
  have hba : b ≠ a := fun e => hb (e ▸ haY)
  have hbcn : b ≠ c := fun e => hb (e ▸ List.mem_cons_self)
  have hne1 : ∀ t, t ∈ consec (c :: Y') → t.1 ≠ b ∧ t.2 ≠ b := fun t ht => ⟨fun e => hb (e ▸ (hmem t ht).1), fun e => hb (e ▸ (hmem t ht).2)⟩
  -- a side from c does not lead to a
  have hca : ∀ t, t ∈ consec (c :: Y') → t.1 = c → t.2 ≠ a := fun t ht e1 e2 => by
    obtain ⟨i, hi, hti⟩ := mem_sides.1 (hin t ht)
    rw [hti] at e1 e2
    have k1 : gt (b :: c :: Y') i = gt (b :: c :: Y') 1 := e1
    have k2 := gt_inj h3 hi (by simp) k1
    have k3 : gt (b :: c :: Y') (nx (b :: c :: Y') i) = gt (b :: c :: Y') ((b :: c :: Y').length - 1) := by
      rw [show gt (b :: c :: Y') (nx (b :: c :: Y') i) = a from e2, ha]
      simp only [gt, List.length_cons, Nat.add_sub_cancel]
      cases hY' : Y'.length with
      | zero => simp at h4; omega
      | succ n => simp
    have k4 := gt_inj h3 (nx_lt (by simp) i) (by simp) k3
    rw [nx_eq hi] at k4
    simp only [List.length_cons] at k4 h4
    by_cases hl : i + 1 = Y'.length + 1 + 1
    · rw [if_pos hl] at k4; omega
    · rw [if_neg hl] at k4; omega
  have hac : a ≠ c := fun e => by
    have : gt (c :: Y') ((c :: Y').length - 1) = gt (c :: Y') 0 := by rw [← ha, e]; rfl
    have := gt_inj hY (by simp) (by simp) this
    simp only [List.length_cons] at this h4; omega
  -- the new side meets no other one
  have new0 : ∀ t, t ∈ consec (c :: Y') → t.1 ≠ c → t.2 ≠ a → meetI a c t.1 t.2 = 0 := fun t ht k1 k2 => by
    obtain ⟨n1, n2⟩ := hne1 t ht
    have m1 := (hg _ hab _ (hin t ht) (fun e => n2 (Prod.ext_iff.1 e).2.symm)).2 (Ne.symm n1) k2
    have m2 := (hg _ hbc _ (hin t ht) (fun e => n1 (Prod.ext_iff.1 e).1.symm)).2 (Ne.symm k1) n2
    exact meet_merge hs hba hbcn m1 m2
  have new1 : ∀ t, t ∈ consec (c :: Y') → t.1 = c → onP t.1 t.2 a = false ∧ onP a c t.2 = false := fun t ht k1 => by
    obtain ⟨n1, n2⟩ := hne1 t ht
    have k2 := hca t ht k1
    have m1 := (hg _ hab _ (hin t ht) (fun e => n2 (Prod.ext_iff.1 e).2.symm)).2 (Ne.symm n1) k2
    have m2 := (hg _ hbc _ (hin t ht) (fun e => n1 (Prod.ext_iff.1 e).1.symm)).1 k1.symm
    obtain ⟨-, z1, -, -, z4⟩ := meet_zero.1 m1
    refine ⟨z1, ?_⟩
    cases hq : onP a c t.2
    · rfl
    · rcases on_part hs hq with h5 | h5
      · rw [show onP a b t.2 = false from z4] at h5; cases h5
      · rw [show onP b c t.2 = false from m2.2] at h5; cases h5
  have new2 : ∀ t, t ∈ consec (c :: Y') → t.2 = a → onP a c t.1 = false ∧ onP t.1 t.2 c = false := fun t ht k1 => by
    obtain ⟨n1, n2⟩ := hne1 t ht
    have k2 : t.1 ≠ c := fun e => hca t ht e k1
    have m1 := (hg _ (hin t ht) _ hab (fun e => n2 (Prod.ext_iff.1 e).2)).1 k1
    have m2 := (hg _ hbc _ (hin t ht) (fun e => n1 (Prod.ext_iff.1 e).1.symm)).2 (Ne.symm k2) n2
    obtain ⟨-, -, z2, z3, -⟩ := meet_zero.1 m2
    refine ⟨?_, z2⟩
    cases hq : onP a c t.1
    · rfl
    · rcases on_part hs hq with h5 | h5
      · rw [show onP a b t.1 = false from m1.1] at h5; cases h5
      · rw [show onP b c t.1 = false from z3] at h5; cases h5
  refine ⟨⟨h4, by have := h1.2; simp at this ⊢; omega⟩, ?_, hY, ?_⟩
  · simp only [allOk, List.all_eq_true] at h2 ⊢
    exact fun p hp => h2 p (List.mem_cons_of_mem _ hp)
  · intro s hs1 t ht1 hst
    rw [eY] at hs1 ht1
    simp only [List.mem_append, List.mem_cons, List.not_mem_nil, or_false] at hs1 ht1
    rcases hs1 with hs1 | rfl <;> rcases ht1 with ht1 | rfl
    · exact hg s (hin s hs1) t (hin t ht1) hst
    · refine ⟨fun e => ?_, fun e1 e2 => ?_⟩
      · have := new2 s hs1 e
        exact ⟨this.1, this.2⟩
      · rw [meetI_swap]
        exact new0 s hs1 (Ne.symm e2) e1
    · exact ⟨fun e => new1 t ht1 e.symm, fun e1 e2 => new0 t ht1 (Ne.symm e1) e2⟩
    · exact absurd rfl hst
end Go.Proofs.Ytimkknljoeiceaa
