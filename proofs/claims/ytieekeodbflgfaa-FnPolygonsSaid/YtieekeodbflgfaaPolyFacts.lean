/-
  Plain geometry: turned, straightened and begun elsewhere, a polygon is the same one.
-/
import Derived.Test.YtieekeodbflgfaaShape
import Derived.Test.YtieekeodbflgfaaSameFn
import Derived.Test.YtieekeodbflgfaaTwice
namespace Go.Proofs.Ytieekeodbflgfaa

theorem straight_all {L : List Pt} (h : ∀ i, i < L.length → bentB L i = true) : straightL L = L := by
  rw [straightL_eq, List.filter_eq_self.2 (fun i hi => h i (List.mem_range.1 hi))]
  apply List.ext_getElem (by simp)
  intro i h1 h2
  simp [gt_at h2]
/-- By straight corners. -/
theorem good_ind {P : List Pt → Prop} (step : ∀ x xs, P (xs ++ [x]) → P (x :: xs)) (bent : ∀ L, Good L → (∀ i, i < L.length → bentB L i = true) → P L)
    (drop : ∀ b Y, Good (b :: Y) → 3 ≤ Y.length → onP (gt Y (Y.length - 1)) (gt Y 0) b = true → b ∉ Y → bentB (b :: Y) 0 = false → Good Y → P Y → P (b :: Y)) : ∀ n (L : List Pt), L.length = n → Good L → P L := by
  intro n
  induction n using Nat.strongRecOn with
  | _ n ih =>
    intro L hL hG
    by_cases hall : ∀ i, i < L.length → bentB L i = true
    · exact bent L hG hall
    · obtain ⟨i, hi, hb⟩ : ∃ i, i < L.length ∧ bentB L i = false := by
        false_or_by_contra
        rename_i hne
        exact hall fun i hi => by
          cases hb : bentB L i
          · exact absurd ⟨i, hi, hb⟩ hne
          · rfl
      have back : ∀ k, k ≤ L.length → P (rotL L k) → P L := by
        intro k
        induction k with
        | zero => intro _ h; rw [rotL_zero] at h; exact h
        | succ k ih =>
          intro hk h
          obtain ⟨x, xs, e1, e2⟩ := rotL_succ (L := L) (k := k) (by omega)
          rw [e2] at h
          refine ih (by omega) ?_
          rw [e1]
          exact step x xs h
      refine back i (by omega) ?_
      have hG' := good_rot hG i (by omega)
      have hb' : bentB (rotL L i) 0 = false := by rw [bent_rot i (by omega) 0 (by omega), Nat.zero_add, Nat.mod_eq_of_lt hi, hb]
      obtain ⟨b, Y, e1, -⟩ := rotL_succ hi
      have hl : (b :: Y).length = n := by rw [← e1, rotL_len, hL]
      rw [e1] at hG' hb' ⊢
      have hY2 : 2 ≤ Y.length := by have := hG'.1.1; simp at this; omega
      have hbY : b ∉ Y := (List.nodup_cons.1 hG'.2.2.1).1
      have hon : onP (gt Y (Y.length - 1)) (gt Y 0) b = true := by
        have h1 := on_bent (good_poly hG') (i := 0) (by simp)
        rw [hb', Bool.not_false, onQ_ok (gt_ok hG'.2.1 _) (gt_ok hG'.2.1 _) (gt_ok hG'.2.1 _)] at h1
        rw [pv_eq (by simp), if_pos rfl, nx_eq (by simp), if_neg (by rw [List.length_cons]; omega)] at h1
        have e2 : gt (b :: Y) ((b :: Y).length - 1) = gt Y (Y.length - 1) := by
          rw [List.length_cons, Nat.add_sub_cancel, show Y.length = (Y.length - 1) + 1 by omega]; simp [gt]
        have e3 : gt (b :: Y) (0 + 1) = gt Y 0 := by simp [gt]
        rw [e2, e3] at h1
        exact h1
      have hY3 : 3 ≤ Y.length := by
        false_or_by_contra
        rename_i hlt
        have hm : Y.length = 2 := by omega
        obtain ⟨c, a, rfl⟩ : ∃ c a, Y = [c, a] := by
          match Y, hm with
          | [c, a], _ => exact ⟨c, a, rfl⟩
        have hs1 : (c, a) ∈ sidesL [b, c, a] := by simp [sidesL, consec]
        have hs2 : (a, b) ∈ sidesL [b, c, a] := by simp [sidesL, consec]
        have hne : (c, a) ≠ (a, b) := fun e => by
          have h1 := (Prod.ext_iff.1 e).2
          exact hbY (by rw [show b = a from h1.symm]; simp)
        have h1 := (hG'.2.2.2 _ hs1 _ hs2 hne).1 rfl
        have h2 : onP a c b = true := hon
        rw [← on_flip] at h2
        rw [show onP c a b = false from h1.2] at h2
        cases h2
      have hGY := good_drop hG' hY3 hon
      exact drop b Y hG' hY3 hon hbY hb' hGY (ih Y.length (by simp at hl; omega) Y rfl hGY)

/-! ### Twice the area -/
theorem twice_step (x : Pt) (xs : List Pt) : twiceI (xs ++ [x]) = twiceI (x :: xs) := by
  cases xs with
  | nil => rfl
  | cons y ys =>
    rw [twice_chain x (y :: ys), List.cons_append, twice_chain y (ys ++ [x])]
    have h := chain_snoc x y (y :: ys)
    simp only [List.cons_append] at h ⊢
    rw [h]
    simp only [chainT]
    omega
theorem twice_drop {b c : Pt} {Y : List Pt} (h : crossP (gt (c :: Y) Y.length) c b = 0) : twiceI (b :: c :: Y) = twiceI (c :: Y) := by
  rw [twice_chain b (c :: Y), twice_chain c Y]
  obtain ⟨Z, l, e⟩ : ∃ Z l, c :: Y = Z ++ [l] := ⟨(c :: Y).dropLast, (c :: Y).getLast (by simp), (List.dropLast_concat_getLast (by simp)).symm⟩
  have hl : gt (c :: Y) Y.length = l := by
    rw [e]
    have : Y.length = Z.length := by have := congrArg List.length e; simp at this; omega
    rw [this, gt_at (by simp)]
    simp
  rw [hl] at h
  have h1 := chain_snoc l b Z
  have h2 := chain_snoc l c Z
  rw [← e] at h1 h2
  simp only [List.cons_append] at h1 h2 ⊢
  simp only [chainT]
  rw [h1, h2]
  unfold crossT
  simp only
  unfold crossP crossI at h
  grind
theorem twice_straight_back {x : Pt} {xs : List Pt} (h : twiceI (straightL (xs ++ [x])) = twiceI (xs ++ [x])) : twiceI (straightL (x :: xs)) = twiceI (x :: xs) := by
  rw [← twice_step x xs, ← h, straight_step, straight_cons]
  cases bentB (x :: xs) 0
  · simp
  · simp only [cond_true]
    exact (twice_step x _).symm
theorem twice_straight {L : List Pt} (h : Good L) : twiceI (straightL L) = twiceI L :=
  good_ind (P := fun L => twiceI (straightL L) = twiceI L) (fun _ _ h => twice_straight_back h) (fun L _ hb => by rw [straight_all hb]) (fun b Y _ h3 hon hb hb0 _ ih => by
    rw [straight_drop h3 hon hb hb0, ih]
    cases Y with
    | nil => simp at h3
    | cons c Y =>
      refine (twice_drop ?_).symm
      have := ((onP_iff _ _ _).1 hon).1
      simp only [List.length_cons, Nat.add_sub_cancel] at this
      simpa [gt] using this) _ L rfl h
theorem twice_rot {L : List Pt} : ∀ k, k ≤ L.length → twiceI (rotL L k) = twiceI L := by
  intro k
  induction k with
  | zero => intro _; rw [rotL_zero]
  | succ k ih =>
    intro hk
    obtain ⟨x, xs, e1, e2⟩ := rotL_succ (L := L) (k := k) (by omega)
    rw [e2, twice_step, ← e1]
    exact ih (by omega)
theorem chain_rev : ∀ l : List Pt, chainT l.reverse = -chainT l
  | [] => rfl
  | [_] => rfl
  | a :: b :: l => by
    have := chain_rev (b :: l)
    rw [List.reverse_cons, List.reverse_cons, chain_snoc, ← List.reverse_cons, this]
    simp only [chainT, crossT]
    grind
theorem turn_eq (x : Pt) (xs : List Pt) : turnL (x :: xs) = x :: xs.reverse := by
  unfold turnL turnTill
  rw [show gt (x :: xs) 0 = x from rfl]
  congr 1
  apply List.ext_getElem (by simp)
  intro i h1 h2
  simp only [List.length_map, List.length_range, List.length_cons, Nat.add_sub_cancel] at h1
  rw [List.getElem_map, List.getElem_range, List.getElem_reverse, List.length_cons, gt_at (by simp only [List.length_cons]; omega)]
  have e : xs.length + 1 - 1 - i = (xs.length - 1 - i) + 1 := by omega
  simp only [e, List.getElem_cons_succ]
theorem turn_turn {L : List Pt} (h : 0 < L.length) : turnL (turnL L) = L := by
  cases L with
  | nil => simp at h
  | cons x xs => rw [turn_eq, turn_eq, List.reverse_reverse]
theorem twice_turn {L : List Pt} (h : 0 < L.length) : twiceI (turnL L) = -twiceI L := by
  cases L with
  | nil => simp at h
  | cons x xs =>
    rw [turn_eq, twice_chain, twice_chain, ← chain_rev]
    congr 1
    simp

/-! ### Straightened twice -/
theorem bent_rot1 {x : Pt} {xs : List Pt} (h : ∀ i, i < (xs ++ [x]).length → bentB (xs ++ [x]) i = true) : ∀ i, i < (x :: xs).length → bentB (x :: xs) i = true := fun i hi => by
  have hl : (xs ++ [x]).length = (x :: xs).length := by simp
  cases i with
  | zero =>
    have := h xs.length (by simp)
    rw [bent_step x xs (by simp), nx_eq (by simp), if_pos (by simp)] at this
    exact this
  | succ i =>
    have := h i (by rw [hl]; omega)
    rw [bent_step x xs (by omega), nx_eq (by omega), if_neg (by simp at hi ⊢; omega)] at this
    exact this
theorem bent_straight {L : List Pt} (h : Good L) : ∀ i, i < (straightL L).length → bentB (straightL L) i = true :=
  good_ind (P := fun L => ∀ i, i < (straightL L).length → bentB (straightL L) i = true) (fun x xs h => by
    rw [straight_step] at h
    rw [straight_cons]
    cases hb : bentB (x :: xs) 0
    · rw [hb] at h; simpa using h
    · rw [hb] at h; exact bent_rot1 h) (fun L _ hb => by rw [straight_all hb]; exact hb) (fun b Y _ h3 hon hb hb0 _ ih => by
    rw [straight_drop h3 hon hb hb0]; exact ih) _ L rfl h
theorem straight_twice {L : List Pt} (h : Good L) : straightL (straightL L) = straightL L := straight_all (bent_straight h)
theorem same_straight {L : List Pt} (h : Good L) : sameV L (straightL L) = true := by
  have hg := good_straight _ L rfl h
  unfold sameV
  rw [(poly_iff L).2 h, (poly_iff _).2 hg, straight_twice h]
  show sameB (straightL L) (straightL L) = true
  unfold sameB
  rw [List.any_eq_true]
  refine ⟨0, List.mem_range.2 (by have := hg.1.1; omega), ?_⟩
  unfold testB
  rw [rotL_zero]
  simp
end Go.Proofs.Ytieekeodbflgfaa
