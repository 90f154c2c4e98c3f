/-
  Plain geometry: the straightened polygon is one; when two polygons are the same.
-/
import Derived.Test.YtimkknljoeiceaaSame
namespace Go.Proofs.Ytimkknljoeiceaa
open Go.RowKit

theorem straight_filter (L : List Pt) : ∀ k, straightTill L k = ((List.range k).filter (bentB L)).map (gt L) := by
  intro k
  induction k with
  | zero => rfl
  | succ k ih =>
    rw [straightTill, ih, List.range_succ, List.filter_append, List.map_append, List.filter_cons, List.filter_nil]
    cases bentB L k <;> simp
theorem straightL_eq (L : List Pt) : straightL L = ((List.range L.length).filter (bentB L)).map (gt L) := straight_filter L _
theorem gt_step (x : Pt) (xs : List Pt) {i : Nat} (hi : i < (x :: xs).length) : gt (xs ++ [x]) i = gt (x :: xs) (nx (x :: xs) i) := by
  rw [nx_eq hi]
  simp only [List.length_cons] at hi ⊢
  by_cases h : i + 1 = xs.length + 1
  · rw [if_pos h, gt_at (by simp; omega), List.getElem_append_right (by omega)]
    simp [gt]
  · rw [if_neg h, gt_at (by simp; omega), List.getElem_append_left (by omega), gt_at (by simp; omega)]
    rfl
theorem bent_step (x : Pt) (xs : List Pt) {i : Nat} (hi : i < (x :: xs).length) : bentB (xs ++ [x]) i = bentB (x :: xs) (nx (x :: xs) i) := by
  have hl : (xs ++ [x]).length = (x :: xs).length := by simp
  have h0 : 0 < (x :: xs).length := by simp
  have e1 : pv (xs ++ [x]) i = pv (x :: xs) i := by unfold pv; rw [hl]
  have e2 : nx (xs ++ [x]) i = nx (x :: xs) i := by unfold nx; rw [hl]
  have e3 : pv (x :: xs) (nx (x :: xs) i) = i := by
    rw [pv_eq (nx_lt h0 i), nx_eq hi]
    by_cases h : i + 1 = (x :: xs).length
    · rw [if_pos h, if_pos rfl]; omega
    · rw [if_neg h, if_neg (by omega)]; omega
  unfold bentB
  rw [e1, e2, gt_step x xs hi, gt_step x xs (pv_lt h0 i), gt_step x xs (nx_lt h0 i), nx_pv hi, e3]
theorem range_nx (x : Pt) (xs : List Pt) : (List.range (x :: xs).length).map (nx (x :: xs)) = (List.range xs.length).map Nat.succ ++ [0] := by
  rw [List.length_cons, List.range_succ, List.map_append]
  congr 1
  · apply List.map_congr_left
    intro i hi
    have : i < xs.length := List.mem_range.1 hi
    rw [nx_eq (by simp; omega), if_neg (by simp; omega)]
  · simp only [List.map_cons, List.map_nil]
    rw [nx_eq (by simp), if_pos (by simp)]
def restS (x : Pt) (xs : List Pt) : List Pt := (((List.range xs.length).map Nat.succ).filter (bentB (x :: xs))).map (gt (x :: xs))
theorem straight_cons (x : Pt) (xs : List Pt) : straightL (x :: xs) = (bif bentB (x :: xs) 0 then [x] else []) ++ restS x xs := by
  rw [straightL_eq, List.length_cons, List.range_succ_eq_map, List.filter_cons]
  cases h : bentB (x :: xs) 0
  · rfl
  · rfl
theorem straight_step (x : Pt) (xs : List Pt) : straightL (xs ++ [x]) = restS x xs ++ (bif bentB (x :: xs) 0 then [x] else []) := by
  have hl : (xs ++ [x]).length = (x :: xs).length := by simp
  have h1 : straightL (xs ++ [x]) = (((List.range (x :: xs).length).map (nx (x :: xs))).filter (bentB (x :: xs))).map (gt (x :: xs)) := by
    rw [straightL_eq, hl, List.filter_map, List.map_map]
    rw [List.filter_congr (q := bentB (x :: xs) ∘ nx (x :: xs)) (fun i hi => bent_step x xs (List.mem_range.1 hi))]
    apply List.map_congr_left
    intro i hi
    exact gt_step x xs (List.mem_range.1 (List.mem_filter.1 hi).1)
  rw [h1, range_nx, List.filter_append, List.map_append]
  congr 1
  cases h : bentB (x :: xs) 0 <;> simp [h, gt]
theorem good_straight_step {x : Pt} {xs : List Pt} (h : Good (straightL (xs ++ [x]))) : Good (straightL (x :: xs)) := by
  rw [straight_step] at h
  rw [straight_cons]
  cases hb : bentB (x :: xs) 0
  · rw [hb] at h; simpa using h
  · rw [hb] at h
    exact (good_step x _).1 h
theorem good_straight_rot {L : List Pt} : ∀ k, k ≤ L.length → Good (straightL (rotL L k)) → Good (straightL L) := by
  intro k
  induction k with
  | zero => intro _ h; rw [rotL_zero] at h; exact h
  | succ k ih =>
    intro hk h
    obtain ⟨x, xs, e1, e2⟩ := rotL_succ (L := L) (k := k) (by omega)
    rw [e2] at h
    refine ih (by omega) ?_
    rw [e1]
    exact good_straight_step h
theorem bent_rot {L : List Pt} : ∀ k, k ≤ L.length → ∀ j, j < L.length → bentB (rotL L k) j = bentB L ((j + k) % L.length) := by
  intro k
  induction k with
  | zero => intro _ j hj; rw [rotL_zero, Nat.add_zero, Nat.mod_eq_of_lt hj]
  | succ k ih =>
    intro hk j hj
    obtain ⟨x, xs, e1, e2⟩ := rotL_succ (L := L) (k := k) (by omega)
    have hl : (x :: xs).length = L.length := by rw [← e1, rotL_len]
    have h1 := ih (by omega) (nx (x :: xs) j) (by rw [← hl]; exact nx_lt (by simp) j)
    rw [e1] at h1
    rw [e2, bent_step x xs (by omega), h1]
    unfold nx
    rw [hl, Nat.mod_add_mod, show j + 1 + k = j + (k + 1) by omega]
theorem mul_zero_iff {m x q y : Int} (hm : 0 < m) (hq : 0 < q) (h : m * x = q * y) : x = 0 ↔ y = 0 := by
  constructor
  · intro hx; rw [hx, Int.mul_zero] at h; exact mul_zero_of hq h.symm
  · intro hy; rw [hy, Int.mul_zero] at h; exact mul_zero_of hm h
theorem bent_drop {b : Pt} {Y : List Pt} (hY : 3 ≤ Y.length) (hs : onP (gt Y (Y.length - 1)) (gt Y 0) b = true) (hb : b ∉ Y) {i : Nat} (hi : i < Y.length) : bentB (b :: Y) (i + 1) = bentB Y i := by
  have ha : gt Y (Y.length - 1) ∈ Y := by rw [gt_at (by omega)]; exact List.getElem_mem _
  have hc : gt Y 0 ∈ Y := by rw [gt_at (by omega)]; exact List.getElem_mem _
  obtain ⟨a, ea⟩ : ∃ a, a = gt Y (Y.length - 1) := ⟨_, rfl⟩
  obtain ⟨c, ec⟩ : ∃ c, c = gt Y 0 := ⟨_, rfl⟩
  rw [← ea, ← ec] at hs
  rw [← ea] at ha
  rw [← ec] at hc
  have hba : b ≠ a := fun e => hb (e ▸ ha)
  have hbc : b ≠ c := fun e => hb (e ▸ hc)
  have hac : a ≠ c := by
    intro h
    subst h
    obtain ⟨_, k2, k3⟩ := (onP_iff _ _ _).1 hs
    exact hba (by unfold bt at k2 k3; exact Prod.ext (by omega) (by omega))
  obtain ⟨p, q, hw⟩ := on_wt hs hac
  have hp := hw.ne_c hbc
  have hq := hw.ne_a hba
  have g1 : ∀ j, gt (b :: Y) (j + 1) = gt Y j := fun j => by simp [gt]
  have e1 : pv (b :: Y) (i + 1) = i := by rw [pv_eq (by simp; omega), if_neg (by omega)]; omega
  have e2 : nx (b :: Y) (i + 1) = if i + 1 = Y.length then 0 else i + 1 + 1 := by
    rw [nx_eq (by simp; omega)]
    by_cases h : i + 1 = Y.length
    · rw [if_pos h, if_pos (by simp; omega)]
    · rw [if_neg h, if_neg (by simp; omega)]
  unfold bentB
  rw [e1, e2, g1, pv_eq hi, nx_eq hi]
  have key : ∀ x y : Int, (x = 0 ↔ y = 0) → (!(x == 0)) = (!(y == 0)) := fun x y h => by
    rw [Bool.eq_iff_iff]; simp only [Bool.not_eq_true', beq_eq_false_iff_ne, ne_eq, h]
  apply key
  by_cases h0 : i = 0
  · subst h0
    rw [if_pos rfl, if_neg (by omega), if_neg (by omega), g1, ← ea, ← ec]
    exact mul_zero_iff hw.pq hp (hw.cross_bc _)
  · rw [if_neg h0]
    have e3 : gt (b :: Y) i = gt Y (i - 1) := by rw [show i = (i - 1) + 1 by omega, g1]; congr 1
    rw [e3]
    by_cases hl : i + 1 = Y.length
    · rw [if_pos hl, if_pos hl]
      have e4 : gt Y i = a := by rw [ea]; congr 1; omega
      rw [e4, ← ec]
      show crossP (gt Y (i - 1)) a b = 0 ↔ _
      have := hw.cross3 (gt Y (i - 1)) a
      rw [cross_z, Int.mul_zero, Int.zero_add] at this
      exact mul_zero_iff hw.pq hq this
    · rw [if_neg hl, if_neg hl, g1]
theorem straight_drop {b : Pt} {Y : List Pt} (hY : 3 ≤ Y.length) (hs : onP (gt Y (Y.length - 1)) (gt Y 0) b = true) (hb : b ∉ Y) (h0 : bentB (b :: Y) 0 = false) : straightL (b :: Y) = straightL Y := by
  rw [straight_cons, h0, straightL_eq]
  show [] ++ restS b Y = _
  rw [List.nil_append, restS, List.filter_map, List.map_map]
  rw [List.filter_congr (p := bentB (b :: Y) ∘ Nat.succ) (q := bentB Y) (fun i hi => bent_drop hY hs hb (List.mem_range.1 hi))]
  apply List.map_congr_left
  intro i _
  simp [gt]
/-- **The straightened polygon is one.** -/
theorem good_straight : ∀ n (L : List Pt), L.length = n → Good L → Good (straightL L) := by
  intro n
  induction n using Nat.strongRecOn with
  | _ n ih =>
    intro L hL hG
    by_cases hall : ∀ i, i < L.length → bentB L i = true
    · have : straightL L = L := by
        rw [straightL_eq, List.filter_eq_self.2 (fun i hi => hall i (List.mem_range.1 hi))]
        apply List.ext_getElem (by simp)
        intro i h1 h2
        simp [gt_at h2]
      rw [this]; exact hG
    · obtain ⟨i, hi, hb⟩ : ∃ i, i < L.length ∧ bentB L i = false := by
        false_or_by_contra
        rename_i hne
        exact hall fun i hi => by
          cases hb : bentB L i
          · exact absurd ⟨i, hi, hb⟩ hne
          · rfl
      refine good_straight_rot i (by omega) ?_
      have hG' := good_rot hG i (by omega)
      have hb' : bentB (rotL L i) 0 = false := by rw [bent_rot i (by omega) 0 (by omega), Nat.zero_add, Nat.mod_eq_of_lt hi, hb]
      obtain ⟨b, Y, e1, -⟩ := rotL_succ hi
      have hl : (b :: Y).length = n := by rw [← e1, rotL_len, hL]
      rw [e1] at hG' hb' ⊢
      have hY2 : 2 ≤ Y.length := by have := hG'.1.1; simp at this; omega
      have hbY : b ∉ Y := (List.nodup_cons.1 hG'.2.2.1).1
      have hon : onP (gt Y (Y.length - 1)) (gt Y 0) b = true := by
        have h1 := on_bent (good_poly hG') (i := 0) (by simp)
        rw [hb', Bool.not_false, onQ_ok (gt_ok hG'.2.1 _) (gt_ok hG'.2.1 _) (gt_ok hG'.2.1 _)] at h1
        rw [pv_eq (by simp), if_pos rfl, nx_eq (by simp), if_neg (by rw [List.length_cons]; omega)] at h1
        have e2 : gt (b :: Y) ((b :: Y).length - 1) = gt Y (Y.length - 1) := by
          rw [List.length_cons, Nat.add_sub_cancel, show Y.length = (Y.length - 1) + 1 by omega]; simp [gt]
        have e3 : gt (b :: Y) (0 + 1) = gt Y 0 := by simp [gt]
        rw [e2, e3] at h1
        exact h1
      have hY3 : 3 ≤ Y.length := by
        false_or_by_contra
        rename_i hlt
        have hm : Y.length = 2 := by omega
        obtain ⟨c, a, rfl⟩ : ∃ c a, Y = [c, a] := by
          match Y, hm with
          | [c, a], _ => exact ⟨c, a, rfl⟩
        have hs1 : (c, a) ∈ sidesL [b, c, a] := by simp [sidesL, consec]
        have hs2 : (a, b) ∈ sidesL [b, c, a] := by simp [sidesL, consec]
        have hne : (c, a) ≠ (a, b) := fun e => by
          have h1 := (Prod.ext_iff.1 e).2
          exact hbY (by rw [show b = a from h1.symm]; simp)
        have h1 := (hG'.2.2.2 _ hs1 _ hs2 hne).1 rfl
        have h2 : onP a c b = true := hon
        rw [← on_flip] at h2
        rw [show onP c a b = false from h1.2] at h2
        cases h2
      rw [straight_drop hY3 hon hbY hb']
      exact ih Y.length (by simp at hl; omega) Y rfl (good_drop hG' hY3 hon)
theorem poly_straight {L : List Pt} (h : polyB L = true) : polyB (straightL L) = true := good_poly (good_straight _ L rfl (poly_good h))
theorem poly_rot {L : List Pt} (h : polyB L = true) {k : Nat} (hk : k ≤ L.length) : polyB (rotL L k) = true := good_poly (good_rot (poly_good h) k hk)
end Go.Proofs.Ytimkknljoeiceaa
