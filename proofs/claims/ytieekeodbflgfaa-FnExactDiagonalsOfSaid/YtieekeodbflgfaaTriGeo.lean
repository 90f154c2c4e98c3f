/-
  Three corners of a polygon that see each other are not on one line; what the list of diagonals holds.
-/
import Derived.Test.YtieekeodbflgfaaDiags
import Derived.Test.YtieekeodbflgfaaTri
namespace Go.Proofs.Ytieekeodbflgfaa
open Go.RowKit

theorem side_clear {L : List Pt} (h : Good L) {a j : Nat} (ha : a < L.length) (hj : j < L.length) (h1 : j ≠ a) (h2 : j ≠ nx L a) : onP (gt L a) (gt L (nx L a)) (gt L j) = false := by
  have hl := h.1
  have hna := nx_lt (L := L) (by omega) a
  have hnj := nx_lt (L := L) (by omega) j
  have hs : (gt L a, gt L (nx L a)) ∈ sidesL L := mem_sides.2 ⟨a, ha, rfl⟩
  have ht : (gt L j, gt L (nx L j)) ∈ sidesL L := mem_sides.2 ⟨j, hj, rfl⟩
  have hne : gt L j ≠ gt L a := good_far h hj ha h1
  have hne2 : gt L j ≠ gt L (nx L a) := good_far h hj hna h2
  by_cases e : nx L j = a
  · have k := (h.2.2.2 _ ht _ hs (fun q => hne (congrArg Prod.fst q))).1
    simp only at k
    exact (k (by rw [e])).1
  · have hne3 : gt L (nx L j) ≠ gt L a := good_far h hnj ha e
    have k := (h.2.2.2 _ hs _ ht (fun q => hne (congrArg Prod.fst q).symm)).2
    simp only at k
    have m := k (fun q => hne2 q.symm) hne3
    cases ho : onP (gt L a) (gt L (nx L a)) (gt L j)
    · rfl
    · have := Mid.has_shared (a := gt L a) (b := gt L (nx L a)) (c := gt L j) (d := gt L (nx L j)) (p := gt L j) (mem_shared.2 (.inr ⟨.inl rfl, ho⟩))
      rw [m] at this
      rcases this with q | q <;> cases q
theorem diag_clear {L : List Pt} (h : Good L) {a b j : Nat} (_ : a < L.length) (_ : b < L.length) (hj : j < L.length) (h1 : j ≠ a) (h2 : j ≠ b) (hd : diagB L a b = true) : onP (gt L a) (gt L b) (gt L j) = false := by
  have hl := h.1
  have hnj := nx_lt (L := L) (by omega) j
  have hjn : j ≠ nx L j := by rw [nx_eq hj]; split <;> omega
  have hs : sideB L a b j = true := by
    simp only [diagB, Bool.and_eq_true, List.all_eq_true, List.mem_range] at hd
    exact hd.2.1 j hj
  cases ho : onP (gt L a) (gt L b) (gt L j)
  · rfl
  · exfalso
    have m1 : gt L j ∈ sharedS (gt L a) (gt L b) (gt L j) (gt L (nx L j)) := mem_shared.2 (.inr ⟨.inl rfl, ho⟩)
    have hm := Mid.has_shared m1
    unfold sideB at hs
    cases hsh : sharesB L a b j
    · rw [hsh] at hs
      simp only [cond_false, beq_iff_eq] at hs
      rw [show meetI (gt L a) (gt L b) (gt L j) (gt L (nx L j)) = 0 from hs] at hm
      rcases hm with q | q <;> cases q
    · rw [hsh] at hs
      have he : nx L j = a ∨ nx L j = b := by
        simp only [sharesB, Bool.or_eq_true, beq_iff_eq] at hsh
        rcases hsh with ((e | e) | e) | e
        · exact absurd e h1
        · exact absurd e h2
        · exact .inl e
        · exact .inr e
      have m2 : gt L (nx L j) ∈ sharedS (gt L a) (gt L b) (gt L j) (gt L (nx L j)) := mem_shared.2 (.inl ⟨by rcases he with e | e <;> simp [e], on_right _ _⟩)
      rcases hm with e | e
      · exact good_far h hj hnj hjn (meet_one e _ _ m1 m2)
      · rw [show sideM L a b j = 3 from e] at hs; cases hs
/-- Corners that are joined by a side or a diagonal. -/
def Sees (L : List Pt) (a b : Nat) : Prop := nx L a = b ∨ nx L b = a ∨ diagB L a b = true
theorem sees_clear {L : List Pt} (h : Good L) {a b j : Nat} (ha : a < L.length) (hb : b < L.length) (hj : j < L.length) (h1 : j ≠ a) (h2 : j ≠ b) (hs : Sees L a b) : onP (gt L a) (gt L b) (gt L j) = false := by
  rcases hs with rfl | rfl | hd
  · exact side_clear h ha hj h1 h2
  · rw [onP_flip]; exact side_clear h hb hj h2 h1
  · exact diag_clear h ha hb hj h1 h2 hd
theorem sees_cross {L : List Pt} (h : Good L) {i j k : Nat} (hij : i < j) (hjk : j < k) (hk : k < L.length) (s1 : Sees L i j) (s2 : Sees L j k) (s3 : Sees L i k) : crossP (gt L i) (gt L j) (gt L k) ≠ 0 := fun hc => by
  rcases on_line hc with q | q | q
  · rw [sees_clear h (by omega) hk (by omega) (by omega) (by omega) s3] at q; cases q
  · rw [sees_clear h (by omega) hk (by omega) (by omega) (by omega) s2] at q; cases q
  · rw [sees_clear h (by omega) (by omega) hk (by omega) (by omega) s1] at q; cases q
theorem rowD_nodup (L : List (Int × Int)) (a k : Nat) : (rowD L a k).Nodup := by
  unfold rowD
  refine List.Pairwise.map _ (fun x y hxy => ?_) ((List.nodup_range (n := k)).filter _)
  intro e
  simp only [Prod.mk.injEq] at e
  omega
theorem allD_nodup (L : List (Int × Int)) : ∀ i, (allD L i).Nodup
  | 0 => by simp [allD]
  | i + 1 => by
    rw [allD_step]
    refine List.nodup_append.2 ⟨allD_nodup L i, rowD_nodup L i _, ?_⟩
    rintro ⟨x, y⟩ h1 ⟨x', y'⟩ h2 e
    simp only [Prod.mk.injEq] at e
    obtain ⟨a, c, rfl, -, ha, -⟩ := (allD_mem L i x y).1 h1
    have := (rowD_mem L i L.length x' y').1 h2
    omega
theorem far_of {L : List (Int × Int)} {a c : Nat} (h : diagB L a c = true) : nx L a ≠ c ∧ nx L c ≠ a := by
  simp only [diagB, farB, Bool.and_eq_true, Bool.not_eq_true', Bool.or_eq_false_iff, beq_eq_false_iff_ne] at h
  exact ⟨h.1.1.1, h.1.1.2⟩
theorem allD_chords (L : List (Int × Int)) : Chords (allD L L.length) := by
  refine ⟨allD_nodup L _, ?_⟩
  rintro ⟨x, y⟩ h
  obtain ⟨a, c, rfl, rfl, ha, hc, hac, hd⟩ := (allD_mem L _ x y).1 h
  have := (far_of hd).1
  rw [nx_eq ha] at this
  simp only
  split at this <;> omega
theorem allD_ends (L : List (Int × Int)) (h3 : 3 ≤ L.length) : ∀ e ∈ allD L L.length, 0 ≤ e.1 ∧ e.2 < (L.length : Int) ∧ ¬ (e.1 = 0 ∧ e.2 = (L.length : Int) - 1) := by
  rintro ⟨x, y⟩ h
  obtain ⟨a, c, rfl, rfl, ha, hc, hac, hd⟩ := (allD_mem L _ x y).1 h
  have := (far_of hd).2
  rw [nx_eq hc] at this
  simp only
  split at this <;> omega
theorem sees_all (L : List (Int × Int)) {i k : Nat} (hik : i < k) (hk : k < L.length) : seesB (allD L L.length) i k = (k == i + 1 || diagB L i k) := by
  rw [seesB]
  congr 1
  rw [Bool.eq_iff_iff, List.contains_iff_mem, allD_mem]
  constructor
  · rintro ⟨a, c, e1, e2, -, -, -, hd⟩
    rw [show i = a from by omega, show k = c from by omega]
    exact hd
  · exact fun hd => ⟨i, k, rfl, rfl, by omega, hk, hik, hd⟩
theorem sees_of {L : List (Int × Int)} {i k : Nat} (hik : i < k) (hk : k < L.length) (h : seesB (allD L L.length) i k = true) : Sees L i k := by
  rw [sees_all L hik hk, Bool.or_eq_true, beq_iff_eq] at h
  rcases h with rfl | h
  · left
    rw [nx_eq (by omega), if_neg (by omega)]
  · exact .inr (.inr h)
theorem allD_64 (L : List (Int × Int)) (h : L.length ≤ 8) : (allD L L.length).length ≤ 64 := by
  have h1 := allD_len L L.length
  have h2 : L.length * L.length ≤ 8 * 8 := Nat.mul_le_mul h h
  omega
end Go.Proofs.Ytieekeodbflgfaa
