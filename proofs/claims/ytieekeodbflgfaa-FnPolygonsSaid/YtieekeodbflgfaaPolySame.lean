/-
  Plain geometry: a polygon begun elsewhere or turned is the same one.
-/
import Derived.Test.YtieekeodbflgfaaPolyFacts
namespace Go.Proofs.Ytieekeodbflgfaa

/-- One list is the other, begun elsewhere. -/
def Rot (a b : List Pt) : Prop := ∃ u v, a = u ++ v ∧ b = v ++ u
theorem Rot.refl (a : List Pt) : Rot a a := ⟨a, [], by simp, by simp⟩
theorem Rot.symm {a b : List Pt} (h : Rot a b) : Rot b a := by obtain ⟨u, v, e1, e2⟩ := h; exact ⟨v, u, e2, e1⟩
theorem Rot.trans {a b c : List Pt} (h1 : Rot a b) (h2 : Rot b c) : Rot a c := by
  obtain ⟨u, v, rfl, e2⟩ := h1
  obtain ⟨u', v', e3, rfl⟩ := h2
  rw [e2] at e3
  rcases List.append_eq_append_iff.1 e3 with ⟨w, k1, k2⟩ | ⟨w, k1, k2⟩
  · exact ⟨w, v' ++ v, by rw [k2]; simp, by rw [k1]; simp⟩
  · exact ⟨u ++ u', w, by rw [k1]; simp, by rw [k2]; simp⟩
theorem Rot.rev {a b : List Pt} (h : Rot a b) : Rot a.reverse b.reverse := by
  obtain ⟨u, v, rfl, rfl⟩ := h
  exact ⟨v.reverse, u.reverse, by simp, by simp⟩
theorem Rot.at {a b : List Pt} (h : Rot b a) (h0 : 0 < b.length) : ∃ k, k < b.length ∧ a = rotL b k := by
  obtain ⟨u, v, rfl, rfl⟩ := h
  cases v with
  | nil => exact ⟨0, h0, by simp [rotL]⟩
  | cons y v => exact ⟨u.length, by simp, by simp [rotL]⟩
theorem rot_rot (L : List Pt) (k : Nat) : Rot L (rotL L k) := ⟨L.take k, L.drop k, (List.take_append_drop k L).symm, rfl⟩
theorem rot_straight {L : List Pt} : ∀ k, k ≤ L.length → Rot (straightL L) (straightL (rotL L k)) := by
  intro k
  induction k with
  | zero => intro _; rw [rotL_zero]; exact Rot.refl _
  | succ k ih =>
    intro hk
    obtain ⟨x, xs, e1, e2⟩ := rotL_succ (L := L) (k := k) (by omega)
    refine (ih (by omega)).trans ?_
    rw [e1, e2, straight_step, straight_cons]
    exact ⟨_, _, rfl, rfl⟩
theorem same_of_rot {a b : List Pt} (h : Rot b a) (h0 : 0 < b.length) : sameB a b = true := by
  obtain ⟨k, hk, e⟩ := h.at h0
  unfold sameB
  rw [List.any_eq_true]
  refine ⟨k, List.mem_range.2 hk, ?_⟩
  unfold testB
  rw [← e]
  simp
theorem same_of_rev {a b : List Pt} (h : Rot b a.reverse) (h0 : 0 < b.length) : sameB a b = true := by
  cases a with
  | nil =>
    obtain ⟨u, v, rfl, e⟩ := h
    simp at e
    simp [e.1, e.2] at h0
  | cons z zs =>
    have h1 : Rot b (z :: zs.reverse) := h.trans ⟨zs.reverse, [z], by simp, by simp⟩
    obtain ⟨k, hk, e⟩ := h1.at h0
    unfold sameB
    rw [List.any_eq_true]
    refine ⟨k, List.mem_range.2 hk, ?_⟩
    unfold testB
    rw [← e, turn_eq, List.reverse_reverse]
    simp
theorem same_rot {L : List Pt} (h : Good L) {k : Nat} (hk : k ≤ L.length) : sameV L (rotL L k) = true := by
  have hg := good_rot h k hk
  unfold sameV
  rw [(poly_iff L).2 h, (poly_iff _).2 hg]
  exact same_of_rot (rot_straight k hk).symm (by have := (good_straight _ _ rfl hg).1.1; omega)

/-! ### Turned -/
theorem gt_turn (x : Pt) (xs : List Pt) {j : Nat} (hj : j < (x :: xs).length) : gt (x :: xs.reverse) j = gt (x :: xs) (if j = 0 then 0 else (x :: xs).length - j) := by
  cases j with
  | zero => rfl
  | succ j =>
    rw [if_neg (by omega)]
    simp only [List.length_cons] at hj ⊢
    rw [gt_at (by simp; omega), gt_at (by simp; omega), List.getElem_cons_succ, List.getElem_reverse]
    have e : xs.length + 1 - (j + 1) = (xs.length - 1 - j) + 1 := by omega
    simp only [e, List.getElem_cons_succ]
theorem bent_turn (x : Pt) (xs : List Pt) {j : Nat} (hj : j < (x :: xs).length) : bentB (x :: xs.reverse) j = bentB (x :: xs) (if j = 0 then 0 else (x :: xs).length - j) := by
  have hl : (x :: xs.reverse).length = (x :: xs).length := by simp
  have h0 : 0 < (x :: xs).length := by simp
  have e1 : pv (x :: xs.reverse) j = pv (x :: xs) j := by unfold pv; rw [hl]
  have e2 : nx (x :: xs.reverse) j = nx (x :: xs) j := by unfold nx; rw [hl]
  unfold bentB
  rw [e1, e2, gt_turn x xs hj, gt_turn x xs (pv_lt h0 j), gt_turn x xs (nx_lt h0 j)]
  have k1 : (if pv (x :: xs) j = 0 then 0 else (x :: xs).length - pv (x :: xs) j) = nx (x :: xs) (if j = 0 then 0 else (x :: xs).length - j) := by
    have hi : (if j = 0 then 0 else (x :: xs).length - j) < (x :: xs).length := by split <;> omega
    rw [nx_eq hi, pv_eq hj]
    (repeat' split) <;> omega
  have k2 : (if nx (x :: xs) j = 0 then 0 else (x :: xs).length - nx (x :: xs) j) = pv (x :: xs) (if j = 0 then 0 else (x :: xs).length - j) := by
    have hi : (if j = 0 then 0 else (x :: xs).length - j) < (x :: xs).length := by split <;> omega
    rw [pv_eq hi, nx_eq hj]
    (repeat' split) <;> omega
  rw [k1, k2]
  generalize gt (x :: xs) (nx (x :: xs) (if j = 0 then 0 else (x :: xs).length - j)) = a
  generalize gt (x :: xs) (if j = 0 then 0 else (x :: xs).length - j) = b
  generalize gt (x :: xs) (pv (x :: xs) (if j = 0 then 0 else (x :: xs).length - j)) = c
  have e : crossP a b c = -crossP c b a := by unfold crossP crossI; grind
  rw [e]
  congr 1
  rw [Bool.eq_iff_iff, beq_iff_eq, beq_iff_eq]
  omega
theorem rest_turn (x : Pt) (xs : List Pt) : restS x xs.reverse = (restS x xs).reverse := by
  have e : (List.range xs.length).map Nat.succ = ((List.range xs.length).map fun i => (x :: xs).length - (i + 1)).reverse := by
    apply List.ext_getElem (by simp)
    intro i h1 h2
    simp only [List.length_map, List.length_range] at h1
    rw [List.getElem_map, List.getElem_range, List.getElem_reverse, List.getElem_map, List.getElem_range]
    simp only [List.length_map, List.length_range, List.length_cons]
    omega
  have r : restS x xs = ((((List.range xs.length).map fun i => (x :: xs).length - (i + 1)).filter (bentB (x :: xs))).map (gt (x :: xs))).reverse := by
    unfold restS
    rw [e, List.filter_reverse, List.map_reverse]
  rw [r, List.reverse_reverse]
  unfold restS
  rw [List.length_reverse]
  rw [List.filter_map, List.filter_map, List.map_map, List.map_map]
  have c1 : ∀ i ∈ List.range xs.length, (bentB (x :: xs.reverse) ∘ Nat.succ) i = (bentB (x :: xs) ∘ fun i => (x :: xs).length - (i + 1)) i := fun i hi => by
    have hi := List.mem_range.1 hi
    have := bent_turn x xs (j := i + 1) (by simp; omega)
    rw [if_neg (by omega)] at this
    exact this
  rw [List.filter_congr c1]
  apply List.map_congr_left
  intro i hi
  have hi := List.mem_range.1 (List.mem_filter.1 hi).1
  have := gt_turn x xs (j := i + 1) (by simp; omega)
  rw [if_neg (by omega)] at this
  exact this
theorem rot_turn {L : List Pt} (h : 0 < L.length) : Rot (straightL (turnL L)) (straightL L).reverse := by
  cases L with
  | nil => simp at h
  | cons x xs =>
    rw [turn_eq, straight_cons, straight_cons, rest_turn]
    have : bentB (x :: xs.reverse) 0 = bentB (x :: xs) 0 := by
      have := bent_turn x xs (j := 0) (by simp)
      rwa [if_pos rfl] at this
    rw [this]
    cases bentB (x :: xs) 0
    · exact ⟨[], (restS x xs).reverse, by simp, by simp⟩
    · exact ⟨[x], (restS x xs).reverse, by simp, by simp⟩
theorem same_turn {L : List Pt} (h : Good L) (ht : Good (turnL L)) {k : Nat} (hk : k ≤ L.length) : sameV (turnL L) (rotL L k) = true := by
  have hg := good_rot h k hk
  have h0 : 0 < L.length := by have := h.1.1; omega
  unfold sameV
  rw [(poly_iff _).2 ht, (poly_iff _).2 hg]
  refine same_of_rev ?_ (by have := (good_straight _ _ rfl hg).1.1; omega)
  have := (rot_turn h0).rev
  rw [List.reverse_reverse] at this
  exact ((rot_straight k hk).symm).trans this.symm
/-- The turned polygon is one. -/
theorem sides_turn {x y : Pt} {ys : List Pt} {s : Pt × Pt} (h : s ∈ sidesL (turnL (x :: y :: ys))) : (s.2, s.1) ∈ sidesL (x :: y :: ys) := by
  obtain ⟨i, hi, rfl⟩ := mem_sides.1 h
  rw [turn_eq] at hi ⊢
  have hl : (x :: (y :: ys).reverse).length = (x :: y :: ys).length := by simp
  have hi' : i < (x :: y :: ys).length := by rw [← hl]; exact hi
  have e2 : nx (x :: (y :: ys).reverse) i = nx (x :: y :: ys) i := by unfold nx; rw [hl]
  simp only
  rw [e2, gt_turn x (y :: ys) hi', gt_turn x (y :: ys) (nx_lt (by simp) i)]
  have hk : (if nx (x :: y :: ys) i = 0 then 0 else (x :: y :: ys).length - nx (x :: y :: ys) i) < (x :: y :: ys).length := by
    have : 0 < (x :: y :: ys).length := by simp
    split <;> omega
  refine mem_sides.2 ⟨_, hk, ?_⟩
  congr 2
  rw [nx_eq hk, nx_eq hi']
  (repeat' split) <;> omega
theorem meet_flips {a b c d : Pt} (h : meetI a b c d = 0) : meetI b a d c = 0 := by
  rw [meet_zero] at h ⊢
  obtain ⟨h1, h2, h3, h4, h5⟩ := h
  refine ⟨?_, ?_, ?_, ?_, ?_⟩
  · have e1 : opp b a d c = opp a b c d := by
      rw [Bool.eq_iff_iff, opp_iff, opp_iff]
      have a1 : crossP b a d = -crossP a b d := crossP_flip a b d
      have a2 : crossP b a c = -crossP a b c := crossP_flip a b c
      omega
    have e2 : opp d c b a = opp c d a b := by
      rw [Bool.eq_iff_iff, opp_iff, opp_iff]
      have a1 : crossP d c b = -crossP c d b := crossP_flip c d b
      have a2 : crossP d c a = -crossP c d a := crossP_flip c d a
      omega
    rw [e1, e2]; exact h1
  all_goals rw [on_flip]; assumption
theorem good_turn {L : List Pt} (h : Good L) : Good (turnL L) := by
  match L, h with
  | [], h => have := h.1.1; simp at this
  | [x], h => have := h.1.1; simp at this
  | x :: y :: ys, h =>
    obtain ⟨h1, h2, h3, h4⟩ := h
    have e := turn_eq x (y :: ys)
    refine ⟨by rw [e]; simpa using h1, ?_, ?_, fun s hs t ht hst => ?_⟩
    · rw [e]
      simp only [allOk, List.all_eq_true] at h2 ⊢
      intro p hp
      refine h2 p ?_
      simpa [or_comm, or_left_comm] using hp
    · rw [e]
      have : (x :: (y :: ys).reverse).Perm (x :: y :: ys) := (List.reverse_perm _).cons x
      exact this.nodup_iff.2 h3
    · have f := h4 _ (sides_turn ht) _ (sides_turn hs) (fun e => hst (Prod.ext (congrArg Prod.snd e).symm (congrArg Prod.fst e).symm))
      simp only at f
      refine ⟨fun k => ?_, fun k1 k2 => ?_⟩
      · have := f.1 k.symm
        exact ⟨by rw [on_flip]; exact this.2, by rw [on_flip]; exact this.1⟩
      · have g := h4 _ (sides_turn hs) _ (sides_turn ht) (fun e => hst (Prod.ext (congrArg Prod.snd e) (congrArg Prod.fst e)))
        simp only at g
        exact meet_flips (g.2 (fun e => k2 e.symm) (fun e => k1 e.symm))
end Go.Proofs.Ytieekeodbflgfaa
