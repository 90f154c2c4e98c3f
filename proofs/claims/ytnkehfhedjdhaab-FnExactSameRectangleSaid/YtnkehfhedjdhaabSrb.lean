/-
  Walks and facts of this seat, part Srb (merged by a script of this repo out of smaller texts).
-/
import Derived.Test.YtnkehfhedjdhaabSra
import Derived.WalkSpells
import Derived.RegionTactic
import Derived.Deep.RegionLaw
import Derived.Lib.AppendZerosOnto
import Derived.Lib.SliceRun
import Derived.Laws.MakeOwn
import Derived.ProofKit
import Derived.OpenShut
import Derived.Lib.SmallJoins
import Derived.Deep.Slices
import Derived.Deep.Fields
/-! Ring -/
namespace Go.Proofs.Ytnkehfhedjdhaab
open Go.RowKit

abbrev Pt := Int × Int
def consec (l : List Pt) : List (Pt × Pt) := l.zip l.tail
def sidesL : List Pt → List (Pt × Pt)
  | [] => []
  | x :: xs => consec (x :: xs ++ [x])
def Good (L : List Pt) : Prop := (3 ≤ L.length ∧ L.length ≤ 10) ∧ allOk L = true ∧ L.Nodup ∧ ∀ s ∈ sidesL L, ∀ t ∈ sidesL L, s ≠ t →
  (s.2 = t.1 → onP t.1 t.2 s.1 = false ∧ onP s.1 s.2 t.2 = false) ∧ (s.2 ≠ t.1 → t.2 ≠ s.1 → meetI s.1 s.2 t.1 t.2 = 0)
theorem sides_eq (L : List Pt) : sidesL L = (List.range L.length).map fun i => (gt L i, gt L (nx L i)) := by
  cases L with
  | nil => rfl
  | cons x xs =>
    apply List.ext_getElem
    · simp [sidesL, consec]
    · intro i h1 h2
      have hi : i < xs.length + 1 := by simpa using h2
      have hn : nx (x :: xs) i = if i + 1 = xs.length + 1 then 0 else i + 1 := nx_eq (L := x :: xs) (by simpa using hi)
      simp only [sidesL, consec, List.getElem_zip, List.getElem_map, List.getElem_range, hn, List.cons_append, List.tail_cons]
      have e1 : (x :: (xs ++ [x]))[i]'(by simp; omega) = gt (x :: xs) i := by
        rw [gt_at (by simpa using hi)]
        cases i with
        | zero => rfl
        | succ i =>
          simp only [List.getElem_cons_succ]
          rw [List.getElem_append_left (by omega)]
      rw [e1]
      congr 1
      by_cases h : i + 1 = xs.length + 1
      · rw [if_pos h, List.getElem_append_right (by omega)]
        simp [gt]
      · rw [if_neg h, List.getElem_append_left (by omega), gt_at (by simp; omega)]
        rfl
theorem mem_sides {L : List Pt} {s : Pt × Pt} : s ∈ sidesL L ↔ ∃ i, i < L.length ∧ s = (gt L i, gt L (nx L i)) := by
  rw [sides_eq]
  simp only [List.mem_map, List.mem_range]
  constructor
  · rintro ⟨i, hi, rfl⟩; exact ⟨i, hi, rfl⟩
  · rintro ⟨i, hi, rfl⟩; exact ⟨i, hi, rfl⟩
theorem nodup_iff {L : List Pt} : L.Nodup ↔ ∀ i k, i < k → k < L.length → gt L i ≠ gt L k := by
  rw [List.nodup_iff_pairwise_ne, List.pairwise_iff_getElem]
  constructor
  · intro h i k hi hk
    rw [gt_at (by omega), gt_at hk]
    exact h i k (by omega) hk hi
  · intro h i k hi hk hik
    have := h i k hik hk
    rw [gt_at hi, gt_at hk] at this
    exact this
theorem gt_inj {L : List Pt} (h : L.Nodup) {i k : Nat} (hi : i < L.length) (hk : k < L.length) (e : gt L i = gt L k) : i = k := by
  rcases Nat.lt_trichotomy i k with h1 | h1 | h1
  · exact absurd e (nodup_iff.1 h i k h1 hk)
  · exact h1
  · exact absurd e.symm (nodup_iff.1 h k i h1 hi)
theorem touch_one {a b c : Pt} (h1 : onP b c a = false) (h2 : onP a b c = false) : meetI a b b c = 1 := by
  have ho : opp a b b c = false := by
    have : crossP a b b = 0 := by unfold crossP crossI; grind
    cases h : opp a b b c
    · rfl
    · rw [opp_iff] at h; omega
  have hs : sharedS a b b c = [b, b] := by
    simp only [sharedS, List.filter_cons, List.filter_nil, h1, h2, on_left, on_right]
    rfl
  unfold meetI
  rw [ho, hs, Bool.false_and]
  simp [sameAll]
theorem one_touch {a b c : Pt} (hab : a ≠ b) (hbc : b ≠ c) (h : meetI a b b c = 1) : onP b c a = false ∧ onP a b c = false := by
  have hb : b ∈ sharedS a b b c := mem_shared.2 (.inl ⟨.inr rfl, on_left b c⟩)
  constructor
  · cases h1 : onP b c a
    · rfl
    · exact absurd (meet_one h a b (mem_shared.2 (.inl ⟨.inl rfl, h1⟩)) hb) hab
  · cases h1 : onP a b c
    · rfl
    · exact absurd (meet_one h b c hb (mem_shared.2 (.inr ⟨.inr rfl, h1⟩))) hbc
theorem poly_good {L : List Pt} (h : polyB L = true) : Good L := by
  obtain ⟨hn, hok, hne, hp⟩ := polyB_spec h
  have hnd : L.Nodup := by
    rw [nodup_iff]
    intro i k hik hk e
    have h1 := hp i k hik hk
    have hs : meetI (gt L i) (gt L (nx L i)) (gt L k) (gt L (nx L k)) ≠ 0 := by
      intro h0
      obtain ⟨_, h2, _⟩ := meet_zero.1 h0
      rw [e, on_left] at h2
      cases h2
    have ha : adjB L.length i k = true := by
      cases ha : adjB L.length i k
      · rw [ha] at h1; exact absurd h1 hs
      · rfl
    simp only [adjB, Bool.or_eq_true, Bool.and_eq_true, beq_iff_eq] at ha
    rcases ha with ha | ha
    · have := hne i (by omega)
      rw [nx_eq (by omega), if_neg (by omega), ← ha] at this
      exact this e
    · have := hne k hk
      rw [nx_eq hk, if_pos (by omega), ← ha.1] at this
      exact this e.symm
  have key : ∀ i k, i < k → k < L.length → (meetI (gt L i) (gt L (nx L i)) (gt L k) (gt L (nx L k)) = if nx L i = k ∨ nx L k = i then 1 else 0) := by
    intro i k hik hk
    have h1 := hp i k hik hk
    unfold pairM at h1
    have e : adjB L.length i k = true ↔ (nx L i = k ∨ nx L k = i) := by
      rw [nx_eq (by omega), nx_eq hk]
      simp only [adjB, Bool.or_eq_true, Bool.and_eq_true, beq_iff_eq]
      rw [if_neg (by omega)]
      by_cases hl : k + 1 = L.length
      · rw [if_pos hl]; omega
      · rw [if_neg hl]; omega
    cases ha : adjB L.length i k
    · rw [ha] at h1
      rw [if_neg (fun h => by rw [e.2 h] at ha; cases ha)]
      exact h1
    · rw [ha] at h1
      rw [if_pos (e.1 ha)]
      exact h1
  have key2 : ∀ i k, i ≠ k → i < L.length → k < L.length → (meetI (gt L i) (gt L (nx L i)) (gt L k) (gt L (nx L k)) = if nx L i = k ∨ nx L k = i then 1 else 0) := by
    intro i k hik hi hk
    rcases Nat.lt_or_gt_of_ne hik with h1 | h1
    · exact key i k h1 hk
    · have := key k i h1 hi
      rw [meetI_swap, this]
      by_cases hc : nx L i = k ∨ nx L k = i
      · rw [if_pos hc, if_pos hc.symm]
      · rw [if_neg hc, if_neg (fun h => hc h.symm)]
  refine ⟨hn, hok, hnd, ?_⟩
  intro s hs t ht hst
  obtain ⟨i, hi, rfl⟩ := mem_sides.1 hs
  obtain ⟨k, hk, rfl⟩ := mem_sides.1 ht
  have hik : i ≠ k := fun e => hst (by rw [e])
  have hm := key2 i k hik hi hk
  constructor
  · intro e
    have e' : nx L i = k := gt_inj hnd (nx_lt (by omega) i) hk e
    rw [if_pos (.inl e'), e'] at hm
    show onP (gt L k) (gt L (nx L k)) (gt L i) = false ∧ onP (gt L i) (gt L (nx L i)) (gt L (nx L k)) = false
    rw [e']
    have h1 := hne i hi
    rw [e'] at h1
    exact one_touch h1 (hne k hk) hm
  · intro e1 e2
    rw [if_neg (fun h => by
      rcases h with h | h
      · exact e1 (congrArg (gt L) h)
      · exact e2 (congrArg (gt L) h))] at hm
    exact hm
theorem good_poly {L : List Pt} (h : Good L) : polyB L = true := by
  obtain ⟨hn, hok, hnd, hg⟩ := h
  have hin : inB (L.length : Int) 3 10 = true := inB_spec.2 (by omega)
  have hne : ∀ i, i < L.length → gt L i ≠ gt L (nx L i) := fun i hi e => by
    have := gt_inj hnd hi (nx_lt (by omega) i) e
    rw [nx_eq hi] at this
    by_cases hl : i + 1 = L.length
    · rw [if_pos hl] at this; omega
    · rw [if_neg hl] at this; omega
  have h1 : nbB L = true := nb_true (fun i hi => by
    cases he : eqQ (gt L i) (gt L ((i + 1) % L.length))
    · rfl
    · exact absurd ((eqQ_iff _ _).1 he) (hne i hi))
  have h2 : pairsB L = true := pairs_true (fun i hi k hik hk => by
    have hs : (gt L i, gt L (nx L i)) ∈ sidesL L := mem_sides.2 ⟨i, hi, rfl⟩
    have ht : (gt L k, gt L (nx L k)) ∈ sidesL L := mem_sides.2 ⟨k, hk, rfl⟩
    have hst : (gt L i, gt L (nx L i)) ≠ (gt L k, gt L (nx L k)) := fun e => by
      have := gt_inj hnd hi hk (Prod.ext_iff.1 e).1; omega
    have hg1 := hg _ hs _ ht hst
    have hg2 := hg _ ht _ hs (Ne.symm hst)
    have hm : meetI (gt L i) (gt L (nx L i)) (gt L k) (gt L (nx L k)) = if nx L i = k ∨ nx L k = i then 1 else 0 := by
      by_cases h1 : nx L i = k
      · rw [if_pos (.inl h1)]
        have := hg1.1 (congrArg (gt L) h1)
        simp only [h1] at this ⊢
        exact touch_one this.1 this.2
      · by_cases h2 : nx L k = i
        · rw [if_pos (.inr h2)]
          have := hg2.1 (congrArg (gt L) h2)
          rw [meetI_swap]
          simp only [h2] at this ⊢
          exact touch_one this.1 this.2
        · rw [if_neg (by rintro (h | h) <;> contradiction)]
          exact hg1.2 (fun e => h1 (gt_inj hnd (nx_lt (by omega) i) hk e)) (fun e => h2 (gt_inj hnd (nx_lt (by omega) k) hi e))
    have e : adjB L.length i k = true ↔ (nx L i = k ∨ nx L k = i) := by
      rw [nx_eq (by omega), nx_eq hk]
      simp only [adjB, Bool.or_eq_true, Bool.and_eq_true, beq_iff_eq]
      rw [if_neg (by omega)]
      by_cases hl : k + 1 = L.length
      · rw [if_pos hl]; omega
      · rw [if_neg hl]; omega
    unfold pairOk pairM
    rw [show (i + 1) % L.length = nx L i from rfl, show (k + 1) % L.length = nx L k from rfl, hm]
    cases ha : adjB L.length i k
    · rw [if_neg (fun h => by rw [e.2 h] at ha; cases ha)]; rfl
    · rw [if_pos (e.1 ha)]; rfl)
  rw [polyB, hin, hok, h1, h2]; rfl
theorem poly_iff (L : List Pt) : polyB L = true ↔ Good L := ⟨poly_good, good_poly⟩
end Go.Proofs.Ytnkehfhedjdhaab

/-! Clone -/
namespace Go.Proofs.Ytnkehfhedjdhaab
open Go.RowKit

theorem ptsA_news {w : World} {g : Nat} {L : List (Int × Int)} (h : PtsA w (some ⟨g, 0, none⟩) L) (k : Nat) : ∀ j u, (flat (L.drop k))[j]? = some u → w.cell? (Addr.add ⟨g, k * 2, none⟩ j) = some u := by
  intro j u hu
  have hj : j < (flat (L.drop k)).length := by
    rcases Nat.lt_or_ge j (flat (L.drop k)).length with h1 | h1
    · exact h1
    · rw [List.getElem?_eq_none h1] at hu; cases hu
  rw [flat_len, List.length_drop] at hj
  have hq : k + j / 2 < L.length := by omega
  obtain ⟨g', hg', h1, h2⟩ := h (k + j / 2) hq
  cases hg'
  have hf := flat_at (L.drop k) (j / 2) (by rw [List.length_drop]; omega)
  have hadd : Addr.add ⟨g, k * 2, none⟩ j = ⟨g, k * 2 + j, none⟩ := by
    unfold Addr.add
    split
    · rename_i h0; subst h0; rfl
    · rfl
  rw [hadd]
  have hd : (L.drop k)[j / 2]'(by rw [List.length_drop]; omega) = L[k + j / 2] := List.getElem_drop ..
  rw [hd] at hf
  rcases Nat.mod_two_eq_zero_or_one j with hm | hm
  · have e : j = j / 2 * 2 := by omega
    have e2 : k * 2 + j = (k + j / 2) * 2 := by omega
    rw [e2, h1, ← hu]
    rw [show (flat (L.drop k))[j]? = (flat (L.drop k))[j / 2 * 2]? from by rw [← e]]
    exact hf.1.symm
  · have e : j = j / 2 * 2 + 1 := by omega
    have e2 : k * 2 + j = (k + j / 2) * 2 + 1 := by omega
    rw [e2, h2, ← hu]
    rw [show (flat (L.drop k))[j]? = (flat (L.drop k))[j / 2 * 2 + 1]? from by rw [← e]]
    exact hf.2.symm
theorem flat_one (L : List (Int × Int)) : ∀ u ∈ flat L, u.oneCell' = true := by
  intro u hu
  simp only [flat, List.mem_flatMap, List.mem_cons, List.not_mem_nil, or_false] at hu
  obtain ⟨p, -, h | h⟩ := hu <;> subst h <;> rfl

set_option maxRecDepth 100000 in
set_option maxHeartbeats 1000000 in
theorem clone_any (A : Option Addr) (c : Nat) (L : List (Int × Int)) (w : World) (hA : PtsA w A L) (h1 : 1 ≤ L.length) (h2 : L.length ≤ 1048576) :
    Calls Try.prog 37 #[.slice A L.length c] w (Lists w L) := by
  obtain ⟨i0, hi0, hz0, hz1, hz2⟩ := info_parts infoPt
  obtain ⟨g, rfl, -⟩ := hA 0 h1
  have HU : Hid (Lists w L = fun e w' => ∃ v, e = .returned v ∧ w'.ownsRow w.heap.size 31 2 v L.length (flat L) ∧ Below w.heap.size w w') := rfl
  have hn := Lib.run_eql_slice_nil (P := Try.prog)
  have own0 := World.ownsRow_lit (base := w.heap.size) (e := 31) (size := 2) w #[] 0 (Nat.le_refl _) (by unfold maxLen; omega) (by rfl)
  have hb0 := below1 w (.cells #[] 31)
  have hA1 := ptsA_on hA hb0
  go_enter Try.func37, Try.ntmps37
  have HN := Lib.hid (ptsA_news hA1 0)
  rw [List.drop_zero, Nat.zero_mul] at HN
  clear hA hA1
  go_wp2_with (at_builtin; refine wpList_append_own _ rfl _ _ 25 rfl w.heap.size 31 i0 (.agg #[.int .i64 0, .int .i64 0]) 2 16 Try.underlying25 hi0 hz0 hz1 hz2 rfl (by decide) _ _ _ rfl own0 ⟨g, 0, none⟩ L.length c (flat L) rfl (flat_len L) HN.out (flat_one L) ?d3 ?d4 (by simp) ?_)
  case d3 => unfold maxLen; omega
  case d4 => omega
  intro v' w6 own6 hgrow _
  have R : Hid (w6.ownsRow w.heap.size 31 2 v' L.length (flat L) ∧ Below w.heap.size w w6) :=
    ⟨by simpa using own6, hb0.grown hgrow (by simp) (fun k hk => (own0.lt k hk).1)⟩
  clear own0 own6 hgrow hb0
  go_wp2_with fail
  go_ret
  rw [HU.out]
  exact ⟨_, rfl, R.out.1, R.out.2⟩

/-! ### slices.Reverse behind the first element -/
/-- After k rounds. -/
def revAt (M : List (Int × Int)) (k t : Nat) : Int × Int := if 1 ≤ t ∧ (t ≤ k ∨ M.length - k ≤ t) then gt M (M.length - t) else gt M t
def revK (M : List (Int × Int)) (k : Nat) : List (Int × Int) := (List.range M.length).map (revAt M k)
theorem revK_len (M : List (Int × Int)) (k : Nat) : (revK M k).length = M.length := by simp [revK]
theorem revK_zero (M : List (Int × Int)) : revK M 0 = M := by
  apply List.ext_getElem (by simp [revK])
  intro t h1 h2
  simp only [revK, List.getElem_map, List.getElem_range, revAt]
  rw [if_neg (by omega), gt_at h2]
theorem revK_all (M : List (Int × Int)) {k : Nat} (h : M.length ≤ 2 * k + 2) (h0 : 1 ≤ M.length) : revK M k = turnL M := by
  apply List.ext_getElem (by simp [revK, turnL, turnTill]; omega)
  intro t h1 h2
  have ht : t < M.length := by simpa [revK] using h1
  simp only [revK, List.getElem_map, List.getElem_range, revAt]
  cases t with
  | zero => rw [if_neg (by omega)]; rfl
  | succ t =>
    have e : (turnL M)[t + 1]'h2 = gt M (M.length - 1 - t) := by simp [turnL, turnTill]
    rw [e]
    by_cases hc : t + 1 ≤ k ∨ M.length - k ≤ t + 1
    · rw [if_pos ⟨by omega, hc⟩]; congr 1; omega
    · rw [if_neg (by omega)]; congr 1; omega
theorem gt_revK (M : List (Int × Int)) (k t : Nat) (ht : t < M.length) : gt (revK M k) t = revAt M k t := by
  rw [gt_at (by rw [revK_len]; exact ht)]
  simp [revK]
theorem revK_step (M : List (Int × Int)) (k : Nat) (h : 2 * k + 2 < M.length) :
    revK M (k + 1) = ((revK M k).set (1 + k) (gt (revK M k) (M.length - 1 - k))).set (M.length - 1 - k) (gt (revK M k) (1 + k)) := by
  rw [gt_revK _ _ _ (by omega), gt_revK _ _ _ (by omega)]
  apply List.ext_getElem (by simp [revK])
  intro t h1 h2
  have ht : t < M.length := by simpa [revK] using h1
  rw [List.getElem_set, List.getElem_set]
  simp only [revK, List.getElem_map, List.getElem_range, revAt]
  by_cases e1 : M.length - 1 - k = t
  · rw [if_pos e1, if_pos (by omega), if_neg (by omega)]; congr 1; omega
  · rw [if_neg e1]
    by_cases e2 : 1 + k = t
    · rw [if_pos e2, if_pos (by omega), if_neg (by omega)]; congr 1; omega
    · rw [if_neg e2]
      by_cases hc : 1 ≤ t ∧ (t ≤ k ∨ M.length - k ≤ t)
      · rw [if_pos (by omega), if_pos hc]
      · rw [if_neg (by omega), if_neg hc]
theorem flat_set1 (M : List (Int × Int)) : ∀ i (p : Int × Int), i < M.length → flat (M.set i p) = ((flat M).set (i * 2) (.int .i64 p.1)).set (i * 2 + 1) (.int .i64 p.2) := by
  induction M with
  | nil => intro i p h; simp at h
  | cons q M ih =>
    intro i p h
    have e : ∀ (r : Int × Int) (N : List (Int × Int)), flat (r :: N) = .int .i64 r.1 :: .int .i64 r.2 :: flat N := fun _ _ => rfl
    cases i with
    | zero => rw [List.set_cons_zero, e, e]; rfl
    | succ i =>
      rw [List.set_cons_succ, e, e, ih i p (by simpa using h)]
      have h1 : (i + 1) * 2 = i * 2 + 1 + 1 := by omega
      have h2 : (i + 1) * 2 + 1 = i * 2 + 1 + 1 + 1 := by omega
      rw [h2, h1]
      simp

theorem pts_own {w : World} {B g n cap : Nat} {L : List (Int × Int)} (h : w.ownsRow B 31 2 (.slice (some ⟨g, 0, none⟩) n cap) n (flat L)) (hn : L.length = n) : ∀ k, k < n → w.cell? ⟨g, k * 2, none⟩ = some (.int .i64 (gt L k).1) ∧ w.cell? ⟨g, k * 2 + 1, none⟩ = some (.int .i64 (gt L k).2) := by
  intro k hk
  have hk' : k < L.length := by omega
  rw [h.cellAt (k * 2) (by omega), h.cellAt (k * 2 + 1) (by omega), gt_at hk']
  exact flat_at L k hk'

theorem grown_drew {w w' : World} {r : Option Nat} (h : w.grownBy w' r) : w.grownBy w'.drew r := ⟨h.os, h.tape, h.output, h.size, h.block⟩
set_option maxRecDepth 100000 in
set_option maxHeartbeats 4000000 in
theorem rev_any (B g cap : Nat) (M : List (Int × Int)) (w : World) (hown : w.ownsRow B 31 2 (.slice (some ⟨g, 0, none⟩) M.length cap) M.length (flat M)) (h1 : 2 ≤ M.length) (h2 : M.length ≤ 1048576) :
    Calls Try.prog 38 #[.slice (some ⟨g, 2, none⟩) (M.length - 1) (cap - 1)] w fun e w' => (∃ v, e = .returned v) ∧ w'.ownsRow B 31 2 (.slice (some ⟨g, 0, none⟩) M.length cap) M.length (flat (turnL M)) ∧ w.grownBy w' (some g) := by
  obtain ⟨n, hn⟩ : ∃ n, n = M.length := ⟨_, rfl⟩
  have HN := Lib.hid hn
  rw [← hn] at hown h1 h2 ⊢
  clear hn
  have f1 : ((n - 1 : Nat) : Int) - 1 = ((n - 2 : Nat) : Int) := by omega
  go_enter Try.func38, Try.ntmps38
  go_wp2_with fail
  go_loopw [2, 3] (fun i j wr => ∃ k q : Nat, i = .int .i64 k ∧ j = .int .i64 q ∧ Hid (k + q + 2 = n ∧ k ≤ q + 1) ∧ wr.ownsRow B 31 2 (.slice (some ⟨g, 0, none⟩) n cap) n (flat (revK M k)) ∧ w.grownBy wr (some g)) (fun i j _ => n - (intOf i).toNat)
  case atStart => exact ⟨0, n - 2, rfl, rfl, ⟨by omega, by omega⟩, by rw [revK_zero]; exact hown, World.grownBy.refl _ _⟩
  case round =>
    obtain ⟨k, q, rfl, rfl, HK, own, hgr⟩ := hrel
    have hk1 := HK.out.1
    by_cases hlt : k < q
    · obtain ⟨x, hx⟩ : ∃ x, x = (gt (revK M k) (1 + k)).1 := ⟨_, rfl⟩
      obtain ⟨y, hy⟩ : ∃ y, y = (gt (revK M k) (1 + k)).2 := ⟨_, rfl⟩
      obtain ⟨x', hx'⟩ : ∃ x', x' = (gt (revK M k) (1 + q)).1 := ⟨_, rfl⟩
      obtain ⟨y', hy'⟩ : ∃ y', y' = (gt (revK M k) (1 + q)).2 := ⟨_, rfl⟩
      have hP := pts_own own (by rw [revK_len]; exact HN.out.symm)
      have p1 := hP (1 + k) (by omega)
      have p2 := hP (1 + q) (by omega)
      rw [← hx, ← hy] at p1
      rw [← hx', ← hy'] at p2
      have e1 : (1 + k) * 2 = 2 + k * 2 := by omega
      have e2 : (1 + q) * 2 = 2 + q * 2 := by omega
      rw [e1] at p1
      rw [e2] at p2
      obtain ⟨c1, c2⟩ := p1
      obtain ⟨c3, c4⟩ := p2
      have f2 := own.frozenAt (2 + k * 2)
      have f3 := own.frozenAt (2 + k * 2 + 1)
      have f4 := own.frozenAt (2 + q * 2)
      have f5 := own.frozenAt (2 + q * 2 + 1)
      have hk2 : (k : Int) < ((n - 1 : Nat) : Int) := by omega
      have hq2 : (q : Int) < ((n - 1 : Nat) : Int) := by omega
      have hml : (revK M k).length = n := by rw [revK_len]; exact HN.out.symm
      have own4 := ((((own.stored (2 + k * 2) (.int .i64 x')).1.stored (2 + k * 2 + 1) (.int .i64 y')).1.stored (2 + q * 2) (.int .i64 x)).1.stored (2 + q * 2 + 1) (.int .i64 y)).1
      have hq1 : M.length - 1 - k = 1 + q := by have := HN.out; omega
      have hstep : revK M (k + 1) = ((revK M k).set (1 + k) (x', y')).set (1 + q) (x, y) := by
        rw [revK_step M k (by have := HN.out; omega), hq1, hx, hy, hx', hy']
      have hflat : ((((flat (revK M k)).set (2 + k * 2) (.int .i64 x')).set (2 + k * 2 + 1) (.int .i64 y')).set (2 + q * 2) (.int .i64 x)).set (2 + q * 2 + 1) (.int .i64 y) = flat (revK M (k + 1)) := by
        rw [hstep, flat_set1 _ _ _ (by rw [List.length_set]; omega), flat_set1 _ _ _ (by omega), e1, e2]
      rw [hflat] at own4
      have hgr4 := only_set (only_set (only_set (only_set hgr (2 + k * 2) (.int .i64 x')) (2 + k * 2 + 1) (.int .i64 y')) (2 + q * 2) (.int .i64 x)) (2 + q * 2 + 1) (.int .i64 y)
      have R := Lib.hid (And.intro own4 hgr4)
      clear own own4 hgr hgr4 hP e1 e2 hx hy hx' hy' hk1 hown hflat hstep hq1 hml
      have hq0 : (0 : Int) ≤ (q : Int) - 1 := by omega
      have g1 : (q : Int) - 1 = ((q - 1 : Nat) : Int) := by omega
      go_wp2_with fail
      go_region
      go_wp2_with fail
      go_roundw
      case rel => exact ⟨k + 1, q - 1, by go_num, by first | rfl | go_num | exact congrArg _ g1, ⟨by have := HK.out.1; omega, by omega⟩, own_drew R.out.1, grown_drew R.out.2⟩
      case measure => simp [intOf]; omega
    · have e : revK M k = turnL M := revK_all M (by have := HN.out; have := HK.out; omega) (by have := HN.out; omega)
      rw [e] at own
      have R := Lib.hid (And.intro own hgr)
      clear own hgr hown hk1 e
      go_wp2_with fail
      go_end0
      exact ⟨⟨_, rfl⟩, R.out.1, R.out.2⟩

theorem own_cap {w : World} {B g n cap : Nat} {e : TypeId} {size : Nat} {xs : List Value} (h : w.ownsRow B e size (.slice (some ⟨g, 0, none⟩) n cap) n xs) : n ≤ cap := by
  rcases h.2 with ⟨h1, _⟩ | ⟨g', cap', cur, hv, hB, hg, h3⟩
  · cases h1
  · simp only [Value.slice.injEq] at hv
    obtain ⟨-, -, rfl⟩ := hv
    exact h3.1

set_option maxRecDepth 100000 in
set_option maxHeartbeats 2000000 in
theorem impl_turn (A : Option Addr) (c : Nat) (L : List (Int × Int)) (w : World) (hA : PtsA w A L) (hL : L.length ≤ 1048576) :
    Calls Try.prog 26 #[.slice A L.length c] w (Lists w (turnV L)) := by
  cases hp : polyB L
  · have HU : Hid (Lists w (turnV L) = fun e w' => ∃ v, e = .returned v ∧ w'.ownsRow w.heap.size 31 2 v 0 [] ∧ Below w.heap.size w w') := by
      show _ = _
      unfold turnV
      rw [hp]; rfl
    have PC := Lib.hid (impl_poly A c L w hA hL)
    rw [hp] at PC
    go_enter Try.func26, Try.ntmps26
    go_wp2_with fail
    refine PC.out.mono ?_
    rintro e w1 ⟨rfl, hb1⟩
    go_wp2_with fail
    go_ret
    rw [HU.out]
    exact ⟨_, rfl, World.ownsRow_nil _ _ _ _, hb1⟩
  · obtain ⟨h3, h10, hok⟩ := polyB_all hp
    have hlen : (turnL L).length = L.length := by simp [turnL, turnTill]; omega
    have HU : Hid (Lists w (turnV L) = fun e w' => ∃ v, e = .returned v ∧ w'.ownsRow w.heap.size 31 2 v L.length (flat (turnL L)) ∧ Below w.heap.size w w') := by
      show _ = _
      unfold turnV
      rw [hp, ← hlen]; rfl
    have PC := Lib.hid (impl_poly A c L w hA hL)
    rw [hp] at PC
    have HC := Lib.hid (fun (W : World) (hb : Below w.heap.size w W) => clone_any A c L W (ptsA_on hA hb) (by omega) hL)
    unfold Lists at HC
    clear hA hlen
    go_enter Try.func26, Try.ntmps26
    go_wp2_with fail
    refine PC.out.mono ?_
    rintro e w1 ⟨rfl, hb1⟩
    go_wp2_with fail
    refine (HC.out _ hb1).mono ?_
    rintro e w2 ⟨v, rfl, own, hb2⟩
    have hb12 := hb1.trans (hb2.mono hb1.size)
    replace own := own_base own hb1.size
    have hv : ∃ g cap, v = .slice (some ⟨g, 0, none⟩) L.length cap := by
      rcases own.2 with ⟨_, h0⟩ | ⟨g, cap, _, rfl, _⟩
      · omega
      · exact ⟨g, cap, rfl⟩
    obtain ⟨g, cap, rfl⟩ := hv
    have hcap := own_cap own
    have hgl := (own.lt g rfl).1
    have HR := Lib.hid (rev_any w.heap.size g cap L w2 own (by omega) hL)
    have hc1 : ¬ cap = 1 := by omega
    have hc2 : ¬ 1 = cap := by omega
    have hl1 : (1 : Int) ≤ (L.length : Int) := by omega
    have hl2 : 1 ≤ L.length := by omega
    clear hb1 hb2 own
    go_wp2_with fail
    refine HR.out.mono ?_
    rintro e w3 ⟨⟨u, rfl⟩, own3, hg3⟩
    have hb3 := hb12.grown hg3 hb12.size (fun k e => by cases e; exact hgl)
    have R := Lib.hid own3
    clear own3 hg3 hb12
    go_wp2_with fail
    go_ret
    rw [HU.out]
    exact ⟨_, rfl, R.out, hb3⟩
end Go.Proofs.Ytnkehfhedjdhaab

/-! Start -/
namespace Go.Proofs.Ytnkehfhedjdhaab
open Go.RowKit

def rotL (L : List (Int × Int)) (k : Nat) : List (Int × Int) := L.drop k ++ L.take k
theorem rotL_len (L : List (Int × Int)) (k : Nat) : (rotL L k).length = L.length := by simp [rotL]; omega

theorem step_append_any {P : Program} {ops : Array Oper} {o : Oper} {a : Act} {w : World} {K : Act → World → Prop} {Q : Exit → Act → World → Prop} {E : Prop} (hgd : o.guard = none) (s x : Operand) (t : TypeId)
    (ho : o.op = .call { callee := .builtin .append, args := #[s, x], argTypes := #[t, t] })
    (base : Nat) (e : TypeId) (i : TypeInfo) (z : Value) (size bytes : Nat) (ht : P.underlying t = some (.slice e)) (hi : P.info? e = some i) (hz : i.zero = some z)
    (hsize : i.size = size) (hby : i.bytes = bytes) (hzs : z.cells.size = size) (hsz : 0 < size)
    (v : Value) (n : Nat) (xs : List Value) (hs : a.eval s = v) (hown : w.ownsRow base e size v n xs)
    (ad : Addr) (m c : Nat) (news : List Value) (hx : a.eval x = .slice (some ad) m c) (hl : news.length = m * size) (hnews : ∀ j u, news[j]? = some u → w.cell? (ad.add j) = some u) (h1 : ∀ u ∈ news, u.oneCell' = true)
    (h63 : n + m ≤ maxLen) (hbytes : (n + m) * bytes ≤ 140737488355328) (hbase : base ≤ w.heap.size)
    (h : ∀ v' w', w'.ownsRow base e size v' (n + m) (xs ++ news) → w.grownBy w' v.ownBlock → K (a.put o.dst v') w') :
    if Region.wanted o (yielded ops a.tmps) = true then Oper.wp P o a w K Q else E := by
  have hw : Region.wanted o (yielded ops a.tmps) = true := by simp [Region.wanted, hgd]
  rw [if_pos hw]
  obtain ⟨v', w', hrun, r1, r2, _⟩ := run_append_own (P := P) w base t o.type e i z size bytes ht hi hz hsize hby hzs hsz v n xs hown ad m c news hl hnews h1 h63 hbytes hbase
  unfold Oper.wp
  simp [execOp, ho, resolve, invoke, builtin, hs, hx, hrun, Result.andThen]
  exact h v' w' r1 r2

theorem ptsA_take {w : World} {g : Nat} {L : List (Int × Int)} (h : PtsA w (some ⟨g, 0, none⟩) L) (k : Nat) : ∀ j u, (flat (L.take k))[j]? = some u → w.cell? (Addr.add ⟨g, 0, none⟩ j) = some u := by
  intro j u hu
  have h0 := ptsA_news h 0 j u
  rw [List.drop_zero, Nat.zero_mul] at h0
  refine h0 ?_
  have e : flat L = flat (L.take k) ++ flat (L.drop k) := by rw [← flat_append, List.take_append_drop]
  have hj : j < (flat (L.take k)).length := by
    rcases Nat.lt_or_ge j (flat (L.take k)).length with h1 | h1
    · exact h1
    · rw [List.getElem?_eq_none h1] at hu; cases hu
  rw [e, List.getElem?_append_left hj]
  exact hu

set_option maxRecDepth 100000 in
set_option maxHeartbeats 2000000 in
theorem start_any (A : Option Addr) (c k : Nat) (L : List (Int × Int)) (w : World) (hA : PtsA w A L) (hk : k < L.length) (hc : L.length ≤ c) (h2 : L.length ≤ 1048576) :
    Calls Try.prog 17 #[.slice A L.length c, .int .i64 k] w (Lists w (rotL L k)) := by
  obtain ⟨i0, hi0, hz0, hz1, hz2⟩ := info_parts infoPt
  obtain ⟨g, rfl, -⟩ := hA 0 (by omega)
  have HU : Hid (Lists w (rotL L k) = fun e w' => ∃ v, e = .returned v ∧ w'.ownsRow w.heap.size 31 2 v (L.length - k + k) (flat (L.drop k) ++ flat (L.take k)) ∧ Below w.heap.size w w') := by
    show _ = _
    unfold Lists
    rw [rotL_len, rotL, flat_append, show L.length - k + k = L.length by omega]
  have own0 := World.ownsRow_lit (base := w.heap.size) (e := 31) (size := 2) w #[] 0 (Nat.le_refl _) (by unfold maxLen; omega) (by rfl)
  have HA := Lib.hid hA
  have hkc : ¬ k = c := by omega
  have hkc' : ¬ c = k := by omega
  have hkn : (k : Int) ≤ (L.length : Int) := by omega
  have hkc2 : (k : Int) ≤ (c : Int) := by omega
  have hnc : (L.length : Int) ≤ (c : Int) := by omega
  clear hA
  go_enter Try.func17, Try.ntmps17
  go_wp2_with fail
  go_region_law (first
    | (refine step_append_any (by rfl) (.tmp 5) (.tmp 8) 25 (by rfl) w.heap.size 31 i0 _ 2 16 Try.underlying25 hi0 hz0 hz1 hz2 rfl (by omega) (.slice (some ⟨w.heap.size, 0, none⟩) 0 0) 0 _ (by rfl) own0.drew ⟨g, k * 2, none⟩ (L.length - k) (c - k) (flat (L.drop k)) (by rfl) (by rw [flat_len, List.length_drop]) (ptsA_news (ptsA_on HA.out (below1 w _).drew) k) (flat_one _) (by unfold maxLen; omega) (by omega) (by simp) ?_; intro v1 w1 own1 hg1; simp only [Nat.zero_add, List.nil_append] at own1; have b1 := (below1 w (.cells #[] 31)).drew.grown hg1 (by simp) (fun q hq => (own0.lt q hq).1))
    | (refine step_append_any (by rfl) (.tmp 9) (.tmp 12) 25 (by rfl) w.heap.size 31 i0 _ 2 16 Try.underlying25 hi0 hz0 hz1 hz2 rfl (by omega) v1 (L.length - k) _ (by rfl) own1 ⟨g, 0, none⟩ k c (flat (L.take k)) (by rfl) (by rw [flat_len, List.length_take]; omega) (ptsA_take (ptsA_on HA.out b1) k) (flat_one _) (by unfold maxLen; omega) (by omega) b1.size ?_; intro v2 w2 own2 hg2))
  all_goals
    have b2 := b1.grown hg2 b1.size (fun q hq => (own1.lt q hq).1)
    have R := Lib.hid (And.intro own2 b2)
    clear own0 own1 own2 b1 b2 hg1 hg2
    go_wp2_with fail
    go_ret
    rw [HU.out]
    exact ⟨_, rfl, R.out.1, R.out.2⟩

set_option maxRecDepth 100000 in
set_option maxHeartbeats 2000000 in
theorem grow_any (n : Nat) (w : World) (h1 : 1 ≤ n) (h2 : n ≤ 1048576) :
    Calls Try.prog 47 #[.slice none 0 0, .int .i64 n] w fun e w' => ∃ g cap, e = .returned (.slice (some ⟨g, 0, none⟩) 0 cap) ∧ w'.ownsRow w.heap.size 31 2 (.slice (some ⟨g, 0, none⟩) 0 cap) 0 [] ∧ Below w.heap.size w w' := by
  obtain ⟨i0, hi0, hz0, hz1, hz2⟩ := info_parts infoPt
  have hn0 : ¬ ((n : Int) < 0) := by omega
  have hn1 : (n : Int) > 0 := by omega
  have hold : (Builtin.firstCells i0.size 0 (.slice none 0 0)).run Try.prog w.drew = .ok ([] : List Value).toArray w.drew := run_firstCells_none _ i0.size 0 0 0
  have hrz : ∀ ty, (Builtin.append_ #[25, 3] ty #[.slice none 0 0, .int .i64 n]).run Try.prog w =
      .ok (.slice (some ⟨w.heap.size, 0, none⟩) n (grownCap w n 0 31)) (w.drew.alloc (.cells (([] : List Value).toArray ++ Builtin.zeroCells (Value.agg #[.int .i64 0, .int .i64 0]).cells n ++ Builtin.zeroCells (Value.agg #[.int .i64 0, .int .i64 0]).cells (grownCap w n 0 31 - n)) 31)) := fun ty => by
    have h := Lib.run_append_grow_zeros w 25 3 ty 31 i0 (.agg #[.int .i64 0, .int .i64 0]) .i64 .i64 Try.underlying25 Try.underlying3 hi0 hz0 none 0 0 [] hold n (by omega) (by omega) (by omega) (by omega)
      (by rw [hz2]; omega) (by rw [Nat.zero_add]; exact growslice_fits (by omega) (by rw [hz2]; omega))
    rw [Nat.zero_add] at h
    exact h
  have hGn : n ≤ grownCap w n 0 31 := grownCap_ge w _ _ _
  obtain ⟨G, hG⟩ : ∃ G, G = grownCap w n 0 31 := ⟨_, rfl⟩
  rw [← hG] at hrz hGn
  have hGm : G ≤ maxLen := by rw [hG]; exact grownCap_le_maxLen w n 0 31 (by unfold maxLen; omega)
  have hG63 : G ≤ 9223372036854775807 := by unfold maxLen at hGm; omega
  obtain ⟨C, hC⟩ : ∃ C, C = ([] : List Value).toArray ++ Builtin.zeroCells (Value.agg #[.int .i64 0, .int .i64 0]).cells n ++ Builtin.zeroCells (Value.agg #[.int .i64 0, .int .i64 0]).cells (G - n) := ⟨_, rfl⟩
  have hCs : C.size = G * 2 := by
    have e : (Value.agg #[.int .i64 0, .int .i64 0]).cells.size = 2 := rfl
    rw [hC, Array.size_append, Array.size_append, size_zeroCells, size_zeroCells, e]
    simp; omega
  rw [← hC] at hrz
  have R : Hid ((w.drew.alloc (.cells C 31)).ownsRow w.heap.size 31 2 (.slice (some ⟨w.heap.size, 0, none⟩) 0 G) 0 [] ∧ Below w.heap.size w (w.drew.alloc (.cells C 31))) :=
    ⟨⟨rfl, .inr ⟨w.heap.size, G, C, rfl, Nat.le_refl _, heap_alloc_new w.drew _, Nat.zero_le _, hGm, hCs, rfl⟩⟩, ((Below.refl _ w).drew).alloc (Nat.le_refl _) _⟩
  clear hold hG hC hCs hGm
  go_enter Try.func47, Try.ntmps47
  go_wp2_with (at_builtin; refine Lib.wpList_append_run _ rfl _ _ _ _ rfl _ _ rfl rfl _ _ (hrz _) ?_)
  go_ret
  exact ⟨_, _, rfl, R.out.1, R.out.2⟩

def catN (L : List (Int × Int)) (k : Nat) : Nat → Nat
  | 0 => 0
  | 1 => L.length - k
  | _ => L.length
def catL (L : List (Int × Int)) (k : Nat) : Nat → List (Int × Int)
  | 0 => []
  | 1 => L.drop k
  | _ => rotL L k
set_option maxRecDepth 100000 in
set_option maxHeartbeats 4000000 in
theorem concat_any (g gs c1 c2 k : Nat) (L : List (Int × Int)) (w : World) (hA : PtsA w (some ⟨g, 0, none⟩) L) (hk : k < L.length) (h2 : L.length ≤ 1048576)
    (s0 : w.cell? ⟨gs, 0, none⟩ = some (.slice (some ⟨g, k * 2, none⟩) (L.length - k) c1)) (s1 : w.cell? ⟨gs, 1, none⟩ = some (.slice (some ⟨g, 0, none⟩) k c2)) :
    Calls Try.prog 36 #[.slice (some ⟨gs, 0, none⟩) 2 2] w (Lists w (rotL L k)) := by
  obtain ⟨i0, hi0, hz0, hz1, hz2⟩ := info_parts infoPt
  have HU : Hid (Lists w (rotL L k) = fun e w' => ∃ v, e = .returned v ∧ w'.ownsRow w.heap.size 31 2 v (catN L k 2) (flat (catL L k 2)) ∧ Below w.heap.size w w') := by
    show _ = _
    unfold Lists
    rw [rotL_len]; rfl
  have HA := Lib.hid hA
  have HK := Lib.hid hk
  have HS0 := Lib.hid s0
  have HS1 := Lib.hid s1
  have f1 : ((L.length - k : Nat) : Int) + (k : Int) = (L.length : Int) := by omega
  clear hA
  go_enter Try.func36, Try.ntmps36
  go_wp2_with fail
  go_loop [3, 11] (fun s i => ∃ j : Nat, j ≤ 2 ∧ i = .int .i64 j ∧ s = .int .i64 (catN L k j)) (fun _ i => 2 - (intOf i).toNat)
  case atStart => exact ⟨0, by omega, rfl, rfl⟩
  case round =>
    obtain ⟨j, hj, rfl, rfl⟩ := hrel
    match j, hj with
    | 0, _ =>
      have e0 : catN L k 0 = 0 := rfl
      rw [e0]
      clear e0 s1
      go_wp2_with fail
      go_round
      case rel => exact ⟨1, by omega, by first | rfl | go_num, by first | rfl | go_num⟩
      case measure => simp [intOf]
    | 1, _ =>
      have e0 : catN L k 1 = L.length - k := rfl
      rw [e0]
      clear e0 s0
      go_wp2_with fail
      go_round
      case rel => exact ⟨2, by omega, by first | rfl | go_num, by first | rfl | go_num | exact congrArg _ f1⟩
      case measure => simp [intOf]
    | 2, _ =>
      have e0 : catN L k 2 = L.length := rfl
      rw [e0]
      clear e0 s0 s1 f1
      go_wp2_with fail
      refine (grow_any L.length w (by omega) h2).mono ?_
      rintro e w1 ⟨g1, cp1, rfl, own1, b1⟩
      have R1 := Lib.hid (And.intro own1 b1)
      clear own1 b1
      go_wp2_with fail
      go_loopw [6, 27] (fun v i wr => ∃ j : Nat, j ≤ 2 ∧ i = .int .i64 j ∧ wr.ownsRow w.heap.size 31 2 v (catN L k j) (flat (catL L k j)) ∧ Below w.heap.size w wr) (fun _ i _ => 2 - (intOf i).toNat)
      case atStart => exact ⟨0, by omega, by first | rfl | go_num, R1.out.1, R1.out.2⟩
      case round =>
        obtain ⟨j, hj, rfl, own, b⟩ := hrel
        match j, hj with
        | 0, _ =>
          have s0 := cell_on b rfl HS0.out
          have HN := Lib.hid (ptsA_news (ptsA_on HA.out b) k)
          have hsz := b.size
          have own0 : wr.ownsRow w.heap.size 31 2 u6 0 [] := own
          have HB := Lib.hid b
          clear own b
          go_wp2_with (at_builtin; refine wpList_append_own _ rfl _ _ 25 rfl w.heap.size 31 i0 (.agg #[.int .i64 0, .int .i64 0]) 2 16 Try.underlying25 hi0 hz0 hz1 hz2 rfl (by decide) _ _ _ rfl own0 ⟨g, k * 2, none⟩ (L.length - k) c1 (flat (L.drop k)) rfl (by rw [flat_len, List.length_drop]) HN.out (flat_one _) ?d3 ?d4 hsz ?_)
          case d3 => unfold maxLen; omega
          case d4 => omega
          intro v' w6 own6 hgrow _
          have R : Hid (w6.ownsRow w.heap.size 31 2 v' (catN L k 1) (flat (catL L k 1)) ∧ Below w.heap.size w w6) :=
            ⟨show w6.ownsRow w.heap.size 31 2 v' (L.length - k) (flat (L.drop k)) from by simpa using own6, HB.out.grown hgrow hsz (fun q hq => (own0.lt q hq).1)⟩
          clear own0 own6 hgrow s0
          go_wp2_with fail
          go_roundw
          case rel => exact ⟨1, by omega, by first | rfl | go_num, R.out.1, R.out.2⟩
          case measure => simp [intOf]
        | 1, _ =>
          have s0 := cell_on b rfl HS1.out
          have HN := Lib.hid (ptsA_take (ptsA_on HA.out b) k)
          have hsz := b.size
          have own0 : wr.ownsRow w.heap.size 31 2 u6 (L.length - k) (flat (L.drop k)) := own
          have HB := Lib.hid b
          clear own b
          go_wp2_with (at_builtin; refine wpList_append_own _ rfl _ _ 25 rfl w.heap.size 31 i0 (.agg #[.int .i64 0, .int .i64 0]) 2 16 Try.underlying25 hi0 hz0 hz1 hz2 rfl (by decide) _ _ _ rfl own0 ⟨g, 0, none⟩ k c2 (flat (L.take k)) rfl (by rw [flat_len, List.length_take]; have := HK.out; omega) HN.out (flat_one _) ?d3 ?d4 hsz ?_)
          case d3 => unfold maxLen; omega
          case d4 => omega
          intro v' w6 own6 hgrow _
          have R : Hid (w6.ownsRow w.heap.size 31 2 v' (catN L k 2) (flat (catL L k 2)) ∧ Below w.heap.size w w6) := by
            refine ⟨?_, HB.out.grown hgrow hsz (fun q hq => (own0.lt q hq).1)⟩
            have e1 : catN L k 2 = L.length - k + k := by show L.length = _; have := HK.out; omega
            have e2 : flat (catL L k 2) = flat (L.drop k) ++ flat (L.take k) := by show flat (rotL L k) = _; rw [rotL, flat_append]
            rw [e1, e2]; exact own6
          clear own0 own6 hgrow s0
          go_wp2_with fail
          go_roundw
          case rel => exact ⟨2, by omega, by first | rfl | go_num, R.out.1, R.out.2⟩
          case measure => simp [intOf]
        | 2, _ =>
          have R := Lib.hid (And.intro own b)
          clear own b
          go_wp2_with fail
          go_ret
          rw [HU.out]
          exact ⟨_, rfl, R.out.1, R.out.2⟩

/-! ### StartAt -/
def startV (L : List (Int × Int)) (k : Int) : List (Int × Int) := bif polyB L && inB k 0 ((L.length : Int) - 1) then rotL L k.toNat else []
theorem startV_len (L : List (Int × Int)) (k : Int) : (startV L k).length ≤ 1048576 := by
  unfold startV
  cases h : polyB L
  · simp
  · have := polyB_all h
    cases inB k 0 ((L.length : Int) - 1)
    · simp
    · simp only [Bool.and_self, cond_true, rotL_len]; omega

set_option maxRecDepth 100000 in
set_option maxHeartbeats 2000000 in
theorem impl_start (A : Option Addr) (c : Nat) (L : List (Int × Int)) (k : Int) (w : World) (hA : PtsA w A L) (hc : L.length ≤ c) (hL : L.length ≤ 1048576) :
    Calls Try.prog 23 #[.slice A L.length c, .int .i64 k] w (Lists w (startV L k)) := by
  have PC := Lib.hid (impl_poly A c L w hA hL)
  have no : startV L k = [] → Hid (Lists w (startV L k) = fun e w' => ∃ v, e = .returned v ∧ w'.ownsRow w.heap.size 31 2 v 0 [] ∧ Below w.heap.size w w') := fun h => by
    show _ = _
    rw [h]; rfl
  cases hp : polyB L
  · have HU := no (by rw [startV, hp]; rfl)
    rw [hp] at PC
    clear no hA
    go_enter Try.func23, Try.ntmps23
    go_wp2_with fail
    refine PC.out.mono ?_
    rintro e w1 ⟨rfl, hb1⟩
    go_wp2_with fail
    go_ret
    rw [HU.out]
    exact ⟨_, rfl, World.ownsRow_nil _ _ _ _, hb1⟩
  · obtain ⟨h3, h10, hok⟩ := polyB_all hp
    rw [hp] at PC
    have HI := Lib.hid (fun w => from_any k 0 ((L.length : Int) - 1) w)
    cases hk : inB k 0 ((L.length : Int) - 1)
    · have HU := no (by rw [startV, hp, hk]; rfl)
      rw [hk] at HI
      clear no hA
      go_enter Try.func23, Try.ntmps23
      go_wp2_with fail
      refine PC.out.mono ?_
      rintro e w1 ⟨rfl, hb1⟩
      go_wp2_with fail
      refine (HI.out _).mono ?_
      rintro e w2 ⟨rfl, rfl⟩
      go_wp2_with fail
      go_ret
      rw [HU.out]
      exact ⟨_, rfl, World.ownsRow_nil _ _ _ _, hb1⟩
    · have hkb := inB_spec.1 hk
      obtain ⟨q, rfl⟩ : ∃ q : Nat, k = (q : Int) := ⟨k.toNat, by omega⟩
      have hq : q < L.length := by omega
      have HU : Hid (Lists w (startV L q) = fun e w' => ∃ v, e = .returned v ∧ w'.ownsRow w.heap.size 31 2 v (rotL L q).length (flat (rotL L q)) ∧ Below w.heap.size w w') := by
        show _ = _
        rw [startV, hp, hk]; rfl
      rw [hk] at HI
      obtain ⟨g, rfl, -⟩ := hA 0 (by omega)
      have HA := Lib.hid hA
      have HT := Lib.hid (fun (gs c1 c2 : Nat) (W : World) (hb : Below w.heap.size w W) s0 s1 => concat_any g gs c1 c2 q L W (ptsA_on hA hb) hq hL s0 s1)
      unfold Lists at HT
      have hkc : ¬ q = c := by omega
      have hkc' : ¬ c = q := by omega
      have hkn : (q : Int) ≤ (L.length : Int) := by omega
      have hkc2 : (q : Int) ≤ (c : Int) := by omega
      have hnc : (L.length : Int) ≤ (c : Int) := by omega
      clear no hA hkb
      go_enter Try.func23, Try.ntmps23
      go_wp2_with fail
      refine PC.out.mono ?_
      rintro e w1 ⟨rfl, hb1⟩
      go_wp2_with fail
      refine (HI.out _).mono ?_
      rintro e w2 ⟨rfl, rfl⟩
      go_wp2_with fail
      have hz := hb1.size
      have hal := (hb1.drew).alloc hz (.cells #[.slice (some ⟨g, q * 2, none⟩) (L.length - q) (c - q), .slice (some ⟨g, 0, none⟩) q c] 25)
      have hh := heap_alloc_new w2.drew (.cells #[.slice (some ⟨g, q * 2, none⟩) (L.length - q) (c - q), .slice (some ⟨g, 0, none⟩) q c] 25)
      go_region_with (go_at_call 36; refine (HT.out w2.heap.size (c - q) c _ hal (cell_of_row _ _ 0 _ _ _ hh) (cell_of_row _ _ 1 _ _ _ hh)).mono ?_; rintro e w3 ⟨v, rfl, own, hb3⟩)
      all_goals
        have R := Lib.hid (And.intro (own_base own hal.size) (hal.trans (hb3.mono hal.size)))
        clear own hb1 hb3 hal hh
        go_wp2_with fail
        go_ret
        rw [HU.out]
        exact ⟨_, rfl, R.out.1, R.out.2⟩
end Go.Proofs.Ytnkehfhedjdhaab

/-! Same -/
namespace Go.Proofs.Ytnkehfhedjdhaab
open Go.RowKit

theorem consec_snoc (l : List Pt) (a b : Pt) : consec (l ++ [a] ++ [b]) = consec (l ++ [a]) ++ [(a, b)] := by
  induction l with
  | nil => rfl
  | cons x l ih =>
    cases l with
    | nil => rfl
    | cons y l =>
      have e1 : consec (x :: y :: l ++ [a] ++ [b]) = (x, y) :: consec (y :: l ++ [a] ++ [b]) := rfl
      have e2 : consec (x :: y :: l ++ [a]) = (x, y) :: consec (y :: l ++ [a]) := rfl
      rw [e1, e2, ih]; rfl
theorem good_of {L M : List Pt} (hl : M.length = L.length) (hm : ∀ p, p ∈ M ↔ p ∈ L) (hd : M.Nodup) (hs : ∀ s, s ∈ sidesL M → s ∈ sidesL L) (h : Good L) : Good M := by
  obtain ⟨h1, h2, h3, h4⟩ := h
  refine ⟨by rw [hl]; exact h1, ?_, hd, fun s hs1 t ht1 hst => h4 s (hs s hs1) t (hs t ht1) hst⟩
  simp only [allOk, List.all_eq_true] at h2 ⊢
  exact fun p hp => h2 p ((hm p).1 hp)
theorem sides_step (x y : Pt) (ys : List Pt) (s : Pt × Pt) : s ∈ sidesL (y :: ys ++ [x]) ↔ s ∈ sidesL (x :: y :: ys) := by
  have e1 : sidesL (x :: y :: ys) = (x, y) :: consec (y :: ys ++ [x]) := rfl
  have e2 : sidesL (y :: ys ++ [x]) = consec (y :: ys ++ [x] ++ [y]) := rfl
  rw [e1, e2, consec_snoc]
  rw [List.mem_append, List.mem_singleton, List.mem_cons]
  exact Or.comm
theorem good_step (x : Pt) (xs : List Pt) : Good (xs ++ [x]) ↔ Good (x :: xs) := by
  cases xs with
  | nil => exact Iff.rfl
  | cons y ys =>
    constructor
    · intro h
      refine good_of (L := y :: ys ++ [x]) (by simp) (fun p => by simp only [List.mem_cons, List.mem_append, List.not_mem_nil, or_false]; constructor <;> (intro h; rcases h with h | h | h <;> simp [h]) ) ?_ (fun s hs => (sides_step x y ys s).2 hs) h
      exact (List.perm_append_comm (l₁ := y :: ys) (l₂ := [x])).nodup_iff.1 h.2.2.1
    · intro h
      refine good_of (L := x :: y :: ys) (by simp) (fun p => by simp only [List.mem_cons, List.mem_append, List.not_mem_nil, or_false]; constructor <;> (intro h; rcases h with h | h | h <;> simp [h]) ) ?_ (fun s hs => (sides_step x y ys s).1 hs) h
      exact (List.perm_append_comm (l₁ := y :: ys) (l₂ := [x])).nodup_iff.2 h.2.2.1
theorem rotL_zero (L : List Pt) : rotL L 0 = L := by simp [rotL]
theorem rotL_succ {L : List Pt} {k : Nat} (hk : k < L.length) : ∃ x xs, rotL L k = x :: xs ∧ rotL L (k + 1) = xs ++ [x] := by
  refine ⟨L[k], L.drop (k + 1) ++ L.take k, ?_, ?_⟩
  · rw [rotL, List.drop_eq_getElem_cons hk]; rfl
  · rw [rotL, List.take_succ_eq_append_getElem hk, List.append_assoc]
theorem good_rot {L : List Pt} (h : Good L) : ∀ k, k ≤ L.length → Good (rotL L k) := by
  intro k
  induction k with
  | zero => intro _; rw [rotL_zero]; exact h
  | succ k ih =>
    intro hk
    obtain ⟨x, xs, e1, e2⟩ := rotL_succ (L := L) (k := k) (by omega)
    have := ih (by omega)
    rw [e1] at this
    rw [e2]
    exact (good_step x xs).2 this

/-! ### Without a straight corner -/
theorem cross_z (a b : Pt) : crossP a b b = 0 := by unfold crossP crossI; grind
theorem good_drop {b : Pt} {Y : List Pt} (h : Good (b :: Y)) (h4 : 3 ≤ Y.length) (hs : onP (gt Y (Y.length - 1)) (gt Y 0) b = true) : Good Y := by
  obtain ⟨h1, h2, h3, hg⟩ := h
  have hb : b ∉ Y := (List.nodup_cons.1 h3).1
  have hY : Y.Nodup := (List.nodup_cons.1 h3).2
  obtain ⟨c, Y', rfl⟩ : ∃ c Y', Y = c :: Y' := by
    cases Y with
    | nil => simp at h4
    | cons c Y' => exact ⟨c, Y', rfl⟩
  obtain ⟨a, ha⟩ : ∃ a, a = gt (c :: Y') ((c :: Y').length - 1) := ⟨_, rfl⟩
  have hc : gt (c :: Y') 0 = c := rfl
  rw [← ha, hc] at hs
  have hlast : c :: Y' = (c :: Y').dropLast ++ [a] := by
    have hl : (c :: Y').getLast (by simp) = a := by
      rw [ha, gt_at (by simp), List.getLast_eq_getElem]
    rw [← hl]
    exact (List.dropLast_concat_getLast _).symm
  have eL : sidesL (b :: c :: Y') = (b, c) :: consec (c :: Y') ++ [(a, b)] := by
    have e1 : sidesL (b :: c :: Y') = (b, c) :: consec (c :: Y' ++ [b]) := rfl
    rw [e1, hlast, consec_snoc]
    rfl
  have eY : sidesL (c :: Y') = consec (c :: Y') ++ [(a, c)] := by
    have e1 : sidesL (c :: Y') = consec (c :: Y' ++ [c]) := rfl
    rw [e1]
    conv => lhs; rw [hlast]
    rw [consec_snoc, ← hlast]
  have hbc : (b, c) ∈ sidesL (b :: c :: Y') := by rw [eL]; simp
  have hab : (a, b) ∈ sidesL (b :: c :: Y') := by rw [eL]; simp
  have hin : ∀ t, t ∈ consec (c :: Y') → t ∈ sidesL (b :: c :: Y') := fun t ht => by rw [eL]; simp [ht]
  have hmem : ∀ t, t ∈ consec (c :: Y') → t.1 ∈ c :: Y' ∧ t.2 ∈ c :: Y' := fun t ht => by
    have := List.of_mem_zip (a := t.1) (b := t.2) (l₁ := c :: Y') (l₂ := (c :: Y').tail) ht
    exact ⟨this.1, List.mem_of_mem_tail this.2⟩
  have haY : a ∈ c :: Y' := by rw [hlast]; simp
  have hba : b ≠ a := fun e => hb (e ▸ haY)
  have hbcn : b ≠ c := fun e => hb (e ▸ List.mem_cons_self)
  have hne1 : ∀ t, t ∈ consec (c :: Y') → t.1 ≠ b ∧ t.2 ≠ b := fun t ht => ⟨fun e => hb (e ▸ (hmem t ht).1), fun e => hb (e ▸ (hmem t ht).2)⟩
  -- a side from c does not lead to a
  have hca : ∀ t, t ∈ consec (c :: Y') → t.1 = c → t.2 ≠ a := fun t ht e1 e2 => by
    obtain ⟨i, hi, hti⟩ := mem_sides.1 (hin t ht)
    rw [hti] at e1 e2
    have k1 : gt (b :: c :: Y') i = gt (b :: c :: Y') 1 := e1
    have k2 := gt_inj h3 hi (by simp) k1
    have k3 : gt (b :: c :: Y') (nx (b :: c :: Y') i) = gt (b :: c :: Y') ((b :: c :: Y').length - 1) := by
      rw [show gt (b :: c :: Y') (nx (b :: c :: Y') i) = a from e2, ha]
      simp only [gt, List.length_cons, Nat.add_sub_cancel]
      cases hY' : Y'.length with
      | zero => simp at h4; omega
      | succ n => simp
    have k4 := gt_inj h3 (nx_lt (by simp) i) (by simp) k3
    rw [nx_eq hi] at k4
    simp only [List.length_cons] at k4 h4
    by_cases hl : i + 1 = Y'.length + 1 + 1
    · rw [if_pos hl] at k4; omega
    · rw [if_neg hl] at k4; omega
  have hac : a ≠ c := fun e => by
    have : gt (c :: Y') ((c :: Y').length - 1) = gt (c :: Y') 0 := by rw [← ha, e]; rfl
    have := gt_inj hY (by simp) (by simp) this
    simp only [List.length_cons] at this h4; omega
  -- the new side meets no other one
  have new0 : ∀ t, t ∈ consec (c :: Y') → t.1 ≠ c → t.2 ≠ a → meetI a c t.1 t.2 = 0 := fun t ht k1 k2 => by
    obtain ⟨n1, n2⟩ := hne1 t ht
    have m1 := (hg _ hab _ (hin t ht) (fun e => n2 (Prod.ext_iff.1 e).2.symm)).2 (Ne.symm n1) k2
    have m2 := (hg _ hbc _ (hin t ht) (fun e => n1 (Prod.ext_iff.1 e).1.symm)).2 (Ne.symm k1) n2
    exact meet_merge hs hba hbcn m1 m2
  have new1 : ∀ t, t ∈ consec (c :: Y') → t.1 = c → onP t.1 t.2 a = false ∧ onP a c t.2 = false := fun t ht k1 => by
    obtain ⟨n1, n2⟩ := hne1 t ht
    have k2 := hca t ht k1
    have m1 := (hg _ hab _ (hin t ht) (fun e => n2 (Prod.ext_iff.1 e).2.symm)).2 (Ne.symm n1) k2
    have m2 := (hg _ hbc _ (hin t ht) (fun e => n1 (Prod.ext_iff.1 e).1.symm)).1 k1.symm
    obtain ⟨-, z1, -, -, z4⟩ := meet_zero.1 m1
    refine ⟨z1, ?_⟩
    cases hq : onP a c t.2
    · rfl
    · rcases on_part hs hq with h5 | h5
      · rw [show onP a b t.2 = false from z4] at h5; cases h5
      · rw [show onP b c t.2 = false from m2.2] at h5; cases h5
  have new2 : ∀ t, t ∈ consec (c :: Y') → t.2 = a → onP a c t.1 = false ∧ onP t.1 t.2 c = false := fun t ht k1 => by
    obtain ⟨n1, n2⟩ := hne1 t ht
    have k2 : t.1 ≠ c := fun e => hca t ht e k1
    have m1 := (hg _ (hin t ht) _ hab (fun e => n2 (Prod.ext_iff.1 e).2)).1 k1
    have m2 := (hg _ hbc _ (hin t ht) (fun e => n1 (Prod.ext_iff.1 e).1.symm)).2 (Ne.symm k2) n2
    obtain ⟨-, -, z2, z3, -⟩ := meet_zero.1 m2
    refine ⟨?_, z2⟩
    cases hq : onP a c t.1
    · rfl
    · rcases on_part hs hq with h5 | h5
      · rw [show onP a b t.1 = false from m1.1] at h5; cases h5
      · rw [show onP b c t.1 = false from z3] at h5; cases h5
  refine ⟨⟨h4, by have := h1.2; simp at this ⊢; omega⟩, ?_, hY, ?_⟩
  · simp only [allOk, List.all_eq_true] at h2 ⊢
    exact fun p hp => h2 p (List.mem_cons_of_mem _ hp)
  · intro s hs1 t ht1 hst
    rw [eY] at hs1 ht1
    simp only [List.mem_append, List.mem_cons, List.not_mem_nil, or_false] at hs1 ht1
    rcases hs1 with hs1 | rfl <;> rcases ht1 with ht1 | rfl
    · exact hg s (hin s hs1) t (hin t ht1) hst
    · refine ⟨fun e => ?_, fun e1 e2 => ?_⟩
      · have := new2 s hs1 e
        exact ⟨this.1, this.2⟩
      · rw [meetI_swap]
        exact new0 s hs1 (Ne.symm e2) e1
    · exact ⟨fun e => new1 t ht1 e.symm, fun e1 e2 => new0 t ht1 (Ne.symm e1) e2⟩
    · exact absurd rfl hst
end Go.Proofs.Ytnkehfhedjdhaab

/-! Shape -/
namespace Go.Proofs.Ytnkehfhedjdhaab
open Go.RowKit

theorem straight_filter (L : List Pt) : ∀ k, straightTill L k = ((List.range k).filter (bentB L)).map (gt L) := by
  intro k
  induction k with
  | zero => rfl
  | succ k ih =>
    rw [straightTill, ih, List.range_succ, List.filter_append, List.map_append, List.filter_cons, List.filter_nil]
    cases bentB L k <;> simp
theorem straightL_eq (L : List Pt) : straightL L = ((List.range L.length).filter (bentB L)).map (gt L) := straight_filter L _
theorem gt_step (x : Pt) (xs : List Pt) {i : Nat} (hi : i < (x :: xs).length) : gt (xs ++ [x]) i = gt (x :: xs) (nx (x :: xs) i) := by
  rw [nx_eq hi]
  simp only [List.length_cons] at hi ⊢
  by_cases h : i + 1 = xs.length + 1
  · rw [if_pos h, gt_at (by simp; omega), List.getElem_append_right (by omega)]
    simp [gt]
  · rw [if_neg h, gt_at (by simp; omega), List.getElem_append_left (by omega), gt_at (by simp; omega)]
    rfl
theorem bent_step (x : Pt) (xs : List Pt) {i : Nat} (hi : i < (x :: xs).length) : bentB (xs ++ [x]) i = bentB (x :: xs) (nx (x :: xs) i) := by
  have hl : (xs ++ [x]).length = (x :: xs).length := by simp
  have h0 : 0 < (x :: xs).length := by simp
  have e1 : pv (xs ++ [x]) i = pv (x :: xs) i := by unfold pv; rw [hl]
  have e2 : nx (xs ++ [x]) i = nx (x :: xs) i := by unfold nx; rw [hl]
  have e3 : pv (x :: xs) (nx (x :: xs) i) = i := by
    rw [pv_eq (nx_lt h0 i), nx_eq hi]
    by_cases h : i + 1 = (x :: xs).length
    · rw [if_pos h, if_pos rfl]; omega
    · rw [if_neg h, if_neg (by omega)]; omega
  unfold bentB
  rw [e1, e2, gt_step x xs hi, gt_step x xs (pv_lt h0 i), gt_step x xs (nx_lt h0 i), nx_pv hi, e3]
theorem range_nx (x : Pt) (xs : List Pt) : (List.range (x :: xs).length).map (nx (x :: xs)) = (List.range xs.length).map Nat.succ ++ [0] := by
  rw [List.length_cons, List.range_succ, List.map_append]
  congr 1
  · apply List.map_congr_left
    intro i hi
    have : i < xs.length := List.mem_range.1 hi
    rw [nx_eq (by simp; omega), if_neg (by simp; omega)]
  · simp only [List.map_cons, List.map_nil]
    rw [nx_eq (by simp), if_pos (by simp)]
def restS (x : Pt) (xs : List Pt) : List Pt := (((List.range xs.length).map Nat.succ).filter (bentB (x :: xs))).map (gt (x :: xs))
theorem straight_cons (x : Pt) (xs : List Pt) : straightL (x :: xs) = (bif bentB (x :: xs) 0 then [x] else []) ++ restS x xs := by
  rw [straightL_eq, List.length_cons, List.range_succ_eq_map, List.filter_cons]
  cases h : bentB (x :: xs) 0
  · rfl
  · rfl
theorem straight_step (x : Pt) (xs : List Pt) : straightL (xs ++ [x]) = restS x xs ++ (bif bentB (x :: xs) 0 then [x] else []) := by
  have hl : (xs ++ [x]).length = (x :: xs).length := by simp
  have h1 : straightL (xs ++ [x]) = (((List.range (x :: xs).length).map (nx (x :: xs))).filter (bentB (x :: xs))).map (gt (x :: xs)) := by
    rw [straightL_eq, hl, List.filter_map, List.map_map]
    rw [List.filter_congr (q := bentB (x :: xs) ∘ nx (x :: xs)) (fun i hi => bent_step x xs (List.mem_range.1 hi))]
    apply List.map_congr_left
    intro i hi
    exact gt_step x xs (List.mem_range.1 (List.mem_filter.1 hi).1)
  rw [h1, range_nx, List.filter_append, List.map_append]
  congr 1
  cases h : bentB (x :: xs) 0 <;> simp [h, gt]
theorem good_straight_step {x : Pt} {xs : List Pt} (h : Good (straightL (xs ++ [x]))) : Good (straightL (x :: xs)) := by
  rw [straight_step] at h
  rw [straight_cons]
  cases hb : bentB (x :: xs) 0
  · rw [hb] at h; simpa using h
  · rw [hb] at h
    exact (good_step x _).1 h
theorem good_straight_rot {L : List Pt} : ∀ k, k ≤ L.length → Good (straightL (rotL L k)) → Good (straightL L) := by
  intro k
  induction k with
  | zero => intro _ h; rw [rotL_zero] at h; exact h
  | succ k ih =>
    intro hk h
    obtain ⟨x, xs, e1, e2⟩ := rotL_succ (L := L) (k := k) (by omega)
    rw [e2] at h
    refine ih (by omega) ?_
    rw [e1]
    exact good_straight_step h
theorem bent_rot {L : List Pt} : ∀ k, k ≤ L.length → ∀ j, j < L.length → bentB (rotL L k) j = bentB L ((j + k) % L.length) := by
  intro k
  induction k with
  | zero => intro _ j hj; rw [rotL_zero, Nat.add_zero, Nat.mod_eq_of_lt hj]
  | succ k ih =>
    intro hk j hj
    obtain ⟨x, xs, e1, e2⟩ := rotL_succ (L := L) (k := k) (by omega)
    have hl : (x :: xs).length = L.length := by rw [← e1, rotL_len]
    have h1 := ih (by omega) (nx (x :: xs) j) (by rw [← hl]; exact nx_lt (by simp) j)
    rw [e1] at h1
    rw [e2, bent_step x xs (by omega), h1]
    unfold nx
    rw [hl, Nat.mod_add_mod, show j + 1 + k = j + (k + 1) by omega]
theorem mul_zero_iff {m x q y : Int} (hm : 0 < m) (hq : 0 < q) (h : m * x = q * y) : x = 0 ↔ y = 0 := by
  constructor
  · intro hx; rw [hx, Int.mul_zero] at h; exact mul_zero_of hq h.symm
  · intro hy; rw [hy, Int.mul_zero] at h; exact mul_zero_of hm h
theorem bent_drop {b : Pt} {Y : List Pt} (hY : 3 ≤ Y.length) (hs : onP (gt Y (Y.length - 1)) (gt Y 0) b = true) (hb : b ∉ Y) {i : Nat} (hi : i < Y.length) : bentB (b :: Y) (i + 1) = bentB Y i := by
  have ha : gt Y (Y.length - 1) ∈ Y := by rw [gt_at (by omega)]; exact List.getElem_mem _
  have hc : gt Y 0 ∈ Y := by rw [gt_at (by omega)]; exact List.getElem_mem _
  obtain ⟨a, ea⟩ : ∃ a, a = gt Y (Y.length - 1) := ⟨_, rfl⟩
  obtain ⟨c, ec⟩ : ∃ c, c = gt Y 0 := ⟨_, rfl⟩
  rw [← ea, ← ec] at hs
  rw [← ea] at ha
  rw [← ec] at hc
  have hba : b ≠ a := fun e => hb (e ▸ ha)
  have hbc : b ≠ c := fun e => hb (e ▸ hc)
  have hac : a ≠ c := by
    intro h
    subst h
    obtain ⟨_, k2, k3⟩ := (onP_iff _ _ _).1 hs
    exact hba (by unfold bt at k2 k3; exact Prod.ext (by omega) (by omega))
  obtain ⟨p, q, hw⟩ := on_wt hs hac
  have hp := hw.ne_c hbc
  have hq := hw.ne_a hba
  have g1 : ∀ j, gt (b :: Y) (j + 1) = gt Y j := fun j => by simp [gt]
  have e1 : pv (b :: Y) (i + 1) = i := by rw [pv_eq (by simp; omega), if_neg (by omega)]; omega
  have e2 : nx (b :: Y) (i + 1) = if i + 1 = Y.length then 0 else i + 1 + 1 := by
    rw [nx_eq (by simp; omega)]
    by_cases h : i + 1 = Y.length
    · rw [if_pos h, if_pos (by simp; omega)]
    · rw [if_neg h, if_neg (by simp; omega)]
  unfold bentB
  rw [e1, e2, g1, pv_eq hi, nx_eq hi]
  have key : ∀ x y : Int, (x = 0 ↔ y = 0) → (!(x == 0)) = (!(y == 0)) := fun x y h => by
    rw [Bool.eq_iff_iff]; simp only [Bool.not_eq_true', beq_eq_false_iff_ne, ne_eq, h]
  apply key
  by_cases h0 : i = 0
  · subst h0
    rw [if_pos rfl, if_neg (by omega), if_neg (by omega), g1, ← ea, ← ec]
    exact mul_zero_iff hw.pq hp (hw.cross_bc _)
  · rw [if_neg h0]
    have e3 : gt (b :: Y) i = gt Y (i - 1) := by rw [show i = (i - 1) + 1 by omega, g1]; congr 1
    rw [e3]
    by_cases hl : i + 1 = Y.length
    · rw [if_pos hl, if_pos hl]
      have e4 : gt Y i = a := by rw [ea]; congr 1; omega
      rw [e4, ← ec]
      show crossP (gt Y (i - 1)) a b = 0 ↔ _
      have := hw.cross3 (gt Y (i - 1)) a
      rw [cross_z, Int.mul_zero, Int.zero_add] at this
      exact mul_zero_iff hw.pq hq this
    · rw [if_neg hl, if_neg hl, g1]
theorem straight_drop {b : Pt} {Y : List Pt} (hY : 3 ≤ Y.length) (hs : onP (gt Y (Y.length - 1)) (gt Y 0) b = true) (hb : b ∉ Y) (h0 : bentB (b :: Y) 0 = false) : straightL (b :: Y) = straightL Y := by
  rw [straight_cons, h0, straightL_eq]
  show [] ++ restS b Y = _
  rw [List.nil_append, restS, List.filter_map, List.map_map]
  rw [List.filter_congr (p := bentB (b :: Y) ∘ Nat.succ) (q := bentB Y) (fun i hi => bent_drop hY hs hb (List.mem_range.1 hi))]
  apply List.map_congr_left
  intro i _
  simp [gt]
/-- **The straightened polygon is one.** -/
theorem good_straight : ∀ n (L : List Pt), L.length = n → Good L → Good (straightL L) := by
  intro n
  induction n using Nat.strongRecOn with
  | _ n ih =>
    intro L hL hG
    by_cases hall : ∀ i, i < L.length → bentB L i = true
    · have : straightL L = L := by
        rw [straightL_eq, List.filter_eq_self.2 (fun i hi => hall i (List.mem_range.1 hi))]
        apply List.ext_getElem (by simp)
        intro i h1 h2
        simp [gt_at h2]
      rw [this]; exact hG
    · obtain ⟨i, hi, hb⟩ : ∃ i, i < L.length ∧ bentB L i = false := by
        false_or_by_contra
        rename_i hne
        exact hall fun i hi => by
          cases hb : bentB L i
          · exact absurd ⟨i, hi, hb⟩ hne
          · rfl
      refine good_straight_rot i (by omega) ?_
      have hG' := good_rot hG i (by omega)
      have hb' : bentB (rotL L i) 0 = false := by rw [bent_rot i (by omega) 0 (by omega), Nat.zero_add, Nat.mod_eq_of_lt hi, hb]
      obtain ⟨b, Y, e1, -⟩ := rotL_succ hi
      have hl : (b :: Y).length = n := by rw [← e1, rotL_len, hL]
      rw [e1] at hG' hb' ⊢
      have hY2 : 2 ≤ Y.length := by have := hG'.1.1; simp at this; omega
      have hbY : b ∉ Y := (List.nodup_cons.1 hG'.2.2.1).1
      have hon : onP (gt Y (Y.length - 1)) (gt Y 0) b = true := by
        have h1 := on_bent (good_poly hG') (i := 0) (by simp)
        rw [hb', Bool.not_false, onQ_ok (gt_ok hG'.2.1 _) (gt_ok hG'.2.1 _) (gt_ok hG'.2.1 _)] at h1
        rw [pv_eq (by simp), if_pos rfl, nx_eq (by simp), if_neg (by rw [List.length_cons]; omega)] at h1
        have e2 : gt (b :: Y) ((b :: Y).length - 1) = gt Y (Y.length - 1) := by
          rw [List.length_cons, Nat.add_sub_cancel, show Y.length = (Y.length - 1) + 1 by omega]; simp [gt]
        have e3 : gt (b :: Y) (0 + 1) = gt Y 0 := by simp [gt]
        rw [e2, e3] at h1
        exact h1
      have hY3 : 3 ≤ Y.length := by
        false_or_by_contra
        rename_i hlt
        have hm : Y.length = 2 := by omega
        obtain ⟨c, a, rfl⟩ : ∃ c a, Y = [c, a] := by
          match Y, hm with
          | [c, a], _ => exact ⟨c, a, rfl⟩
        have hs1 : (c, a) ∈ sidesL [b, c, a] := by simp [sidesL, consec]
        have hs2 : (a, b) ∈ sidesL [b, c, a] := by simp [sidesL, consec]
        have hne : (c, a) ≠ (a, b) := fun e => by
          have h1 := (Prod.ext_iff.1 e).2
          exact hbY (by rw [show b = a from h1.symm]; simp)
        have h1 := (hG'.2.2.2 _ hs1 _ hs2 hne).1 rfl
        have h2 : onP a c b = true := hon
        rw [← on_flip] at h2
        rw [show onP c a b = false from h1.2] at h2
        cases h2
      rw [straight_drop hY3 hon hbY hb']
      exact ih Y.length (by simp at hl; omega) Y rfl (good_drop hG' hY3 hon)
theorem poly_straight {L : List Pt} (h : polyB L = true) : polyB (straightL L) = true := good_poly (good_straight _ L rfl (poly_good h))
theorem poly_rot {L : List Pt} (h : polyB L = true) {k : Nat} (hk : k ≤ L.length) : polyB (rotL L k) = true := good_poly (good_rot (poly_good h) k hk)
end Go.Proofs.Ytnkehfhedjdhaab

/-! Equal -/
namespace Go.Proofs.Ytnkehfhedjdhaab
open Go.RowKit

theorem take_step {L M : List (Int × Int)} {k : Nat} (h1 : k < L.length) (h2 : k < M.length) (h : L.take k = M.take k) (he : gt L k = gt M k) : L.take (k + 1) = M.take (k + 1) := by
  rw [List.take_succ_eq_append_getElem h1, List.take_succ_eq_append_getElem h2, h]
  rw [gt_at h1, gt_at h2] at he
  rw [he]
theorem ne_at {L M : List (Int × Int)} {k : Nat} (he : gt L k ≠ gt M k) : L ≠ M := fun h => he (by rw [h])
set_option maxRecDepth 100000 in
set_option maxHeartbeats 1000000 in
theorem sEq_any (A B : Option Addr) (c d : Nat) (L M : List (Int × Int)) (w : World) (hA : PtsA w A L) (hB : PtsA w B M) (h1 : L.length ≤ 1048576) (h2 : M.length ≤ 1048576) :
    Calls Try.prog 18 #[.slice A L.length c, .slice B M.length d] w fun e w' => e = .returned (.bool (decide (L = M))) ∧ Below w.heap.size w w' := by
  have HA := Lib.hid hA
  have HB := Lib.hid hB
  clear hA hB
  by_cases hl : L.length = M.length
  · have hl1 : (L.length : Int) = (M.length : Int) := by omega
    have HL := Lib.hid hl
    obtain ⟨n, hn⟩ : ∃ n, n = L.length := ⟨_, rfl⟩
    have HN := Lib.hid hn
    have hm : M.length = n := by omega
    rw [hm, ← hn]
    rw [hm] at h2
    clear hl hl1 hn hm h1
    go_enter Try.func18, Try.ntmps18
    go_wp2_with fail
    go_loopw [14] (fun i wr => ∃ k : Nat, k ≤ n ∧ i = .int .i64 k ∧ Hid (L.take k = M.take k) ∧ Below w.heap.size w wr) (fun i _ => n - (intOf i).toNat)
    case atStart => exact ⟨0, Nat.zero_le _, rfl, rfl, Below.refl _ _⟩
    case round =>
      obtain ⟨wo, rfl⟩ : ∃ wo : World, wo = wr := ⟨_, rfl⟩
      obtain ⟨k, hk, rfl, HK, hb⟩ := hrel
      by_cases hlt : k < n
      · have hkL : k < L.length := by have := HN.out; omega
        have hkM : k < M.length := by have := HN.out; have := HL.out; omega
        obtain ⟨g1, rfl, -⟩ := HA.out k hkL
        obtain ⟨g2, rfl, -⟩ := HB.out k hkM
        obtain ⟨c1, c2⟩ := gt_cells (ptsA_on HA.out hb) hkL
        obtain ⟨c3, c4⟩ := gt_cells (ptsA_on HB.out hb) hkM
        have GP := guard_pt
        have EP := fun w x y x' y' => neq_pt w x y x' y'
        obtain ⟨x, hx⟩ : ∃ x, x = (gt L k).1 := ⟨_, rfl⟩
        obtain ⟨y, hy⟩ : ∃ y, y = (gt L k).2 := ⟨_, rfl⟩
        obtain ⟨x', hx'⟩ : ∃ x', x' = (gt M k).1 := ⟨_, rfl⟩
        obtain ⟨y', hy'⟩ : ∃ y', y' = (gt M k).2 := ⟨_, rfl⟩
        have HX : Hid ((gt L k = (x, y)) ∧ (gt M k = (x', y'))) := ⟨by rw [hx, hy], by rw [hx', hy']⟩
        rw [← hx] at c1; rw [← hy] at c2; rw [← hx'] at c3; rw [← hy'] at c4
        clear hx hy hx' hy'
        have hal := below1 wo (.cells #[.int .i64 x, .int .i64 y] 31)
        have d3 := cell_on hal rfl c3; have d4 := cell_on hal rfl c4
        have n1 := at_new wo x y 31
        have d1 := n1.c0; have d2 := n1.c1
        have k1 := cell_regrown d1; have k2 := cell_regrown d2; have k3 := cell_regrown d3; have k4 := cell_regrown d4
        have b2 := hb.trans (hal.mono hb.size)
        have hki : (k : Int) < (n : Int) := by omega
        cases he : (x == x' && y == y')
        · have HD : Hid (decide (L = M) = false) := decide_eq_false (ne_at (k := k) (by
            rw [HX.out.1, HX.out.2]
            intro e
            simp only [Prod.mk.injEq] at e
            rw [e.1, e.2] at he; simp at he))
          go_wp2_with fail
          refine wp_region_quiet_below (by kernel_rfl) (by kernel_rfl) ?_
          repeat (first
            | go_big_quiet_step (fail)
            | quiet_step (fail))
          refine wpQuiet_nil ?_
          rintro _ ⟨⟨dq, osq⟩, rfl⟩
          have b3 := b2.trans ((below_regrown _ dq osq).mono b2.size)
          clear k1 k2 k3 k4 d1 d2 d3 d4 c1 c2 c3 c4 n1 hal
          go_wp2_with fail
          go_ret
          exact ⟨ret_bool HD.out.symm, b3⟩
        · have HT : Hid (L.take (k + 1) = M.take (k + 1)) := take_step hkL hkM HK.out (by
            rw [HX.out.1, HX.out.2]
            simp only [Bool.and_eq_true, beq_iff_eq] at he
            rw [he.1, he.2])
          go_wp2_with fail
          refine wp_region_quiet_below (by kernel_rfl) (by kernel_rfl) ?_
          repeat (first
            | go_big_quiet_step (fail)
            | quiet_step (fail))
          refine wpQuiet_nil ?_
          rintro _ ⟨⟨dq, osq⟩, rfl⟩
          have b3 := b2.trans ((below_regrown _ dq osq).mono b2.size)
          clear k1 k2 k3 k4 d1 d2 d3 d4 c1 c2 c3 c4 n1 hal
          go_wp2_with fail
          go_roundw
          case rel => exact ⟨k + 1, by omega, by go_num, HT, b3⟩
          case measure => simp [intOf]; omega
      · obtain rfl : k = n := by omega
        have HD : Hid (decide (L = M) = true) := decide_eq_true (by
          have h3 := HK.out
          rw [List.take_of_length_le (by have := HN.out; omega), List.take_of_length_le (by have := HN.out; have := HL.out; omega)] at h3
          exact h3)
        go_wp2_with fail
        go_ret
        exact ⟨ret_bool HD.out.symm, hb⟩
  · have HD : Hid (decide (L = M) = false) := decide_eq_false (fun h => hl (by rw [h]))
    have hl1 : ((L.length : Int) != (M.length : Int)) = true := by simp; omega
    go_enter Try.func18, Try.ntmps18
    go_wp2_with fail
    go_ret
    exact ⟨ret_bool HD.out.symm, Below.refl _ _⟩
set_option maxRecDepth 100000 in
set_option maxHeartbeats 1000000 in
theorem iEq_any (A B : Option Addr) (c d : Nat) (L M : List (Int × Int)) (w : World) (hA : PtsA w A L) (hB : PtsA w B M) (_ : L.length ≤ 1048576) (h2 : M.length ≤ 1048576) :
    Calls Try.prog 25 #[.slice A L.length c, .slice B M.length d] w fun e w' => e = .returned (.bool (decide (L = M))) ∧ Below w.heap.size w w' := by
  have HA := Lib.hid hA
  have HB := Lib.hid hB
  clear hA hB
  by_cases hl : L.length = M.length
  · have hl1 : (L.length : Int) = (M.length : Int) := by omega
    have HL := Lib.hid hl
    obtain ⟨n, hn⟩ : ∃ n, n = L.length := ⟨_, rfl⟩
    have HN := Lib.hid hn
    have hm : M.length = n := by omega
    rw [hm, ← hn]
    rw [hm] at h2
    clear hl hl1 hn hm
    go_enter Try.func25, Try.ntmps25
    go_wp2_with fail
    go_loopw [13] (fun i wr => ∃ k : Nat, k ≤ n ∧ i = .int .i64 k ∧ Hid (L.take k = M.take k) ∧ Below w.heap.size w wr) (fun i _ => n - (intOf i).toNat)
    case atStart => exact ⟨0, Nat.zero_le _, rfl, rfl, Below.refl _ _⟩
    case round =>
      obtain ⟨wo, rfl⟩ : ∃ wo : World, wo = wr := ⟨_, rfl⟩
      obtain ⟨k, hk, rfl, HK, hb⟩ := hrel
      by_cases hlt : k < n
      · have hkL : k < L.length := by have := HN.out; omega
        have hkM : k < M.length := by have := HN.out; have := HL.out; omega
        obtain ⟨g1, rfl, -⟩ := HA.out k hkL
        obtain ⟨g2, rfl, -⟩ := HB.out k hkM
        obtain ⟨c1, c2⟩ := gt_cells (ptsA_on HA.out hb) hkL
        obtain ⟨c3, c4⟩ := gt_cells (ptsA_on HB.out hb) hkM
        have GP := guard_pt
        have EP := fun w x y x' y' => neq_pt w x y x' y'
        obtain ⟨x, hx⟩ : ∃ x, x = (gt L k).1 := ⟨_, rfl⟩
        obtain ⟨y, hy⟩ : ∃ y, y = (gt L k).2 := ⟨_, rfl⟩
        obtain ⟨x', hx'⟩ : ∃ x', x' = (gt M k).1 := ⟨_, rfl⟩
        obtain ⟨y', hy'⟩ : ∃ y', y' = (gt M k).2 := ⟨_, rfl⟩
        have HX : Hid ((gt L k = (x, y)) ∧ (gt M k = (x', y'))) := ⟨by rw [hx, hy], by rw [hx', hy']⟩
        rw [← hx] at c1; rw [← hy] at c2; rw [← hx'] at c3; rw [← hy'] at c4
        clear hx hy hx' hy'
        have k1 := cell_regrown c1; have k2 := cell_regrown c2; have k3 := cell_regrown c3; have k4 := cell_regrown c4
        have hki : (k : Int) < (n : Int) := by omega
        cases he : (x == x' && y == y')
        · have HD : Hid (decide (L = M) = false) := decide_eq_false (ne_at (k := k) (by
            rw [HX.out.1, HX.out.2]
            intro e
            simp only [Prod.mk.injEq] at e
            rw [e.1, e.2] at he; simp at he))
          go_wp2_with fail
          refine wp_region_quiet_below (by kernel_rfl) (by kernel_rfl) ?_
          repeat (first
            | go_big_quiet_step (fail)
            | quiet_step (fail))
          refine wpQuiet_nil ?_
          rintro _ ⟨⟨dq, osq⟩, rfl⟩
          have b3 := hb.trans ((below_regrown _ dq osq).mono hb.size)
          clear k1 k2 k3 k4 c1 c2 c3 c4
          go_wp2_with fail
          go_ret
          exact ⟨ret_bool HD.out.symm, b3⟩
        · have HT : Hid (L.take (k + 1) = M.take (k + 1)) := take_step hkL hkM HK.out (by
            rw [HX.out.1, HX.out.2]
            simp only [Bool.and_eq_true, beq_iff_eq] at he
            rw [he.1, he.2])
          go_wp2_with fail
          refine wp_region_quiet_below (by kernel_rfl) (by kernel_rfl) ?_
          repeat (first
            | go_big_quiet_step (fail)
            | quiet_step (fail))
          refine wpQuiet_nil ?_
          rintro _ ⟨⟨dq, osq⟩, rfl⟩
          have b3 := hb.trans ((below_regrown _ dq osq).mono hb.size)
          clear k1 k2 k3 k4 c1 c2 c3 c4
          go_wp2_with fail
          go_roundw
          case rel => exact ⟨k + 1, by omega, by go_num, HT, b3⟩
          case measure => simp [intOf]; omega
      · obtain rfl : k = n := by omega
        have HD : Hid (decide (L = M) = true) := decide_eq_true (by
          have h3 := HK.out
          rw [List.take_of_length_le (by have := HN.out; omega), List.take_of_length_le (by have := HN.out; have := HL.out; omega)] at h3
          exact h3)
        go_wp2_with fail
        go_ret
        exact ⟨ret_bool HD.out.symm, hb⟩
  · have HD : Hid (decide (L = M) = false) := decide_eq_false (fun h => hl (by rw [h]))
    have hl1 : ((L.length : Int) != (M.length : Int)) = true := by simp; omega
    go_enter Try.func25, Try.ntmps25
    go_wp2_with fail
    go_ret
    exact ⟨ret_bool HD.out.symm, Below.refl _ _⟩
def IdxAt (L : List (Int × Int)) (p : Int × Int) (z : Int) : Prop := (z = -1 ∧ p ∉ L) ∨ ∃ k : Nat, k < L.length ∧ z = k ∧ gt L k = p
set_option maxRecDepth 100000 in
set_option maxHeartbeats 1000000 in
theorem idx_any (A : Option Addr) (c : Nat) (L : List (Int × Int)) (x y : Int) (w : World) (hP : PtsA w A L) (hL : L.length ≤ 1048576) :
    Calls Try.prog 24 #[.slice A L.length c, (.agg #[.int .i64 x, .int .i64 y])] w fun e w' => (∃ z : Int, e = .returned (.int .i64 z) ∧ IdxAt L (x, y) z) ∧ Below w.heap.size w w' := by
  have HP := Lib.hid (ptsA_on hP ((Below.refl w.heap.size w).alloc (Nat.le_refl _) (.cells #[.int .i64 x, .int .i64 y] 31))); clear hP
  have HID : Hid (∀ z, IdxAt L (x, y) z ↔ ((z = -1 ∧ (x, y) ∉ L) ∨ ∃ k : Nat, k < L.length ∧ z = k ∧ gt L k = (x, y))) := fun _ => Iff.rfl
  have t1 := at_new w x y 31
  go_enter Try.func24, Try.ntmps24
  go_wp2_with fail
  have b1 := below1 w (.cells #[.int .i64 x, .int .i64 y] 31)
  generalize w.alloc (.cells #[.int .i64 x, .int .i64 y] 31) = w1 at *
  have c1 := t1.c0; have c2 := t1.c1
  go_loopw [5, 8] (fun _ i w' => ∃ (k d : Nat), k ≤ L.length ∧ i = .int .i64 k ∧ w' = w1.drewN d ∧ Hid (∀ j, j < k → gt L j ≠ (x, y))) (fun _ i _ => L.length - (intOf i).toNat)
  case atStart => exact ⟨0, 0, Nat.zero_le _, rfl, rfl, fun j hj => by omega⟩
  case round =>
    obtain ⟨k, d, hk, rfl, rfl, HN⟩ := hrel
    by_cases hlt : k < L.length
    · obtain ⟨g1, rfl, -⟩ := HP.out k hlt
      obtain ⟨hc1, hd1⟩ := gt_cells HP.out hlt
      have GP := guard_pt
      have EP := fun w x y x' y' => eql_pt w x y x' y'
      obtain ⟨p, hp⟩ : ∃ p, p = (gt L k).1 := ⟨_, rfl⟩
      obtain ⟨q, hq⟩ : ∃ q, q = (gt L k).2 := ⟨_, rfl⟩
      rw [← hp] at hc1
      rw [← hq] at hd1
      have HPQ : Hid (gt L k = (p, q)) := by
        show _ = _
        rw [hp, hq]
      clear hp hq
      cases he : (x == p && y == q)
      · have HN2 : Hid (∀ j, j < k + 1 → gt L j ≠ (x, y)) := fun j hj => by
          rcases Nat.lt_or_ge j k with h1 | h1
          · exact HN.out j h1
          · obtain rfl : j = k := by omega
            rw [HPQ.out]
            intro e
            simp only [Prod.mk.injEq] at e
            rw [e.1, e.2] at he; simp at he
        go_wp2_with fail
        go_quiet (fail)
        go_wp2_with fail
        go_roundw
        case rel => exact ⟨k + 1, d + nq, by omega, by go_num, by simp, HN2⟩
        case measure => simp [intOf]; omega
      · have HY : Hid (IdxAt L (x, y) k) := by
          simp only [Bool.and_eq_true, beq_iff_eq] at he
          exact .inr ⟨k, hlt, rfl, by rw [HPQ.out, he.1, he.2]⟩
        go_wp2_with fail
        go_quiet (fail)
        go_wp2_with fail
        go_ret
        exact ⟨⟨_, rfl, HY.out⟩, b1.os, b1.tape, b1.output, b1.size, b1.block⟩
    · have HY : Hid (IdxAt L (x, y) (-1)) := .inl ⟨rfl, fun h => by
        obtain ⟨j, hj, e⟩ := List.getElem_of_mem h
        exact HN.out j (by omega) (by rw [gt_at hj]; exact e)⟩
      go_wp2_with fail
      go_ret
      exact ⟨⟨_, rfl, HY.out⟩, b1.os, b1.tape, b1.output, b1.size, b1.block⟩
end Go.Proofs.Ytnkehfhedjdhaab

/-! ToPts -/
namespace Go.Proofs.Ytnkehfhedjdhaab
open Go.RowKit

/-- The cells of a slice of points that came in, wherever it lies. -/
def ArgA (w : World) (A : Option Addr) (L : List (Int × Int)) : Prop := ∀ k (h : k < L.length), ∃ a : Addr, A = some a ∧ a.block < w.heap.size ∧ w.cell? (a.add (k * 2)) = some (.int .i64 L[k].1) ∧ w.cell? (a.add (k * 2 + 1)) = some (.int .i64 L[k].2)
theorem ArgA.step {w w' : World} {A : Option Addr} {L : List (Int × Int)} (h : ArgA w A L) (hb : Below w.heap.size w w') : ArgA w' A L := fun k hk => by
  obtain ⟨a, hA, hl, h1, h2⟩ := h k hk
  exact ⟨a, hA, Nat.lt_of_lt_of_le hl hb.size, cell_on hb rfl h1, cell_on hb rfl h2⟩
theorem add_next (a : Addr) (j : Nat) : (⟨(a.add j).block, (a.add j).off + 1, none⟩ : Addr) = a.add (j + 1) := by
  have h : j + 1 ≠ 0 := by omega
  unfold Addr.add
  by_cases hj : j = 0
  · subst hj; simp
  · rw [if_neg hj, if_neg h]; simp [Nat.add_assoc]
theorem sz_any (A : Option Addr) (n c : Nat) (m : Int) (w : World) (hm : 0 ≤ m ∧ m ≤ 1073741824) (hn : n ≤ 9223372036854775807) :
    Calls Try.prog 4 #[.slice A n c, .int .i64 m] w fun e w' => e = .returned (.int .i64 (if m - n < 0 then -1 else m - n)) ∧ w' = w := by
  have e1 : wrap64 (m - n) = m - n := IntWalk.wrap64_in _ (by omega)
  by_cases h : m - (n : Int) < 0
  · rw [if_pos h]
    go_enter Try.func4, Try.ntmps4
    go_wp2_with fail
    go_ret
    exact ⟨rfl, rfl⟩
  · rw [if_neg h]
    go_enter Try.func4, Try.ntmps4
    go_wp2_with fail
    go_ret
    exact ⟨rfl, rfl⟩
theorem flat_set {L : List (Int × Int)} {zs : List Value} (hz : zs.length = L.length * 2) (k : Nat) (hk : k < L.length) :
    ((flat (L.take k) ++ zs.drop (k * 2)).set (k * 2) (.int .i64 L[k].1)).set (k * 2 + 1) (.int .i64 L[k].2) = flat (L.take (k + 1)) ++ zs.drop ((k + 1) * 2) := by
  have h1 : (flat (L.take k)).length = k * 2 := by rw [flat_len, List.length_take]; omega
  have e1 : zs.drop (k * 2) = zs[k * 2]'(by omega) :: zs[k * 2 + 1]'(by omega) :: zs.drop ((k + 1) * 2) := by
    have e0 : (k + 1) * 2 = k * 2 + 1 + 1 := by omega
    rw [e0, List.drop_eq_getElem_cons (by omega), List.drop_eq_getElem_cons (i := k * 2 + 1) (by omega)]
  rw [List.set_append_right _ _ (by omega), h1, Nat.sub_self, e1, List.set_cons_zero, List.set_append_right _ _ (by omega), h1, Nat.add_sub_cancel_left, List.set_cons_succ, List.set_cons_zero, List.take_succ_eq_append_getElem hk, flat_append, List.append_assoc]
  rfl
set_option maxRecDepth 100000 in
set_option maxHeartbeats 1600000 in
theorem toS_any (A : Option Addr) (c : Nat) (L : List (Int × Int)) (w : World) (hA : ArgA w A L) (hL : L.length ≤ 1048576) :
    Calls Try.prog 6 #[.slice A L.length c] w fun e w' => ∃ v, e = .returned v ∧ w'.ownsRow w.heap.size 31 2 v L.length (flat L) ∧ Below w.heap.size w w' := by
  obtain ⟨i0, hi0, hz0, hz1, hz2⟩ := info_parts infoPt
  have hmk : ∀ w, (Instr.makeSlice 25 (.int .i64 (L.length : Int)) (.int .i64 (L.length : Int))).run Try.prog w = .ok (.slice (some ⟨w.heap.size, 0, none⟩) L.length L.length) (w.alloc (.cells (madeCells #[.int .i64 0, .int .i64 0] (L.length * 2)) 31)) := fun w => by
    have h := run_make (P := Try.prog) w 25 31 i0 _ Try.underlying25 hi0 hz0 .i64 .i64 (L.length : Int) (L.length : Int) (by omega) (Int.le_refl _) (by rw [hz2]; omega) (by omega)
    rw [hz1] at h
    simpa [Value.cells] using h
  have hown := World.ownsRow_lit (base := w.heap.size) (e := 31) (size := 2) w (madeCells #[.int .i64 0, .int .i64 0] (L.length * 2)) L.length (Nat.le_refl _) (by unfold maxLen; omega) (size_madeCells _ _)
  have hzl : (madeCells #[.int .i64 0, .int .i64 0] (L.length * 2)).toList.length = L.length * 2 := by rw [Array.length_toList]; exact size_madeCells _ _
  have hb0 := below1 w (.cells (madeCells #[.int .i64 0, .int .i64 0] (L.length * 2)) 31)
  have HA := Lib.hid hA; clear hA
  go_enter Try.func6, Try.ntmps6
  go_wp2_with fail
  generalize (madeCells #[.int .i64 0, .int .i64 0] (L.length * 2)).toList = zs at *
  generalize w.alloc (.cells (madeCells #[.int .i64 0, .int .i64 0] (L.length * 2)) 31) = w1 at *
  clear hmk
  go_loopw [4] (fun i wr => ∃ k : Nat, k ≤ L.length ∧ i = .int .i64 k ∧ wr.ownsRow w.heap.size 31 2 (.slice (some ⟨w.heap.size, 0, none⟩) L.length L.length) L.length (flat (L.take k) ++ zs.drop (k * 2)) ∧ Below w.heap.size w wr) (fun i _ => L.length - (intOf i).toNat)
  case atStart => exact ⟨0, Nat.zero_le _, rfl, by simpa [flat] using hown, hb0⟩
  case round =>
    obtain ⟨wo, rfl⟩ : ∃ wo : World, wo = wr := ⟨_, rfl⟩
    clear hown
    obtain ⟨k, hk, rfl, hown, hb⟩ := hrel
    by_cases hlt : k < L.length
    · obtain ⟨a, rfl, hl, h1, h2⟩ := HA.out k hlt
      have c1 := cell_on hb rfl h1; have c2 := cell_on hb rfl h2
      rw [← add_next] at c2
      have hs := flat_set hzl k hlt
      obtain ⟨x, hx⟩ : ∃ x, x = L[k].1 := ⟨_, rfl⟩
      obtain ⟨y, hy⟩ : ∃ y, y = L[k].2 := ⟨_, rfl⟩
      rw [← hx] at c1 hs
      rw [← hy] at c2 hs
      have HS := Lib.hid hs
      clear hs h1 h2 hx hy
      go_wp2_with fail
      refine (to_any _ _ _).mono ?_
      rintro e w2 ⟨rfl, hb2⟩
      have own2 := own_below hown hb2
      have b2 := below_on hb hb2
      clear hown hb hb2 c1 c2
      obtain ⟨u1, d1⟩ := cell_some own2 (k * 2) (by omega)
      have f1 := own2.frozenAt (k * 2)
      have own3 := (own2.stored (k * 2) (.int .i64 x)).1
      obtain ⟨u2, d2⟩ := cell_some own2 (k * 2 + 1) (by omega)
      have f2 := own2.frozenAt (k * 2 + 1)
      obtain ⟨u3, d3⟩ := cell_some own3 (k * 2 + 1) (by omega)
      have f3 := own3.frozenAt (k * 2 + 1)
      have own4 := (own3.stored (k * 2 + 1) (.int .i64 y)).1
      rw [HS.out] at own4
      have b4 := (b2.setCell (p := ⟨w.heap.size, k * 2, none⟩) (Nat.le_refl _) (.int .i64 x)).setCell (p := ⟨w.heap.size, k * 2 + 1, none⟩) (Nat.le_refl _) (.int .i64 y)
      have R := Lib.hid (And.intro own4 b4)
      clear own2 own3 own4 b2 b4
      go_wp2_with fail
      go_roundw
      case rel => exact ⟨k + 1, by omega, by go_num, R.out.1, R.out.2⟩
      case measure => simp [intOf]; omega
    · obtain rfl : k = L.length := by omega
      rw [List.drop_of_length_le (by omega), List.take_of_length_le (Nat.le_refl _), List.append_nil] at hown
      have R := Lib.hid hown
      clear hown
      go_wp2_with fail
      go_ret
      exact ⟨_, rfl, R.out, hb⟩
end Go.Proofs.Ytnkehfhedjdhaab

/-! PolyLaw -/
namespace Go.Proofs.Ytnkehfhedjdhaab
open Go.RowKit

theorem sz_small (A : Option Addr) (n c : Nat) (w : World) (hn : n ≤ 1048576) : Calls Try.prog 4 #[.slice A n c, .int .i64 1048576] w fun e w' => e = .returned (.int .i64 (1048576 - n)) ∧ w = w' := by
  have h := sz_any A n c 1048576 w (by decide) (by omega)
  rw [if_neg (by omega)] at h
  exact h.mono fun e w' ⟨h1, h2⟩ => ⟨h1, h2.symm⟩
theorem sz_great (A : Option Addr) (n c : Nat) (w : World) (hn : 1048576 < n) (hn2 : n ≤ maxLen) : Calls Try.prog 4 #[.slice A n c, .int .i64 1048576] w fun e w' => e = .returned (.int .i64 (-1)) ∧ w = w' := by
  have h := sz_any A n c 1048576 w (by decide) (by unfold maxLen at hn2; omega)
  rw [if_pos (by omega)] at h
  exact h.mono fun e w' ⟨h1, h2⟩ => ⟨h1, h2.symm⟩
end Go.Proofs.Ytnkehfhedjdhaab

/-! LawMk -/
namespace Go.Proofs.Ytnkehfhedjdhaab
open Go.RowKit

theorem own_apart' {w w1 : World} {B0 B1 : Nat} {e : TypeId} {v0 v1 : Value} {n0 n1 : Nat} {xs0 xs1 : List Value} (h0 : w.ownsRow B0 e 2 v0 n0 xs0) (hB : w.heap.size ≤ B1) (h1 : w1.ownsRow B1 e 2 v1 n1 xs1) : v1.ownBlock = none ∨ v1.ownBlock ≠ v0.ownBlock := by
  cases hv : v1.ownBlock with
  | none => exact .inl rfl
  | some k =>
    refine .inr fun he => ?_
    have a1 := (h1.lt k hv).1
    have a2 := (h0.lt k he.symm).2
    omega
theorem own_ptsc {w : World} {B : Nat} {e : TypeId} {v : Value} {n : Nat} {L : List (Int × Int)} (h : w.ownsRow B e 2 v n (flat L)) :
    n = L.length ∧ ∃ A c, v = .slice A L.length c ∧ PtsA w A L ∧ L.length ≤ c := by
  obtain ⟨h1, A, c, h2, h3⟩ := own_pts h
  refine ⟨h1, A, c, h2, h3, ?_⟩
  rcases h.2 with ⟨h4, h5⟩ | ⟨g, cap, cur, h4, _, _, h5, _⟩
  · omega
  · rw [h2] at h4
    simp only [Value.slice.injEq] at h4
    omega
end Go.Proofs.Ytnkehfhedjdhaab

/-! SameFn -/
namespace Go.Proofs.Ytnkehfhedjdhaab
open Go.RowKit

def testB (a b : List (Int × Int)) (k : Nat) : Bool := decide (a = rotL b k) || decide (a = turnL (rotL b k))
def sameB (a b : List (Int × Int)) : Bool := (List.range b.length).any (testB a b)
def sameV (p q : List (Int × Int)) : Bool := bif polyB p && polyB q then sameB (straightL p) (straightL q) else false
theorem turn_head (M : List (Int × Int)) : gt (turnL M) 0 = gt M 0 := rfl
theorem rot_head {L : List (Int × Int)} {k : Nat} (hk : k < L.length) : gt (rotL L k) 0 = gt L k := by
  rw [gt_at hk, rotL, List.drop_eq_getElem_cons hk]
  rfl
theorem same_eq {p q : List (Int × Int)} (hp : polyB p = true) (hq : polyB q = true) {z : Int} (hz : IdxAt (straightL q) (gt (straightL p) 0) z) :
    (decide (straightL p = startV (straightL q) z) || decide (straightL p = turnV (startV (straightL q) z))) = sameB (straightL p) (straightL q) := by
  have ha := poly_straight hp
  have hb := poly_straight hq
  generalize straightL p = a at *
  generalize straightL q = b at *
  have hal := polyB_all ha
  have hnd := (poly_good hb).2.2.1
  rcases hz with ⟨rfl, hn⟩ | ⟨k, hk, rfl, hke⟩
  · have e1 : startV b (-1) = [] := by
      unfold startV
      have : inB (-1) 0 ((b.length : Int) - 1) = false := by
        cases h : inB (-1) 0 ((b.length : Int) - 1)
        · rfl
        · have := inB_spec.1 h; omega
      rw [this, Bool.and_false]; rfl
    have e2 : turnV [] = [] := by
      unfold turnV
      have : polyB [] = false := rfl
      rw [this]; rfl
    have hane : a ≠ [] := fun h => by rw [h] at hal; simp at hal
    rw [e1, e2, decide_eq_false hane, Bool.false_or]
    symm
    cases hs : sameB a b
    · rfl
    · exfalso
      obtain ⟨j, hj, ht⟩ := List.any_eq_true.1 hs
      have hj' := List.mem_range.1 hj
      simp only [testB, Bool.or_eq_true, decide_eq_true_eq] at ht
      apply hn
      have : gt a 0 = gt b j := by
        rcases ht with h | h
        · rw [h, rot_head hj']
        · rw [h, turn_head, rot_head hj']
      rw [this, gt_at hj']
      exact List.getElem_mem _
  · have e1 : startV b k = rotL b k := by
      unfold startV
      have : inB (k : Int) 0 ((b.length : Int) - 1) = true := inB_spec.2 (by omega)
      rw [this, hb]; simp
    have e2 : turnV (rotL b k) = turnL (rotL b k) := by
      unfold turnV
      rw [poly_rot hb (by omega)]; rfl
    rw [e1, e2]
    show testB a b k = _
    rw [Bool.eq_iff_iff]
    constructor
    · intro h; exact List.any_eq_true.2 ⟨k, List.mem_range.2 hk, h⟩
    · intro hs
      obtain ⟨j, hj, ht⟩ := List.any_eq_true.1 hs
      have hj' := List.mem_range.1 hj
      have ht' := ht
      simp only [testB, Bool.or_eq_true, decide_eq_true_eq] at ht
      have : gt a 0 = gt b j := by
        rcases ht with h | h
        · rw [h, rot_head hj']
        · rw [h, turn_head, rot_head hj']
      have hjk := gt_inj hnd hk hj' (hke.trans this)
      rw [hjk]; exact ht'
theorem turnV_len' (L : List (Int × Int)) : (turnV L).length ≤ 1048576 := by
  unfold turnV
  cases h : polyB L
  · simp
  · have := polyB_all h
    simp [turnL, turnTill]; omega
theorem decide_or_false {P Q : Prop} [Decidable P] [Decidable Q] (h : decide P = false) : (decide P || decide Q) = decide Q := by rw [h]; rfl

set_option maxRecDepth 100000 in
set_option maxHeartbeats 4000000 in
theorem spec_same (A B : Option Addr) (c d : Nat) (p q : List (Int × Int)) (w : World) (hA : PtsA w A p) (hB : PtsA w B q) (h1 : p.length ≤ 1048576) (h2 : q.length ≤ 1048576) :
    Calls Try.prog 9 #[.slice A p.length c, .slice B q.length d] w fun e w' => e = .returned (.bool (sameV p q)) ∧ Below w.heap.size w w' := by
  have P1 := Lib.hid (spec_poly A c p w hA h1)
  have P2 := Lib.hid (fun (W : World) (hb : Below w.heap.size w W) => spec_poly B d q W (ptsA_on hB hb) h2)
  cases hp : polyB p
  · have HV : Hid (sameV p q = false) := by
      show _ = _
      rw [sameV, hp]; rfl
    rw [hp] at P1
    clear hA hB
    go_enter Try.func9, Try.ntmps9
    go_wp2_with fail
    refine P1.out.mono ?_
    rintro e w1 ⟨rfl, hb1⟩
    go_wp2_with fail
    go_ret
    exact ⟨ret_bool HV.out.symm, hb1⟩
  rw [hp] at P1
  cases hq : polyB q
  · have HV : Hid (sameV p q = false) := by
      show _ = _
      rw [sameV, hp, hq]; rfl
    rw [hq] at P2
    clear hA hB
    go_enter Try.func9, Try.ntmps9
    go_wp2_with fail
    refine P1.out.mono ?_
    rintro e w1 ⟨rfl, hb1⟩
    go_wp2_with fail
    refine (P2.out _ hb1).mono ?_
    rintro e w2 ⟨rfl, hb2⟩
    go_wp2_with fail
    go_ret
    exact ⟨ret_bool HV.out.symm, hb1.trans (hb2.mono hb1.size)⟩
  rw [hq] at P2
  have HV : Hid (sameV p q = sameB (straightL p) (straightL q)) := by
    show _ = _
    rw [sameV, hp, hq]; rfl
  obtain ⟨p3, p10, pok⟩ := polyB_all hp
  obtain ⟨q3, q10, qok⟩ := polyB_all hq
  have S1 := Lib.hid (fun (W : World) (hb : Below w.heap.size w W) => straight_any A c p W (ptsA_on hA hb) (by omega) p10 pok)
  have S2 := Lib.hid (fun (W : World) (hb : Below w.heap.size w W) => straight_any B d q W (ptsA_on hB hb) (by omega) q10 qok)
  unfold Lists at S1 S2
  have ha := polyB_all (poly_straight hp)
  have hb := polyB_all (poly_straight hq)
  generalize straightL p = a at *
  generalize straightL q = b at *
  have hal : a.length ≤ 10 := ha.2.1
  have hbl : b.length ≤ 10 := hb.2.1
  clear hA hB ha hb p3 p10 pok q3 q10 qok hp hq
  go_enter Try.func9, Try.ntmps9
  go_wp2_with fail
  refine P1.out.mono ?_
  rintro e w1 ⟨rfl, b1⟩
  go_wp2_with fail
  refine (P2.out _ b1).mono ?_
  rintro e w2 ⟨rfl, hb2⟩
  have b2 := b1.trans (hb2.mono b1.size)
  clear hb2 b1
  go_wp2_with fail
  refine (S1.out _ b2).mono ?_
  rintro e w3 ⟨va, rfl, owna, hb3⟩
  have b3 := b2.trans (hb3.mono b2.size)
  clear hb3 b2
  obtain ⟨_, Aa, ca, rfl, pa⟩ := own_pts owna
  clear owna
  go_wp2_with fail
  refine (S2.out _ b3).mono ?_
  rintro e w4 ⟨vb, rfl, ownb, hb4⟩
  have b4 := b3.trans (hb4.mono b3.size)
  obtain ⟨_, Ab, cb, rfl, pb, qb⟩ := own_ptsc ownb
  have HPA := Lib.hid (ptsA_on pa hb4)
  have HPB := Lib.hid pb
  have HQB := Lib.hid qb
  have HB4 := Lib.hid b4
  clear hb4 b3 ownb pa pb qb b4
  go_wp2_with fail
  go_loopw [23] (fun i wr => ∃ k : Nat, k ≤ b.length ∧ i = .int .i64 k ∧ Hid (∀ j, j < k → testB a b j = false) ∧ Below w4.heap.size w4 wr) (fun i _ => b.length - (intOf i).toNat)
  case atStart => exact ⟨0, Nat.zero_le _, rfl, fun j hj => by omega, Below.refl _ _⟩
  case round =>
    obtain ⟨wo, rfl⟩ : ∃ wo : World, wo = wr := ⟨_, rfl⟩
    obtain ⟨k, hk, rfl, HK, hb⟩ := hrel
    by_cases hlt : k < b.length
    · have HT := Lib.hid (start_any Ab cb k b wo (ptsA_on HPB.out hb) hlt HQB.out (by omega))
      unfold Lists at HT
      have hrl := rotL_len b k
      have HTB : Hid (testB a b k = (decide (a = rotL b k) || decide (a = turnL (rotL b k)))) := rfl
      obtain ⟨r, hr⟩ : ∃ r, r = rotL b k := ⟨_, rfl⟩
      rw [← hr] at HT hrl HTB
      clear hr
      have hr1 : 1 ≤ r.length := by omega
      have hr2 : r.length ≤ 10 := by omega
      clear hrl
      go_wp2_with fail
      refine HT.out.mono ?_
      rintro e w5 ⟨v5, rfl, own5, hb5⟩
      have b5 := hb.trans (hb5.mono hb.size)
      obtain ⟨_, A5, c5, rfl, p5⟩ := own_pts own5
      have HE := Lib.hid (sEq_any Aa A5 ca c5 a r w5 (ptsA_on HPA.out b5) p5 (by omega) (by omega))
      clear own5 hb5 hb
      cases he : decide (a = r)
      · rw [he] at HE
        go_wp2_with fail
        refine HE.out.mono ?_
        rintro e w6 ⟨rfl, hb6⟩
        have b6 := b5.trans (hb6.mono b5.size)
        have HT6 := Lib.hid (turn_any A5 c5 r w6 (ptsA_on p5 hb6) hr1 (by omega))
        unfold Lists at HT6
        clear hb6 b5 p5 HE
        go_wp2_with fail
        refine HT6.out.mono ?_
        rintro e w7 ⟨v7, rfl, own7, hb7⟩
        have b7 := b6.trans (hb7.mono b6.size)
        obtain ⟨_, A7, c7, rfl, p7⟩ := own_pts own7
        have hm7 : (turnL r).length ≤ 10 := by simp [turnL, turnTill]; omega
        have HE7 := Lib.hid (sEq_any Aa A7 ca c7 a (turnL r) w7 (ptsA_on HPA.out b7) p7 (by omega) (by omega))
        generalize turnL r = tr at *
        clear own7 hb7 b6 p7 hm7
        cases ht : decide (a = tr)
        · have HN : Hid (∀ j, j < k + 1 → testB a b j = false) := fun j hj => by
            rcases Nat.lt_or_ge j k with h | h
            · exact HK.out j h
            · obtain rfl : j = k := by omega
              rw [HTB.out, he, ht]; rfl
          rw [ht] at HE7
          go_wp2_with fail
          refine HE7.out.mono ?_
          rintro e w8 ⟨rfl, hb8⟩
          have b8 := b7.trans (hb8.mono b7.size)
          clear hb8 b7
          go_wp2_with fail
          go_roundw
          case rel => exact ⟨k + 1, by omega, by go_num, HN, b8⟩
          case measure => simp [intOf]; omega
        · have HR : Hid (sameB a b = true) := List.any_eq_true.2 ⟨k, List.mem_range.2 hlt, by rw [HTB.out, he, ht]; rfl⟩
          rw [ht] at HE7
          go_wp2_with fail
          refine HE7.out.mono ?_
          rintro e w8 ⟨rfl, hb8⟩
          have b8 := HB4.out.trans ((b7.trans (hb8.mono b7.size)).mono HB4.out.size)
          clear hb8 b7
          go_wp2_with fail
          go_ret
          exact ⟨ret_bool (by rw [HV.out, HR.out]), b8⟩
      · have HR : Hid (sameB a b = true) := List.any_eq_true.2 ⟨k, List.mem_range.2 hlt, by rw [HTB.out, he]; rfl⟩
        rw [he] at HE
        go_wp2_with fail
        refine HE.out.mono ?_
        rintro e w6 ⟨rfl, hb6⟩
        have b6 := HB4.out.trans ((b5.trans (hb6.mono b5.size)).mono HB4.out.size)
        clear hb6 b5 p5
        go_wp2_with fail
        go_ret
        exact ⟨ret_bool (by rw [HV.out, HR.out]), b6⟩
    · have HR : Hid (sameB a b = false) := by
        show _ = _
        cases hs : sameB a b
        · rfl
        · obtain ⟨j, hj, ht⟩ := List.any_eq_true.1 hs
          rw [HK.out j (by have := List.mem_range.1 hj; omega)] at ht
          cases ht
      have b5 := HB4.out.trans (hb.mono HB4.out.size)
      go_wp2_with fail
      go_ret
      exact ⟨ret_bool (by rw [HV.out, HR.out]), b5⟩

set_option maxRecDepth 100000 in
set_option maxHeartbeats 4000000 in
theorem impl_same (A B : Option Addr) (c d : Nat) (p q : List (Int × Int)) (w : World) (hA : PtsA w A p) (hB : PtsA w B q) (h1 : p.length ≤ 1048576) (h2 : q.length ≤ 1048576) :
    Calls Try.prog 12 #[.slice A p.length c, .slice B q.length d] w fun e w' => e = .returned (.bool (sameV p q)) ∧ Below w.heap.size w w' := by
  have P1 := Lib.hid (impl_poly A c p w hA h1)
  have P2 := Lib.hid (fun (W : World) (hb : Below w.heap.size w W) => impl_poly B d q W (ptsA_on hB hb) h2)
  cases hp : polyB p
  · have HV : Hid (sameV p q = false) := by
      show _ = _
      rw [sameV, hp]; rfl
    rw [hp] at P1
    clear hA hB
    go_enter Try.func12, Try.ntmps12
    go_wp2_with fail
    refine P1.out.mono ?_
    rintro e w1 ⟨rfl, hb1⟩
    go_wp2_with fail
    go_ret
    exact ⟨ret_bool HV.out.symm, hb1⟩
  rw [hp] at P1
  cases hq : polyB q
  · have HV : Hid (sameV p q = false) := by
      show _ = _
      rw [sameV, hp, hq]; rfl
    rw [hq] at P2
    clear hA hB
    go_enter Try.func12, Try.ntmps12
    go_wp2_with fail
    refine P1.out.mono ?_
    rintro e w1 ⟨rfl, hb1⟩
    go_wp2_with fail
    refine (P2.out _ hb1).mono ?_
    rintro e w2 ⟨rfl, hb2⟩
    go_wp2_with fail
    go_ret
    exact ⟨ret_bool HV.out.symm, hb1.trans (hb2.mono hb1.size)⟩
  rw [hq] at P2
  have HV : Hid (∀ z, IdxAt (straightL q) (gt (straightL p) 0) z → sameV p q = (decide (straightL p = startV (straightL q) z) || decide (straightL p = turnV (startV (straightL q) z)))) := fun z hz => by
    rw [same_eq hp hq hz, sameV, hp, hq]; rfl
  have S1 := Lib.hid (fun (W : World) (hb : Below w.heap.size w W) => impl_straight A c p W (ptsA_on hA hb) h1)
  have S2 := Lib.hid (fun (W : World) (hb : Below w.heap.size w W) => impl_straight B d q W (ptsA_on hB hb) h2)
  have e1 : straightV p = straightL p := by rw [straightV, hp]; rfl
  have e2 : straightV q = straightL q := by rw [straightV, hq]; rfl
  unfold Lists at S1 S2
  rw [e1] at S1
  rw [e2] at S2
  have ha := polyB_all (poly_straight hp)
  have hb := polyB_all (poly_straight hq)
  generalize straightL p = a at *
  generalize straightL q = b at *
  have hal : a.length ≤ 10 := ha.2.1
  have ha3 : 3 ≤ a.length := ha.1
  have hbl : b.length ≤ 10 := hb.2.1
  clear hA hB ha hb hp hq e1 e2
  go_enter Try.func12, Try.ntmps12
  go_wp2_with fail
  refine P1.out.mono ?_
  rintro e w1 ⟨rfl, b1⟩
  go_wp2_with fail
  refine (P2.out _ b1).mono ?_
  rintro e w2 ⟨rfl, hb2⟩
  have b2 := b1.trans (hb2.mono b1.size)
  clear hb2 b1
  go_wp2_with fail
  refine (S1.out _ b2).mono ?_
  rintro e w3 ⟨va, rfl, owna, hb3⟩
  have b3 := b2.trans (hb3.mono b2.size)
  clear hb3 b2
  obtain ⟨_, Aa, ca, rfl, pa⟩ := own_pts owna
  clear owna
  go_wp2_with fail
  refine (S2.out _ b3).mono ?_
  rintro e w4 ⟨vb, rfl, ownb, hb4⟩
  have b4 := b3.trans (hb4.mono b3.size)
  obtain ⟨_, Ab, cb, rfl, pb, qb⟩ := own_ptsc ownb
  replace pa := ptsA_on pa hb4
  obtain ⟨ga, rfl, -⟩ := pa 0 (by omega)
  obtain ⟨c1, c2⟩ := gt_cells pa (i := 0) (by omega)
  simp only [Nat.zero_mul, Nat.zero_add] at c1 c2
  have hn1 : (0 : Int) < (a.length : Int) := by omega
  have HI := Lib.hid (idx_any Ab cb b (gt a 0).1 (gt a 0).2 w4 pb (by omega))
  have HPA := Lib.hid pa
  have HPB := Lib.hid pb
  have HQB := Lib.hid qb
  clear hb4 b3 ownb pa pb qb
  have HP0 : Hid (((gt a 0).1, (gt a 0).2) = gt a 0) := rfl
  generalize (gt a 0).1 = x0 at *
  generalize (gt a 0).2 = y0 at *
  go_wp2_with fail
  refine HI.out.mono ?_
  rintro e w5 ⟨⟨z, rfl, hz⟩, hb5⟩
  rw [HP0.out] at hz
  have HZ := Lib.hid (HV.out z hz)
  have b5 := b4.trans (hb5.mono b4.size)
  replace HPA := Lib.hid (ptsA_on HPA.out hb5)
  have HT := Lib.hid (impl_start Ab cb b z w5 (ptsA_on HPB.out hb5) HQB.out (by omega))
  unfold Lists at HT
  have hol := startV_len b z
  generalize startV b z = o at *
  clear hz HV hb5 b4 c1 c2 HI
  go_wp2_with fail
  refine HT.out.mono ?_
  rintro e w6 ⟨vo, rfl, owno, hb6⟩
  have b6 := b5.trans (hb6.mono b5.size)
  obtain ⟨_, Ao, co, rfl, po⟩ := own_pts owno
  replace HPA := Lib.hid (ptsA_on HPA.out hb6)
  have HE := Lib.hid (iEq_any (some ⟨ga, 0, none⟩) Ao ca co a o w6 HPA.out po (by omega) hol)
  clear owno hb6 b5 HT
  cases he : decide (a = o)
  · rw [he] at HE
    rw [he, Bool.false_or] at HZ
    go_wp2_with fail
    refine HE.out.mono ?_
    rintro e w7 ⟨rfl, hb7⟩
    have b7 := b6.trans (hb7.mono b6.size)
    replace HPA := Lib.hid (ptsA_on HPA.out hb7)
    have HT7 := Lib.hid (impl_turn Ao co o w7 (ptsA_on po hb7) hol)
    unfold Lists at HT7
    have htl := turnV_len' o
    generalize turnV o = t at *
    clear hb7 b6 po HE
    go_wp2_with fail
    refine HT7.out.mono ?_
    rintro e w8 ⟨vt, rfl, ownt, hb8⟩
    have b8 := b7.trans (hb8.mono b7.size)
    obtain ⟨_, At, ct, rfl, pt⟩ := own_pts ownt
    replace HPA := Lib.hid (ptsA_on HPA.out hb8)
    have HE8 := Lib.hid (iEq_any (some ⟨ga, 0, none⟩) At ca ct a t w8 HPA.out pt (by omega) htl)
    clear ownt hb8 b7 HT7
    go_wp2_with fail
    refine HE8.out.mono ?_
    rintro e w9 ⟨rfl, hb9⟩
    have b9 := b8.trans (hb9.mono b8.size)
    clear hb9 b8 pt
    go_wp2_with fail
    go_ret
    exact ⟨ret_bool HZ.out.symm, b9⟩
  · rw [he] at HE
    rw [he, Bool.true_or] at HZ
    go_wp2_with fail
    refine HE.out.mono ?_
    rintro e w7 ⟨rfl, hb7⟩
    have b7 := b6.trans (hb7.mono b6.size)
    clear hb7 b6 po
    go_wp2_with fail
    go_ret
    exact ⟨ret_bool HZ.out.symm, b7⟩
end Go.Proofs.Ytnkehfhedjdhaab

/-! Step11 -/
namespace Go.Proofs.Ytnkehfhedjdhaab
open Go.RowKit

def stpsB (n a b : Int) : Bool := inB n 1 3 && inB a 1 10 && inB b 1 10
theorem stpsB_bounds {n a b : Int} (h : stpsB n a b = true) : 1 ≤ n ∧ n ≤ 3 ∧ 1 ≤ a ∧ a ≤ 10 ∧ 1 ≤ b ∧ b ≤ 10 := by
  simp only [stpsB, Bool.and_eq_true, inB_spec] at h
  omega
/-- A product of two small ints. -/
theorem mul_small {x y : Int} {p q : Nat} (h1 : 0 ≤ x) (h2 : x ≤ p) (h3 : 0 ≤ y) (h4 : y ≤ q) : 0 ≤ x * y ∧ x * y ≤ ((p * q : Nat) : Int) := by
  refine ⟨Int.mul_nonneg h1 h3, ?_⟩
  have e1 : x * y ≤ (p : Int) * y := Int.mul_le_mul_of_nonneg_right h2 h3
  have e2 : (p : Int) * y ≤ (p : Int) * (q : Int) := Int.mul_le_mul_of_nonneg_left h4 (by omega)
  rw [Int.natCast_mul]; omega
/-- The first 2k points of the cut. -/
def cutP (n a b : Int) : Nat → List (Int × Int)
  | 0 => []
  | k + 1 => cutP n a b k ++ [((k : Int) * a, (n - k) * b), (((k : Int) + 1) * a, (n - k) * b)]
theorem cutP_len (n a b : Int) : ∀ k, (cutP n a b k).length = 2 * k
  | 0 => rfl
  | k + 1 => by rw [cutP, List.length_append, cutP_len n a b k]; simp; omega
theorem cutP_flat (n a b : Int) (k : Nat) : flat (cutP n a b (k + 1)) = flat (cutP n a b k) ++ [.int .i64 ((k : Int) * a), .int .i64 ((n - k) * b), .int .i64 (((k : Int) + 1) * a), .int .i64 ((n - k) * b)] := by
  rw [cutP, flat_append]; rfl
def rcL (w h : Int) : List (Int × Int) := [(0, 0), (w, 0), (w, h), (0, h)]
def rcV (w h : Int) : List (Int × Int) := bif inB w 1 40 && inB h 1 40 then rcL w h else []
theorem rcV_len (w h : Int) : (rcV w h).length ≤ 4 := by unfold rcV; cases inB w 1 40 <;> cases inB h 1 40 <;> simp [rcL]
/-- Four points of a literal. -/
theorem four_own (w : World) (l : List (Int × Int)) (h : l.length = 4) (t : TypeId) : (w.alloc (.cells (flat l).toArray t)).ownsRow w.heap.size t 2 (.slice (some ⟨w.heap.size, 0, none⟩) 4 4) 4 (flat l) := by
  refine ⟨by rw [flat_len, h], .inr ⟨w.heap.size, 4, (flat l).toArray, rfl, Nat.le_refl _, heap_alloc_new w _, Nat.le_refl _, by decide, by simp [flat_len, h], ?_⟩⟩
  rw [List.take_of_length_le (by simp [flat_len, h])]
theorem hasSides_any (x y : Int) (w : World) :
    Calls Try.prog 27 #[.int .i64 x, .int .i64 y] w fun e w' => e = .returned (.bool (inB x 1 40 && inB y 1 40)) ∧ w' = w := by
  have H1 := Lib.hid (from_any x 1 40)
  have H2 := Lib.hid (from_any y 1 40)
  generalize inB x 1 40 = x1 at *
  generalize inB y 1 40 = x2 at *
  cases x1
  · go_enter Try.func27, Try.ntmps27
    go_wp2_with fail
    refine (H1.out _).mono ?_
    rintro e w1 ⟨rfl, rfl⟩
    go_wp2_with fail
    go_ret
    exact ⟨rfl, rfl⟩
  · go_enter Try.func27, Try.ntmps27
    go_wp2_with fail
    refine (H1.out _).mono ?_
    rintro e w1 ⟨rfl, rfl⟩
    go_wp2_with fail
    refine (H2.out _).mono ?_
    rintro e w2 ⟨rfl, rfl⟩
    go_wp2_with fail
    go_ret
    exact ⟨ret_bool (by simp), rfl⟩
set_option maxHeartbeats 1000000 in
theorem impl_rect (x y : Int) (w : World) :
    Calls Try.prog 13 #[.int .i64 x, .int .i64 y] w (Lists w (rcV x y)) := by
  have H1 := Lib.hid (hasSides_any x y)
  have HU : Hid (∀ v w', w'.ownsRow w.heap.size 31 2 v (rcV x y).length (flat (rcV x y)) → Below w.heap.size w w' → Lists w (rcV x y) (.returned v) w') := fun v w' h1 h2 => ⟨v, rfl, h1, h2⟩
  have HR : Hid (rcV x y = bif inB x 1 40 && inB y 1 40 then rcL x y else []) := rfl
  generalize (inB x 1 40 && inB y 1 40) = c at *
  cases c
  · go_enter Try.func13, Try.ntmps13
    go_wp2_with fail
    refine (H1.out _).mono ?_
    rintro e w1 ⟨rfl, rfl⟩
    go_wp2_with fail
    go_ret
    exact HU.out _ _ (by rw [HR.out]; exact World.ownsRow_nil _ _ _ _) (Below.refl _ _)
  · go_enter Try.func13, Try.ntmps13
    go_wp2_with fail
    refine (H1.out _).mono ?_
    rintro e w1 ⟨rfl, rfl⟩
    go_wp2_with fail
    go_ret
    exact HU.out _ _ (by rw [HR.out]; exact four_own _ (rcL x y) rfl _) ((Below.refl _ _).alloc (Nat.le_refl _) _)
set_option maxHeartbeats 1000000 in
theorem spec_rect (x y : Int) (w : World) :
    Calls Try.prog 10 #[.int .i64 x, .int .i64 y] w (Lists w (rcV x y)) := by
  have H1 := Lib.hid (in_any x 1 40)
  have H2 := Lib.hid (in_any y 1 40)
  have HU : Hid (∀ v w', w'.ownsRow w.heap.size 31 2 v (rcV x y).length (flat (rcV x y)) → Below w.heap.size w w' → Lists w (rcV x y) (.returned v) w') := fun v w' h1 h2 => ⟨v, rfl, h1, h2⟩
  have HR : Hid (rcV x y = bif inB x 1 40 && inB y 1 40 then rcL x y else []) := rfl
  generalize inB x 1 40 = x1 at *
  generalize inB y 1 40 = x2 at *
  cases x1
  · go_enter Try.func10, Try.ntmps10
    go_wp2_with fail
    refine (H1.out _).mono ?_
    rintro e w1 ⟨rfl, rfl⟩
    go_wp2_with fail
    go_ret
    exact HU.out _ _ (by rw [HR.out]; exact World.ownsRow_nil _ _ _ _) (Below.refl _ _)
  cases x2
  all_goals (
    go_enter Try.func10, Try.ntmps10
    go_wp2_with fail
    refine (H1.out _).mono ?_
    rintro e w1 ⟨rfl, rfl⟩
    go_wp2_with fail
    refine (H2.out _).mono ?_
    rintro e w2 ⟨rfl, rfl⟩
    go_wp2_with fail
    go_ret)
  · exact HU.out _ _ (by rw [HR.out]; exact World.ownsRow_nil _ _ _ _) (Below.refl _ _)
  · exact HU.out _ _ (by rw [HR.out]; exact four_own _ (rcL x y) rfl _) ((Below.refl _ _).alloc (Nat.le_refl _) _)
end Go.Proofs.Ytnkehfhedjdhaab

/-! Same11 -/
namespace Go.Proofs.Ytnkehfhedjdhaab
open Go.RowKit

def sameR (p : List (Int × Int)) (x y : Int) : Bool := sameV p (rcV x y)
theorem spec_sameRect (A : Option Addr) (c : Nat) (L : List (Int × Int)) (x y : Int) (w : World) (hA : PtsA w A L) (hL : L.length ≤ 1048576) :
    Calls Try.prog 5 #[.slice A L.length c, .int .i64 x, .int .i64 y] w fun e w' => e = .returned (.bool (sameR L x y)) ∧ Below w.heap.size w w' := by
  have H1 := Lib.hid (fun w => spec_rect x y w)
  have HA := Lib.hid (fun (W : World) (hb : Below w.heap.size w W) => ptsA_on hA hb)
  have HS := Lib.hid (fun B d M W (hB : PtsA W B M) (h2 : M.length ≤ 1048576) (hA : PtsA W A L) => spec_same A B c d L M W hA hB hL h2)
  have HR := Lib.hid (show sameR L x y = sameV L (rcV x y) from rfl)
  have HN := Lib.hid (rcV_len x y)
  unfold Lists at H1
  generalize rcV x y = M at *
  rw [HR.out]
  clear hA HR
  go_enter Try.func5, Try.ntmps5
  go_wp2_with fail
  refine (H1.out _).mono ?_
  rintro e w1 ⟨v1, rfl, own1, b1⟩
  obtain ⟨_, B, d, rfl, p1⟩ := own_pts own1
  clear own1
  go_wp2_with fail
  refine (HS.out _ _ _ _ p1 (by have := HN.out; omega) (HA.out _ b1)).mono ?_
  rintro e w2 ⟨rfl, hb2⟩
  have b2 := below_on b1 hb2
  clear hb2 b1 p1
  go_wp2_with fail
  go_ret
  exact ⟨rfl, b2⟩
theorem impl_sameRect (A : Option Addr) (c : Nat) (L : List (Int × Int)) (x y : Int) (w : World) (hA : PtsA w A L) (hL : L.length ≤ 1048576) :
    Calls Try.prog 7 #[.slice A L.length c, .int .i64 x, .int .i64 y] w fun e w' => e = .returned (.bool (sameR L x y)) ∧ Below w.heap.size w w' := by
  have H1 := Lib.hid (fun w => impl_rect x y w)
  have HA := Lib.hid (fun (W : World) (hb : Below w.heap.size w W) => ptsA_on hA hb)
  have HS := Lib.hid (fun B d M W (hB : PtsA W B M) (h2 : M.length ≤ 1048576) (hA : PtsA W A L) => impl_same A B c d L M W hA hB hL h2)
  have HR := Lib.hid (show sameR L x y = sameV L (rcV x y) from rfl)
  have HN := Lib.hid (rcV_len x y)
  unfold Lists at H1
  generalize rcV x y = M at *
  rw [HR.out]
  clear hA HR
  go_enter Try.func7, Try.ntmps7
  go_wp2_with fail
  refine (H1.out _).mono ?_
  rintro e w1 ⟨v1, rfl, own1, b1⟩
  obtain ⟨_, B, d, rfl, p1⟩ := own_pts own1
  clear own1
  go_wp2_with fail
  refine (HS.out _ _ _ _ p1 (by have := HN.out; omega) (HA.out _ b1)).mono ?_
  rintro e w2 ⟨rfl, hb2⟩
  have b2 := below_on b1 hb2
  clear hb2 b1 p1
  go_wp2_with fail
  go_ret
  exact ⟨rfl, b2⟩
set_option maxRecDepth 100000 in
set_option maxHeartbeats 2000000 in
/-- SC, IC: what the model and the program answer at a list of points, wherever it lies. -/
theorem law_sameRect (A : Option Addr) (c : Nat) (L : List (Int × Int)) (x y : Int) (b : Bool) (w : World) (hA : ArgA w A L) (hL : L.length ≤ maxLen)
    (SC : L.length ≤ 1048576 → ∀ A c w, PtsA w A L → Calls Try.prog 5 #[.slice A L.length c, .int .i64 x, .int .i64 y] w fun e w' => e = .returned (.bool b) ∧ Below w.heap.size w w')
    (IC : L.length ≤ 1048576 → ∀ A c w, PtsA w A L → Calls Try.prog 7 #[.slice A L.length c, .int .i64 x, .int .i64 y] w fun e w' => e = .returned (.bool b) ∧ Below w.heap.size w w') :
    Calls Try.prog 3 #[.slice A L.length c, .int .i64 x, .int .i64 y] w fun e w' => e = .returned (.bool true) ∧ Below w.heap.size w w' := by
  by_cases hs : L.length ≤ 1048576
  case neg => 
    clear SC IC hA
    have HZ := Lib.hid (sz_great A L.length c w (by omega) hL)
    go_enter Try.func3, Try.ntmps3
    go_wp2_with fail
    refine HZ.out.mono ?_
    rintro e w0 ⟨rfl, rfl⟩
    go_wp2_with fail
    go_ret
    exact ⟨rfl, Below.refl _ _⟩
  have HS := Lib.hid (SC hs); have HI := Lib.hid (IC hs)
  clear SC IC
  have HA := Lib.hid hA; clear hA
  have HZ := Lib.hid (sz_small A L.length c w hs)
  go_enter Try.func3, Try.ntmps3
  go_wp2_with fail
  refine HZ.out.mono ?_
  rintro e w0 ⟨rfl, rfl⟩
  go_wp2_with fail
  refine (toS_any A c L _ HA.out hs).mono ?_
  rintro e w1 ⟨v1, rfl, own1, b1⟩
  obtain ⟨_, A1, c1, rfl, p1⟩ := own_pts own1
  clear own1
  go_wp2_with fail
  refine (HS.out A1 c1 w1 p1).mono ?_
  rintro e w2 ⟨rfl, hb2⟩
  have b2 := below_on b1 hb2
  clear b1 hb2 p1
  go_wp2_with fail
  refine (toS_any A c L _ (HA.out.step b2) hs).mono ?_
  rintro e w3 ⟨v3, rfl, own3, hb3⟩
  have b3 := below_on b2 hb3
  clear b2 hb3
  obtain ⟨_, A3, c3, rfl, p3⟩ := own_pts own3
  clear own3
  go_wp2_with fail
  refine (HI.out A3 c3 w3 p3).mono ?_
  rintro e w4 ⟨rfl, hb4⟩
  have b4 := below_on b3 hb4
  have p4 := ptsA_on p3 hb4
  clear b3 hb4 p3
  go_wp2_with fail
  refine (toS_any A c L _ (HA.out.step b4) hs).mono ?_
  rintro e w5 ⟨v5, rfl, own5, hb5⟩
  have b5 := below_on b4 hb5
  have p5 := ptsA_on p4 hb5
  clear b4 hb5 p4
  obtain ⟨_, A5, c5, rfl, q5⟩ := own_pts own5
  clear own5
  go_wp2_with fail
  refine (eq_pts A3 A5 c3 c5 L w5 p5 q5 hs).mono ?_
  rintro e w6 ⟨rfl, hb6⟩
  have b6 := below_on b5 hb6
  clear b5 hb6 p5 q5
  go_wp2_with fail
  go_ret
  exact ⟨rfl, b6⟩
theorem ex_sameRect (A : Option Addr) (c : Nat) (L : List (Int × Int)) (x y : Int) (w : World) (hA : ArgA w A L) (hL : L.length ≤ maxLen) :
    Calls Try.prog 3 #[.slice A L.length c, .int .i64 x, .int .i64 y] w fun e w' => e = .returned (.bool true) ∧ Below w.heap.size w w' :=
  law_sameRect A c L x y (sameR L x y) w hA hL (fun h A c w hA => spec_sameRect A c L x y w hA h) (fun h A c w hA => impl_sameRect A c L x y w hA h)
end Go.Proofs.Ytnkehfhedjdhaab

/-! Base -/
namespace Go.Proofs.Ytnkehfhedjdhaab
open Go.ChangeShapes Go.WideShapes Go.ChangeAt Go.RowKit

/-- The arguments read behind the call as before, if below the old heap's size nothing has turned. -/
theorem args_stay {H : Type} {enc : TypeId × Value → H} {P : Program} (hl : laidOutB P = true) {W W' : World} (hb : Below W.heap.size W W') :
    ∀ (ts : List TypeId) (vs : List Value) (ds : List (DataW H)) (p : List MemPlace), (∀ t ∈ ts, P.readableRec t = true ∧ t < P.types.size) →
      DataW.TrodAll enc P W 0 (fun _ => true) true ts vs ds p → (∀ x ∈ p, x.block < W.heap.size) → DataW.TrodAll enc P W' 0 (fun b => decide (b < W.heap.size)) true ts vs ds p
  | [], vs, ds, p, _, h, _ => by
    obtain ⟨rfl, rfl, rfl⟩ := trodAll_nil h
    exact trodAll_mk0
  | t :: ts, vs, ds, p, ht, h, hp => by
    obtain ⟨v, vs1, d, ds1, a, b, rfl, rfl, rfl, h1, h2⟩ := trodAll_cons h
    exact trodAll_cons_mk (Below.trod hl (ht t (by simp)).1 (ht t (by simp)).2 h1 hb (fun x hx => hp x (by simp [hx])))
      (args_stay hl hb ts vs1 ds1 b (fun t h => ht t (by simp [h])) h2 (fun x hx => hp x (by simp [hx])))

/-- A law's 'post': one bool back, true; the arguments as they were; no variable is listed. -/
theorem law_post {H : Type} {enc : TypeId × Value → H} {P : Program} {f : Func} {s : ChangeSpec} {W W' : World} {args : Array Value} {ds gs : List (DataW H)} {before : List MemPlace} {tb : TypeId}
    (hl : laidOutB P = true) (ht : f.params.toList.all (fun t => P.readableRec t && decide (t < P.types.size)) = true) (hr : f.resultTypes = #[tb]) (ub : P.underlying tb = some .bool) (hv : s.vars = [])
    (hs : (s.fn H (ds ++ gs)).results = [.lit (.bool true)] ∧ (s.fn H (ds ++ gs)).args = ds ∧ (s.fn H (ds ++ gs)).vars = [])
    (hW : DataW.Whole enc P f.params.toList s.vars false W args.toList ds gs before) (hb : Below W.heap.size W W') :
    s.post enc P f false true false false W args (.bool true) W' := by
  have hW' := hW
  obtain ⟨p, q, hA, hV, hpq, _, _⟩ := hW
  rw [hv] at hV
  obtain ⟨rfl, rfl⟩ := trodVars_none hV
  have hlt : ∀ x ∈ p, x.block < W.heap.size := fun x hx => by simpa using hW'.lt x (by rw [hpq]; simp [hx])
  refine ⟨ds, [], before, [], p, [], hW', ?_, ?_, ?_, hb.frame _, fun h => by cases h⟩
  · rw [hs.1, hr]
    exact trodAll_mk1 (shut_bool ub _)
  · rw [hs.2.1]
    exact args_stay hl hb _ _ _ _ (fun t h => by simpa using List.all_eq_true.1 ht t h) hA hlt
  · rw [hs.2.2, hv]
    rfl
end Go.Proofs.Ytnkehfhedjdhaab

/-! Pair -/
namespace Go.Proofs.Ytnkehfhedjdhaab
open Go.Joins Go.ChangeShapes Go.WideShapes Go.RowKit Go.Deep

theorem open_pt {H : Type} {enc : TypeId × Value → H} {P : Program} {w : World} {base : Nat} {spare : Nat → Bool} {held : Bool} {r : Reach} {b0 : Nat} {t : TypeId} {f0 f1 : Field} {v : Value} {d : DataW H} {p : List MemPlace}
    (hs : P.underlying t = some (.struct #[f0, f1])) (hone : oneCellFields P #[f0, f1] = true) (hC : P.cellsOf t = 2) (i0 : P.underlying f0.type = some (.int .i64)) (i1 : P.underlying f1.type = some (.int .i64))
    (hv : Value.okWide P w r b0 t v) (h : DataW.Trod enc P w base spare held t v d p) : ∃ x y : Int, v = .agg #[.int .i64 x, .int .i64 y] := by
  obtain ⟨v0, v1, y0, y1, n, rfl, _, _, h0, h1⟩ := open_agg2 hs hone hC hv h
  obtain ⟨x, hx, _, _⟩ := DataW.trod_int i0 h0
  obtain ⟨y, hy, _, _⟩ := DataW.trod_int i1 h1
  simp only [List.cons.injEq, and_true] at hx hy
  exact ⟨x, y, by rw [hx, hy]⟩
end Go.Proofs.Ytnkehfhedjdhaab

/-! ArgPts -/
namespace Go.Proofs.Ytnkehfhedjdhaab
open Go.Joins Go.ChangeShapes Go.WideShapes Go.RowKit Go.Deep

theorem add_two (a : Addr) (i j : Nat) : (a.add i).add j = a.add (i + j) := by
  unfold Addr.add
  by_cases hj : j = 0
  · subst hj; simp
  · by_cases hi : i = 0
    · subst hi; simp [hj]
    · have : i + j ≠ 0 := by omega
      simp [hj, hi, Nat.add_assoc]
theorem view_pts {H : Type} {enc : TypeId × Value → H} {P : Program} {W : World} {t e : TypeId} {f0 f1 : Field} {fuel : Nat} {A : Option Addr} {n c : Nat} {x : DataW H × List MemPlace}
    (ht : P.underlying t = some (.slice e)) (he : P.underlying e = some (.struct #[f0, f1])) (hone : oneCellFields P #[f0, f1] = true) (hC : P.cellsOf e = 2) (i0 : P.underlying f0.type = some (.int .i64)) (i1 : P.underlying f1.type = some (.int .i64))
    (h : DataW.trod enc P W 0 (fun _ => true) true fuel t [.slice A n c] = some x) : ∃ L : List (Int × Int), n = L.length ∧ ArgA W A L ∧ L.length ≤ maxLen := by
  rcases open_slice ht h with ⟨h1, _⟩ | ⟨a, len, cap, m, n', D, Pl, h1, _, hlc, hcm, hm, _, hcell⟩
  · simp only [List.cons.injEq, Value.slice.injEq, and_true] at h1
    obtain ⟨rfl, rfl, rfl⟩ := h1
    exact ⟨[], rfl, fun k hk => absurd hk (by simp), by simp⟩
  · simp only [List.cons.injEq, Value.slice.injEq, and_true] at h1
    obtain ⟨rfl, rfl, rfl⟩ := h1
    rw [if_pos rfl] at hm
    have key : ∀ i, i < n → ∃ p : Int × Int, W.cell? (a.add (i * 2)) = some (.int .i64 p.1) ∧ W.cell? (a.add (i * 2 + 1)) = some (.int .i64 p.2) := fun i hi => by
      obtain ⟨cs, hc, htr⟩ := hcell i (by omega)
      rw [hC] at hc
      obtain ⟨_, hl, hat⟩ := World.cells?_some hc
      obtain ⟨y0, y1, n1, _, _, t0, t1⟩ := trod_struct2 he htr
      obtain ⟨o0, k0⟩ := hone_of hone 0 f0 rfl
      obtain ⟨o1, k1⟩ := hone_of hone 1 f1 rfl
      match cs, hl with
      | [c0, c1], _ =>
        rw [o0, k0] at t0
        rw [o1, k1] at t1
        obtain ⟨u, hu, _, _⟩ := DataW.trod_int i0 t0
        obtain ⟨v, hv, _, _⟩ := DataW.trod_int i1 t1
        simp only [List.drop_zero, List.take_succ_cons, List.take_zero, List.drop_succ_cons, List.cons.injEq, and_true] at hu hv
        have a0 := hat 0 (by omega)
        have a1 := hat 1 (by omega)
        rw [add_two] at a0 a1
        exact ⟨(u, v), by simpa [hu] using a0, by simpa [hv] using a1⟩
    let f : Nat → Int × Int := fun i => if hi : i < n then Classical.choose (key i hi) else (0, 0)
    have hf : ∀ i (hi : i < n), W.cell? (a.add (i * 2)) = some (.int .i64 (f i).1) ∧ W.cell? (a.add (i * 2 + 1)) = some (.int .i64 (f i).2) := fun i hi => by
      have : f i = Classical.choose (key i hi) := dif_pos hi
      rw [this]
      exact Classical.choose_spec (key i hi)
    refine ⟨(List.range n).map f, by simp, fun k hk => ?_, by simp; omega⟩
    have hk' : k < n := by simpa using hk
    obtain ⟨g1, g2⟩ := hf k hk'
    have hb := World.block_lt_of_cell? W _ g1
    have hbl : (a.add (k * 2)).block = a.block := by unfold Addr.add; split <;> rfl
    rw [hbl] at hb
    exact ⟨a, rfl, hb, by simpa using g1, by simpa using g2⟩
end Go.Proofs.Ytnkehfhedjdhaab
