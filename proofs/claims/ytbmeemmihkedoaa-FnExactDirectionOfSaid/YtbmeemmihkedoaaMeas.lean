/-
  Directions and measures, in numbers: how many steps, in which direction; an ordered list of directions with measures.
-/
import Derived.Test.YtbmeemmihkedoaaSteps
namespace Go.Proofs.Ytbmeemmihkedoaa
open Go.RowKit

def gN (x y : Int) : Nat := Nat.gcd x.natAbs y.natAbs
def down (x y : Int) : Bool := decide (y < 0) || (y == 0 && decide (x < 0))
/-- The steps of a difference along its direction: negative if it leads the other way. -/
def stp (x y : Int) : Int := bif down x y then -(gN x y : Int) else (gN x y : Int)
def dirP (x y : Int) : Int × Int := (x.tdiv (stp x y), y.tdiv (stp x y))
theorem gN_pos {x y : Int} (h : ¬ (x = 0 ∧ y = 0)) : 0 < gN x y := by
  unfold gN
  rcases Nat.eq_zero_or_pos (Nat.gcd x.natAbs y.natAbs) with h0 | h0
  · rw [Nat.gcd_eq_zero_iff] at h0; exact absurd ⟨by omega, by omega⟩ h
  · exact h0
theorem gN_dvd (x y : Int) : (gN x y : Int) ∣ x ∧ (gN x y : Int) ∣ y :=
  ⟨Int.dvd_natAbs.1 (Int.natCast_dvd_natCast.2 (Nat.gcd_dvd_left _ _)), Int.dvd_natAbs.1 (Int.natCast_dvd_natCast.2 (Nat.gcd_dvd_right _ _))⟩
theorem gN_le {x y : Int} {m : Nat} (hx : x.natAbs ≤ m) (hy : y.natAbs ≤ m) : gN x y ≤ m := by
  unfold gN
  rcases Nat.eq_zero_or_pos x.natAbs with h | h
  · rw [h, Nat.gcd_zero_left]; exact hy
  · exact Nat.le_trans (Nat.gcd_le_left _ h) hx
theorem down_iff (x y : Int) : down x y = true ↔ y < 0 ∨ (y = 0 ∧ x < 0) := by simp [down]
theorem down_no (x y : Int) : down x y = false ↔ ¬ (y < 0 ∨ (y = 0 ∧ x < 0)) := by rw [← down_iff, Bool.not_eq_true]
theorem stp_dvd (x y : Int) : stp x y ∣ x ∧ stp x y ∣ y := by
  unfold stp
  cases down x y
  · exact gN_dvd x y
  · exact ⟨Int.neg_dvd.2 (gN_dvd x y).1, Int.neg_dvd.2 (gN_dvd x y).2⟩
theorem stp_ne {x y : Int} (h : ¬ (x = 0 ∧ y = 0)) : stp x y ≠ 0 := by
  have := gN_pos h
  unfold stp
  cases down x y <;> simp only [cond_true, cond_false] <;> omega
theorem stp_abs (x y : Int) : (stp x y).natAbs = gN x y := by
  unfold stp
  cases down x y <;> simp
theorem dir_mul (x y : Int) : (dirP x y).1 * stp x y = x ∧ (dirP x y).2 * stp x y = y :=
  ⟨Int.tdiv_mul_cancel (stp_dvd x y).1, Int.tdiv_mul_cancel (stp_dvd x y).2⟩
theorem gN_mul (a b k : Int) : gN (a * k) (b * k) = gN a b * k.natAbs := by
  unfold gN
  rw [Int.natAbs_mul, Int.natAbs_mul, Nat.gcd_mul_right]
/-- A pair that is a direction. -/
def isDir (x y : Int) : Bool := (decide (0 < y) || (y == 0 && x == 1)) && gN x y == 1
theorem isDir_iff (x y : Int) : isDir x y = true ↔ (0 < y ∨ (y = 0 ∧ x = 1)) ∧ gN x y = 1 := by simp [isDir]
theorem dir_is {x y : Int} (h : ¬ (x = 0 ∧ y = 0)) : isDir (dirP x y).1 (dirP x y).2 = true := by
  obtain ⟨h1, h2⟩ := dir_mul x y
  have hs := stp_ne h
  have hg := gN_pos h
  have hab := stp_abs x y
  have hG := gN_mul (dirP x y).1 (dirP x y).2 (stp x y)
  rw [h1, h2, hab] at hG
  have hone : gN (dirP x y).1 (dirP x y).2 = 1 := by
    have : gN (dirP x y).1 (dirP x y).2 * gN x y = 1 * gN x y := by omega
    exact Nat.eq_of_mul_eq_mul_right hg this
  rw [isDir_iff]
  refine ⟨?_, hone⟩
  generalize hp : dirP x y = d at *
  obtain ⟨a, b⟩ := d
  simp only at h1 h2 hone ⊢
  cases hd : down x y
  · have e : stp x y = gN x y := by unfold stp; rw [hd]; rfl
    rw [down_no] at hd
    have hpos : 0 < stp x y := by omega
    have hb : 0 ≤ b := by
      rcases Int.lt_or_le b 0 with q | q
      · have := Int.mul_neg_of_neg_of_pos q hpos; omega
      · exact q
    rcases Int.lt_or_eq_of_le hb with q | q
    · exact .inl q
    · right
      refine ⟨q.symm, ?_⟩
      subst q
      have ha : 0 < a := by
        rcases Int.lt_or_le 0 a with q | q
        · exact q
        · have := Int.mul_nonpos_of_nonpos_of_nonneg q (Int.le_of_lt hpos)
          rw [Int.zero_mul] at h2
          omega
      unfold gN at hone
      simp at hone
      omega
  · have e : stp x y = -(gN x y : Int) := by unfold stp; rw [hd]; rfl
    rw [down_iff] at hd
    have hneg : stp x y < 0 := by omega
    have hb : 0 ≤ b := by
      rcases Int.lt_or_le b 0 with q | q
      · have := Int.mul_pos_of_neg_of_neg q hneg; omega
      · exact q
    rcases Int.lt_or_eq_of_le hb with q | q
    · exact .inl q
    · right
      refine ⟨q.symm, ?_⟩
      subst q
      have ha : 0 < a := by
        rcases Int.lt_or_le 0 a with q | q
        · exact q
        · have := Int.mul_nonneg_of_nonpos_of_nonpos q (Int.le_of_lt hneg)
          rw [Int.zero_mul] at h2
          omega
      unfold gN at hone
      simp at hone
      omega
/-- A direction that leads along a difference is its direction. -/
theorem dir_eq {x y a b k : Int} (hk : k ≠ 0) (hd : isDir a b = true) (hx : a * k = x) (hy : b * k = y) : dirP x y = (a, b) ∧ stp x y = k := by
  rw [isDir_iff] at hd
  obtain ⟨h1, h2⟩ := hd
  have hg : gN x y = k.natAbs := by rw [← hx, ← hy, gN_mul, h2, Nat.one_mul]
  have hs : stp x y = k := by
    unfold stp
    cases hdn : down x y
    · rw [down_no] at hdn
      simp only [cond_false]
      rcases Int.lt_or_le k 0 with q | q
      · exfalso; apply hdn
        rcases h1 with p | ⟨p, p'⟩
        · left; rw [← hy]; exact Int.mul_neg_of_pos_of_neg p q
        · right; refine ⟨by rw [← hy, p, Int.zero_mul], by rw [← hx, p']; omega⟩
      · omega
    · rw [down_iff] at hdn
      simp only [cond_true]
      rcases Int.lt_or_le 0 k with q | q
      · exfalso
        rcases h1 with p | ⟨p, p'⟩
        · have := Int.mul_pos p q; omega
        · subst p p'; simp at hx hy; omega
      · omega
  refine ⟨?_, hs⟩
  unfold dirP
  rw [hs, ← hx, ← hy, Int.mul_tdiv_cancel _ hk, Int.mul_tdiv_cancel _ hk]
/-- The model's sign of the steps. -/
theorem stp_model {x y : Int} (h : ¬ (x = 0 ∧ y = 0)) : stp x y = if x = (dirP x y).1 * (gN x y : Int) ∧ y = (dirP x y).2 * (gN x y : Int) then (gN x y : Int) else -(gN x y : Int) := by
  obtain ⟨h1, h2⟩ := dir_mul x y
  have hg := gN_pos h
  rcases (show stp x y = gN x y ∨ stp x y = -(gN x y : Int) by unfold stp; cases down x y <;> simp) with e | e
  · rw [if_pos ⟨by rw [← e, h1], by rw [← e, h2]⟩, e]
  · rw [e]
    split
    case isTrue q =>
      exfalso
      rw [e] at h1 h2
      obtain ⟨q1, q2⟩ := q
      rw [Int.mul_neg] at h1 h2
      exact h ⟨by omega, by omega⟩
    case isFalse => rfl
/-- The model's direction: divide by the common divisor, then turn if it leads down. -/
theorem dir_model {x y : Int} (h : ¬ (x = 0 ∧ y = 0)) : dirP x y = bif down (x.tdiv (gN x y)) (y.tdiv (gN x y)) then (-(x.tdiv (gN x y)), -(y.tdiv (gN x y))) else (x.tdiv (gN x y), y.tdiv (gN x y)) := by
  have hg := gN_pos h
  obtain ⟨e1, e2⟩ := gN_dvd x y
  have m1 := Int.tdiv_mul_cancel e1
  have m2 := Int.tdiv_mul_cancel e2
  have hd : down (x.tdiv (gN x y)) (y.tdiv (gN x y)) = down x y := by
    have hgi : (0 : Int) < (gN x y : Int) := by omega
    generalize hqx : x.tdiv (gN x y) = qx at *
    generalize hqy : y.tdiv (gN x y) = qy at *
    rw [Bool.eq_iff_iff, down_iff, down_iff]
    have s1 : qy < 0 ↔ y < 0 := by
      rw [← m2]; constructor
      · exact fun q => Int.mul_neg_of_neg_of_pos q hgi
      · intro q
        rcases Int.lt_or_le qy 0 with p | p
        · exact p
        · have := Int.mul_nonneg p (Int.le_of_lt hgi); omega
    have s2 : qx < 0 ↔ x < 0 := by
      rw [← m1]; constructor
      · exact fun q => Int.mul_neg_of_neg_of_pos q hgi
      · intro q
        rcases Int.lt_or_le qx 0 with p | p
        · exact p
        · have := Int.mul_nonneg p (Int.le_of_lt hgi); omega
    have s3 : qy = 0 ↔ y = 0 := by
      rw [← m2]; constructor
      · intro q; rw [q, Int.zero_mul]
      · intro q; rcases Int.mul_eq_zero.1 q with p | p
        · exact p
        · omega
    rw [s1, s2, s3]
  rw [hd]
  unfold dirP stp
  cases down x y
  · rfl
  · simp only [cond_true, Int.tdiv_neg]
theorem dir_small {x y : Int} {m : Nat} (h : ¬ (x = 0 ∧ y = 0)) (hx : x.natAbs ≤ m) (hy : y.natAbs ≤ m) : (dirP x y).1.natAbs ≤ m ∧ (dirP x y).2.natAbs ≤ m := by
  obtain ⟨h1, h2⟩ := dir_mul x y
  have hs := stp_ne h
  have q : 1 ≤ (stp x y).natAbs := by omega
  have a1 := congrArg Int.natAbs h1
  have a2 := congrArg Int.natAbs h2
  rw [Int.natAbs_mul] at a1 a2
  have b1 := Nat.le_mul_of_pos_right (dirP x y).1.natAbs q
  have b2 := Nat.le_mul_of_pos_right (dirP x y).2.natAbs q
  omega
/-! ### Ordered lists of directions with measures -/
abbrev Ms := List ((Int × Int) × Int)
def befZ (a b : Int × Int) : Bool := decide (a.2 < b.2) || (a.2 == b.2 && decide (a.1 < b.1))
theorem befZ_iff (a b : Int × Int) : befZ a b = true ↔ a.2 < b.2 ∨ (a.2 = b.2 ∧ a.1 < b.1) := by simp [befZ]
theorem befZ_no (a b : Int × Int) : befZ a b = false ↔ ¬ (a.2 < b.2 ∨ (a.2 = b.2 ∧ a.1 < b.1)) := by rw [← befZ_iff, Bool.not_eq_true]
theorem befZ_trans {a b c : Int × Int} (h1 : befZ a b = true) (h2 : befZ b c = true) : befZ a c = true := by
  rw [befZ_iff] at *; omega
theorem befZ_irr (a : Int × Int) : befZ a a = false := by rw [befZ_no]; omega
theorem befZ_total {a b : Int × Int} (h : a ≠ b) : befZ a b = true ∨ befZ b a = true := by
  rw [befZ_iff, befZ_iff]
  rcases a with ⟨a1, a2⟩; rcases b with ⟨b1, b2⟩
  have : ¬ (a1 = b1 ∧ a2 = b2) := fun e => h (by rw [e.1, e.2])
  simp only
  omega
/-- Puts a measure into an ordered list, or adds it to that of the same direction. -/
def putM : Ms → (Int × Int) → Int → Ms
  | [], d, n => if n = 0 then [] else [(d, n)]
  | a :: M, d, n => bif befZ a.1 d then a :: putM M d n else if a.1 = d then (if n + a.2 = 0 then M else (d, n + a.2) :: M) else (if n = 0 then a :: M else (d, n) :: a :: M)
/-- Ordered, each once, no measure zero. -/
def OrdM (M : Ms) : Prop := M.Pairwise (fun a b => befZ a.1 b.1 = true) ∧ ∀ a ∈ M, a.2 ≠ 0
def valM (M : Ms) (d : Int × Int) : Int := match M with
  | [] => 0
  | a :: M => if a.1 = d then a.2 else valM M d
theorem valM_none {M : Ms} {d : Int × Int} (h : ∀ a ∈ M, a.1 ≠ d) : valM M d = 0 := by
  induction M with
  | nil => rfl
  | cons a M ih => rw [valM, if_neg (h a (by simp))]; exact ih fun b hb => h b (by simp [hb])
theorem valM_mem {M : Ms} (h : OrdM M) {a : (Int × Int) × Int} (ha : a ∈ M) : valM M a.1 = a.2 := by
  induction M with
  | nil => cases ha
  | cons b M ih =>
    rcases List.mem_cons.1 ha with rfl | hm
    · rw [valM, if_pos rfl]
    · have hb := (List.pairwise_cons.1 h.1).1 a hm
      rw [valM, if_neg (fun e => by rw [e, befZ_irr] at hb; cases hb)]
      exact ih ⟨(List.pairwise_cons.1 h.1).2, fun c hc => h.2 c (by simp [hc])⟩ hm
theorem valM_iff {M : Ms} (h : OrdM M) (d : Int × Int) : valM M d ≠ 0 ↔ d ∈ M.map Prod.fst := by
  constructor
  · intro hv
    rcases Classical.em (d ∈ M.map Prod.fst) with q | q
    · exact q
    · exact absurd (valM_none fun a ha e => q (List.mem_map.2 ⟨a, ha, e⟩)) hv
  · intro hm
    obtain ⟨a, ha, rfl⟩ := List.mem_map.1 hm
    rw [valM_mem h ha]; exact h.2 a ha
theorem putM_keys {M : Ms} {d : Int × Int} {n : Int} {a : (Int × Int) × Int} (h : a ∈ putM M d n) : a.1 = d ∨ a ∈ M := by
  induction M with
  | nil =>
    unfold putM at h
    split at h
    · cases h
    · rw [List.mem_singleton.1 h]; exact .inl rfl
  | cons b M ih =>
    unfold putM at h
    cases hb : befZ b.1 d
    · rw [hb] at h; simp only [cond_false] at h
      split at h
      · split at h
        · exact .inr (by simp [h])
        · rcases List.mem_cons.1 h with rfl | q
          · exact .inl rfl
          · exact .inr (by simp [q])
      · split at h
        · exact .inr h
        · rcases List.mem_cons.1 h with rfl | q
          · exact .inl rfl
          · exact .inr q
    · rw [hb] at h; simp only [cond_true] at h
      rcases List.mem_cons.1 h with rfl | q
      · exact .inr (by simp)
      · rcases ih q with q | q
        · exact .inl q
        · exact .inr (by simp [q])
theorem putM_ord {M : Ms} (h : OrdM M) (d : Int × Int) (n : Int) : OrdM (putM M d n) := by
  induction M with
  | nil =>
    unfold putM
    split
    · exact h
    · rename_i hn
      exact ⟨by simp, fun a ha => by rw [List.mem_singleton.1 ha]; exact hn⟩
  | cons b M ih =>
    have hp := List.pairwise_cons.1 h.1
    have h' : OrdM M := ⟨hp.2, fun c hc => h.2 c (by simp [hc])⟩
    unfold putM
    cases hb : befZ b.1 d
    · simp only [cond_false]
      split
      · rename_i he
        split
        · exact h'
        · rename_i hn
          refine ⟨List.pairwise_cons.2 ⟨fun c hc => by have := hp.1 c hc; rw [he] at this; exact this, hp.2⟩, fun c hc => ?_⟩
          rcases List.mem_cons.1 hc with rfl | q
          · exact hn
          · exact h.2 c (by simp [q])
      · rename_i he
        split
        · exact h
        · rename_i hn
          have hdb : befZ d b.1 = true := by
            rcases befZ_total he with q | q
            · rw [hb] at q; cases q
            · exact q
          refine ⟨List.pairwise_cons.2 ⟨fun c hc => ?_, h.1⟩, fun c hc => ?_⟩
          · rcases List.mem_cons.1 hc with rfl | q
            · exact hdb
            · exact befZ_trans hdb (hp.1 c q)
          · rcases List.mem_cons.1 hc with rfl | q
            · exact hn
            · exact h.2 c q
    · simp only [cond_true]
      have hi := ih h'
      refine ⟨List.pairwise_cons.2 ⟨fun c hc => ?_, hi.1⟩, fun c hc => ?_⟩
      · rcases putM_keys hc with q | q
        · rw [q]; exact hb
        · exact hp.1 c q
      · rcases List.mem_cons.1 hc with rfl | q
        · exact h.2 c (by simp)
        · exact hi.2 c q
theorem valM_put {M : Ms} (h : OrdM M) (d : Int × Int) (n : Int) (e : Int × Int) : valM (putM M d n) e = valM M e + if e = d then n else 0 := by
  induction M with
  | nil =>
    unfold putM
    split
    · rename_i hn; subst hn; simp [valM]
    · rename_i hn
      simp only [valM]
      by_cases q : d = e
      · subst q; simp
      · rw [if_neg q, if_neg (Ne.symm q)]; rfl
  | cons b M ih =>
    have hp := List.pairwise_cons.1 h.1
    have h' : OrdM M := ⟨hp.2, fun c hc => h.2 c (by simp [hc])⟩
    unfold putM
    cases hb : befZ b.1 d
    · simp only [cond_false]
      split
      · rename_i he
        subst he
        have hno : ∀ a ∈ M, a.1 ≠ b.1 := fun a ha q => by have := hp.1 a ha; rw [q, befZ_irr] at this; cases this
        split
        · rename_i hn
          by_cases q : e = b.1
          · subst q
            rw [valM_none hno, valM, if_pos rfl, if_pos rfl]; omega
          · rw [valM, if_neg (Ne.symm q), if_neg q]; omega
        · by_cases q : e = b.1
          · subst q
            simp only [valM, if_pos]; omega
          · rw [valM, valM, if_neg (Ne.symm q), if_neg (Ne.symm q), if_neg q]; omega
      · rename_i he
        have hdb : befZ d b.1 = true := by
          rcases befZ_total he with q | q
          · rw [hb] at q; cases q
          · exact q
        have hno : ∀ a ∈ b :: M, a.1 ≠ d := fun a ha q => by
          rcases List.mem_cons.1 ha with rfl | hm
          · exact he q
          · have := befZ_trans hdb (hp.1 a hm); rw [q, befZ_irr] at this; cases this
        split
        · rename_i hn; subst hn; simp
        · by_cases q : e = d
          · subst q
            rw [valM, if_pos rfl, if_pos rfl, valM_none hno]; omega
          · rw [valM, if_neg (Ne.symm q), if_neg q]; omega
    · simp only [cond_true]
      rw [valM, valM, ih h']
      split
      · rename_i he
        subst he
        rw [if_neg (fun q => by rw [q, befZ_irr] at hb; cases hb)]; omega
      · rfl
/-- Two ordered lists that tell the same for every direction are equal. -/
theorem ordM_ext {M : Ms} : ∀ {N : Ms}, OrdM M → OrdM N → (∀ d, valM M d = valM N d) → M = N := by
  induction M with
  | nil =>
    intro N _ hN h
    cases N with
    | nil => rfl
    | cons b N =>
      have := h b.1
      rw [valM, valM, if_pos rfl] at this
      exact absurd this.symm (hN.2 b (by simp))
  | cons a M ih =>
    intro N hM hN h
    have hp := List.pairwise_cons.1 hM.1
    cases N with
    | nil =>
      have := h a.1
      rw [valM, valM, if_pos rfl] at this
      exact absurd this (hM.2 a (by simp))
    | cons b N =>
      have hq := List.pairwise_cons.1 hN.1
      have hab : a.1 = b.1 := by
        rcases Classical.em (a.1 = b.1) with e | e
        · exact e
        · exfalso
          rcases befZ_total e with q | q
          · have hv := h a.1
            rw [valM, if_pos rfl, valM_none (fun c hc => ?_)] at hv
            · exact hM.2 a (by simp) hv
            · rcases List.mem_cons.1 hc with rfl | hm
              · exact Ne.symm e
              · intro r; have := befZ_trans q (hq.1 c hm); rw [r, befZ_irr] at this; cases this
          · have hv := h b.1
            rw [valM_none (fun c hc => ?_), valM, if_pos rfl] at hv
            · exact hN.2 b (by simp) hv.symm
            · rcases List.mem_cons.1 hc with rfl | hm
              · exact e
              · intro r; have := befZ_trans q (hp.1 c hm); rw [r, befZ_irr] at this; cases this
      have hv := h a.1
      rw [valM, if_pos rfl, hab, valM, if_pos rfl] at hv
      obtain ⟨a1, a2⟩ := a; obtain ⟨b1, b2⟩ := b
      simp only at hab hv
      subst hab hv
      congr 1
      refine ih ⟨hp.2, fun c hc => hM.2 c (by simp [hc])⟩ ⟨hq.2, fun c hc => hN.2 c (by simp [hc])⟩ (fun d => ?_)
      have hd := h d
      rw [valM, valM] at hd
      simp only at hd
      by_cases q : a1 = d
      · subst q
        rw [valM_none (fun c hc r => by have := hp.1 c hc; rw [r, befZ_irr] at this; cases this), valM_none (fun c hc r => by have := hq.1 c hc; rw [r, befZ_irr] at this; cases this)]
      · rw [if_neg q, if_neg q] at hd; exact hd
theorem ordM_nil : OrdM [] := ⟨List.Pairwise.nil, fun _ h => by cases h⟩
theorem putM_len (M : Ms) (d : Int × Int) (n : Int) : (putM M d n).length ≤ M.length + 1 := by
  induction M with
  | nil => unfold putM; split <;> simp
  | cons b M ih =>
    unfold putM
    cases befZ b.1 d
    · simp only [cond_false]
      split
      · split
        · simp only [List.length_cons]; omega
        · simp only [List.length_cons]; omega
      · split <;> simp only [List.length_cons] <;> omega
    · simp only [cond_true, List.length_cons]; omega
end Go.Proofs.Ytbmeemmihkedoaa
