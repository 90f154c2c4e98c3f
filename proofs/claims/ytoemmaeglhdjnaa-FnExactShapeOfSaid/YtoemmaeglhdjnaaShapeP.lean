/-
  The first one of lists of corners, plain: the model asks all of them, the program those that begin with the first corner.
-/
import Derived.Test.YtoemmaeglhdjnaaMotP
import Derived.Test.YtoemmaeglhdjnaaSameFn
import Derived.Test.YtoemmaeglhdjnaaCmpPt
namespace Go.Proofs.Ytoemmaeglhdjnaa
open Go.RowKit

def befL : List Pt → List Pt → Bool
  | x :: xs, y :: ys => if x = y then befL xs ys else befP x y
  | _, _ => false
def cmpL : List Pt → List Pt → Int
  | x :: xs, y :: ys => if cmpI x y = 0 then cmpL xs ys else cmpI x y
  | _, _ => 0
theorem befP_self (x : Pt) : befP x x = false := by rw [befP_no]; omega
theorem befP_or {x y : Pt} (h : x ≠ y) : befP x y = true ∨ befP y x = true := by
  rw [befP_iff, befP_iff]
  have : ¬ (x.1 = y.1 ∧ x.2 = y.2) := fun e => h (Prod.ext e.1 e.2)
  omega
theorem befP_asymm {x y : Pt} (h : befP x y = true) : befP y x = false := by
  rw [befP_iff] at h; rw [befP_no]; omega
theorem befP_trans {x y z : Pt} (h1 : befP x y = true) (h2 : befP y z = true) : befP x z = true := by
  rw [befP_iff] at *; omega
theorem befP_ne {x y : Pt} (h : befP x y = true) : x ≠ y := fun e => by rw [e, befP_self] at h; cases h
theorem cmpI_zero {x y : Pt} : cmpI x y = 0 ↔ x = y := by
  unfold cmpI
  constructor
  · intro h
    by_cases e : x = y
    · exact e
    · rcases befP_or e with h1 | h1
      · rw [h1] at h; cases h
      · rw [h1, befP_asymm h1] at h; cases h
  · rintro rfl; rw [befP_self]; rfl
theorem cmpI_neg {x y : Pt} : cmpI x y < 0 ↔ befP x y = true := by
  unfold cmpI
  cases h : befP x y
  · cases h2 : befP y x <;> simp
  · simp
theorem befL_self : ∀ a : List Pt, befL a a = false
  | [] => rfl
  | x :: xs => by rw [befL, if_pos rfl]; exact befL_self xs
theorem cmpL_self : ∀ a : List Pt, cmpL a a = 0
  | [] => rfl
  | x :: xs => by rw [cmpL, if_pos (cmpI_zero.2 rfl)]; exact cmpL_self xs
theorem befL_at : ∀ (k : Nat) (a b : List Pt), k < a.length → k < b.length → a.take k = b.take k → gt a k ≠ gt b k → befL a b = befP (gt a k) (gt b k)
  | _, [], _, h, _, _, _ => by simp at h
  | _, _ :: _, [], _, h, _, _ => by simp at h
  | 0, x :: xs, y :: ys, _, _, _, hne => by
    have e1 : gt (x :: xs) 0 = x := rfl
    have e2 : gt (y :: ys) 0 = y := rfl
    rw [e1, e2] at hne ⊢
    rw [befL, if_neg hne]
  | k + 1, x :: xs, y :: ys, h1, h2, ht, hne => by
    simp only [List.take_succ_cons, List.cons.injEq] at ht
    obtain ⟨rfl, ht⟩ := ht
    rw [befL, if_pos rfl]
    exact befL_at k xs ys (by simpa using h1) (by simpa using h2) ht hne
theorem cmpL_at : ∀ (k : Nat) (a b : List Pt), k < a.length → k < b.length → a.take k = b.take k → cmpI (gt a k) (gt b k) ≠ 0 → cmpL a b = cmpI (gt a k) (gt b k)
  | _, [], _, h, _, _, _ => by simp at h
  | _, _ :: _, [], _, h, _, _ => by simp at h
  | 0, x :: xs, y :: ys, _, _, _, hne => by
    have e1 : gt (x :: xs) 0 = x := rfl
    have e2 : gt (y :: ys) 0 = y := rfl
    rw [e1, e2] at hne ⊢
    rw [cmpL, if_neg hne]
  | k + 1, x :: xs, y :: ys, h1, h2, ht, hne => by
    simp only [List.take_succ_cons, List.cons.injEq] at ht
    obtain ⟨rfl, ht⟩ := ht
    rw [cmpL, if_pos (cmpI_zero.2 rfl)]
    exact cmpL_at k xs ys (by simpa using h1) (by simpa using h2) ht hne
theorem cmpL_neg : ∀ a b : List Pt, cmpL a b < 0 ↔ befL a b = true
  | [], b => by simp [cmpL, befL]
  | _ :: _, [] => by simp [cmpL, befL]
  | x :: xs, y :: ys => by
    rw [cmpL, befL]
    by_cases h : x = y
    · rw [if_pos h, if_pos (cmpI_zero.2 h)]; exact cmpL_neg xs ys
    · rw [if_neg h, if_neg (fun e => h (cmpI_zero.1 e))]; exact cmpI_neg
theorem befL_trans : ∀ a b c : List Pt, befL a b = true → befL b c = true → befL a c = true
  | [], _, _, h, _ => by simp [befL] at h
  | _ :: _, [], _, h, _ => by simp [befL] at h
  | _ :: _, _ :: _, [], _, h => by simp [befL] at h
  | x :: xs, y :: ys, z :: zs, h1, h2 => by
    rw [befL] at h1 h2 ⊢
    by_cases e1 : x = y
    · subst e1
      rw [if_pos rfl] at h1
      by_cases e2 : x = z
      · rw [if_pos e2] at h2 ⊢; exact befL_trans xs ys zs h1 h2
      · rw [if_neg e2] at h2 ⊢; exact h2
    · rw [if_neg e1] at h1
      by_cases e2 : y = z
      · subst e2
        rw [if_neg e1]; exact h1
      · rw [if_neg e2] at h2
        have h3 := befP_trans h1 h2
        rw [if_neg (befP_ne h3)]; exact h3
theorem befL_or : ∀ a b : List Pt, a.length = b.length → a ≠ b → befL a b = true ∨ befL b a = true
  | [], [], _, h => absurd rfl h
  | [], _ :: _, h, _ => by simp at h
  | _ :: _, [], h, _ => by simp at h
  | x :: xs, y :: ys, hl, hne => by
    rw [befL, befL]
    by_cases e : x = y
    · subst e
      rw [if_pos rfl, if_pos rfl]
      exact befL_or xs ys (by simpa using hl) (fun e => hne (by rw [e]))
    · rw [if_neg e, if_neg (Ne.symm e)]; exact befP_or e

/-! ### The first one of lists -/
def stepB (c x : List Pt) : List Pt := if befL x c = true then x else c
def minB (c : List Pt) (xs : List (List Pt)) : List Pt := xs.foldl stepB c
def minL : List (List Pt) → List Pt
  | [] => []
  | c :: xs => minB c xs
theorem minB_mem : ∀ (xs : List (List Pt)) (c : List Pt), minB c xs ∈ c :: xs
  | [], c => by simp [minB]
  | x :: xs, c => by
    have h := minB_mem xs (stepB c x)
    rw [show minB c (x :: xs) = minB (stepB c x) xs from rfl]
    rcases List.mem_cons.1 h with h | h
    · rw [h]
      unfold stepB
      split <;> simp
    · exact List.mem_cons_of_mem _ (List.mem_cons_of_mem _ h)
theorem minB_le (n : Nat) : ∀ (xs : List (List Pt)) (c : List Pt), (∀ x ∈ c :: xs, x.length = n) → ∀ x ∈ c :: xs, befL x (minB c xs) = false
  | [], c, _, x, hx => by
    rw [List.mem_singleton.1 hx]; exact befL_self _
  | y :: xs, c, hl, x, hx => by
    have hs : (stepB c y).length = n := by
      unfold stepB
      split
      · exact hl y (by simp)
      · exact hl c (by simp)
    have hl' : ∀ x ∈ stepB c y :: xs, x.length = n := fun z hz => by
      rcases List.mem_cons.1 hz with rfl | hz
      · exact hs
      · exact hl z (List.mem_cons_of_mem _ (List.mem_cons_of_mem _ hz))
    have ih := minB_le n xs (stepB c y) hl'
    rw [show minB c (y :: xs) = minB (stepB c y) xs from rfl]
    have h0 := ih (stepB c y) (by simp)
    have hm : (minB (stepB c y) xs).length = n := hl' _ (minB_mem _ _)
    -- what is not before the kept one is not before the first of all
    have key : ∀ z : List Pt, z.length = n → befL z (stepB c y) = false → befL z (minB (stepB c y) xs) = false := fun z hz h => by
      cases hb : befL z (minB (stepB c y) xs)
      · rfl
      · by_cases e : minB (stepB c y) xs = stepB c y
        · rw [e, h] at hb; cases hb
        · rcases befL_or _ _ (by rw [hm, hs]) e with h1 | h1
          · rw [befL_trans _ _ _ hb h1] at h; cases h
          · rw [h1] at h0; cases h0
    rcases List.mem_cons.1 hx with rfl | hx
    · refine key _ (hl _ (by simp)) ?_
      unfold stepB
      split
      · rename_i h1
        cases hb : befL x y
        · rfl
        · have := befL_trans _ _ _ hb h1
          rw [befL_self] at this; cases this
      · exact befL_self _
    · rcases List.mem_cons.1 hx with rfl | hx
      · refine key _ (hl _ (by simp)) ?_
        unfold stepB
        split
        · exact befL_self _
        · rename_i h1
          simpa using h1
      · exact ih x (List.mem_cons_of_mem _ hx)
/-- Two lists of lists have one first one, if each has the other's. -/
theorem minB_eq {n : Nat} {c d : List Pt} {xs ys : List (List Pt)} (h1 : ∀ x ∈ c :: xs, x.length = n) (h2 : ∀ x ∈ d :: ys, x.length = n) (ha : minB c xs ∈ d :: ys) (hb : minB d ys ∈ c :: xs) : minB c xs = minB d ys := by
  by_cases e : minB c xs = minB d ys
  · exact e
  · rcases befL_or _ _ (by rw [h1 _ (minB_mem _ _), h2 _ (minB_mem _ _)]) e with h | h
    · rw [minB_le n _ _ h2 _ ha] at h; cases h
    · rw [minB_le n _ _ h1 _ hb] at h; cases h

/-! ### All lists of corners of one list, and those from the first corner -/
def minPT (q : List Pt) : Nat → Pt
  | 0 => gt q 0
  | k + 1 => if befP (gt q (k + 1)) (minPT q k) = true then gt q (k + 1) else minPT q k
def minP (q : List Pt) : Pt := minPT q (q.length - 1)
theorem minPT_mem {q : List Pt} : ∀ k, k < q.length → ∃ j, j ≤ k ∧ minPT q k = gt q j
  | 0, _ => ⟨0, Nat.le_refl _, rfl⟩
  | k + 1, h => by
    obtain ⟨j, hj, e⟩ := minPT_mem (q := q) k (by omega)
    rw [minPT]
    split
    · exact ⟨k + 1, Nat.le_refl _, rfl⟩
    · exact ⟨j, by omega, e⟩
theorem minPT_le {q : List Pt} : ∀ k, k < q.length → ∀ j, j ≤ k → befP (gt q j) (minPT q k) = false
  | 0, _, j, hj => by
    obtain rfl : j = 0 := by omega
    exact befP_self _
  | k + 1, h, j, hj => by
    rw [minPT]
    split
    · rename_i h1
      by_cases e : j = k + 1
      · rw [e]; exact befP_self _
      · have := minPT_le (q := q) k (by omega) j (by omega)
        cases hb : befP (gt q j) (gt q (k + 1))
        · rfl
        · rw [befP_trans hb h1] at this; cases this
    · rename_i h1
      by_cases e : j = k + 1
      · rw [e]; simpa using h1
      · exact minPT_le (q := q) k (by omega) j (by omega)
theorem minP_mem {q : List Pt} (h : 0 < q.length) : ∃ j, j < q.length ∧ gt q j = minP q := by
  obtain ⟨j, hj, e⟩ := minPT_mem (q := q) (q.length - 1) (by omega)
  exact ⟨j, by omega, e.symm⟩
theorem minP_le {q : List Pt} {j : Nat} (h : j < q.length) : befP (gt q j) (minP q) = false := minPT_le _ (by omega) j (by omega)
/-- The place of the first corner. -/
def minI' (q : List Pt) : Nat := (List.range q.length).findIdx fun j => decide (gt q j = minP q)
def startM (q : List Pt) : List Pt := rotL q (minI' q)
theorem minI_spec {q : List Pt} (h : 0 < q.length) : minI' q < q.length ∧ gt q (minI' q) = minP q := by
  obtain ⟨j, hj, e⟩ := minP_mem h
  have hlt : minI' q < (List.range q.length).length := List.findIdx_lt_length_of_exists ⟨j, List.mem_range.2 hj, by simpa using e⟩
  refine ⟨by simpa using hlt, ?_⟩
  have := List.findIdx_getElem (w := hlt)
  have e2 : (List.range q.length)[List.findIdx (fun j => decide (gt q j = minP q)) (List.range q.length)] = minI' q := List.getElem_range _
  have h3 := of_decide_eq_true this
  rwa [e2] at h3
theorem turnL_len (L : List Pt) (h : 0 < L.length) : (turnL L).length = L.length := by
  unfold turnL
  rw [turn_len]; omega
def bothK (q : List Pt) (k : Nat) : List (List Pt) := [rotL q k, turnL (rotL q k)]
def allK (q : List Pt) : List (List Pt) := (List.range q.length).flatMap (bothK q)
theorem both_len {q : List Pt} {k : Nat} (h : 0 < q.length) {x : List Pt} (hx : x ∈ bothK q k) : x.length = q.length := by
  simp only [bothK, List.mem_cons, List.not_mem_nil, or_false] at hx
  rcases hx with rfl | rfl
  · exact rotL_len q k
  · rw [turnL_len _ (by rw [rotL_len]; exact h), rotL_len]
theorem both_head {q : List Pt} {k : Nat} (hk : k < q.length) {x : List Pt} (hx : x ∈ bothK q k) : gt x 0 = gt q k := by
  simp only [bothK, List.mem_cons, List.not_mem_nil, or_false] at hx
  rcases hx with rfl | rfl
  · exact rot_head hk
  · rw [turn_head]; exact rot_head hk
def allS (s : List Pt) : List (List Pt) := (List.range 8).flatMap fun m => allK (moveL s m)
def someS (s : List Pt) : List (List Pt) := (List.range 8).flatMap fun m => bothK (moveL s m) (minI' (moveL s m))
def shapeL (s : List Pt) : List Pt := minB (moveL s 0) (allS s)
theorem rotL_zero' (L : List Pt) : rotL L 0 = L := by simp [rotL]
theorem allS_mem {s x : List Pt} : x ∈ allS s ↔ ∃ m, m < 8 ∧ ∃ k, k < s.length ∧ x ∈ bothK (moveL s m) k := by
  simp only [allS, allK, List.mem_flatMap, List.mem_range, moveL_len]
theorem someS_mem {s x : List Pt} : x ∈ someS s ↔ ∃ m, m < 8 ∧ x ∈ bothK (moveL s m) (minI' (moveL s m)) := by
  simp only [someS, List.mem_flatMap, List.mem_range]
theorem gt_eq0 {a b : List Pt} (ha : 0 < a.length) (hb : 0 < b.length) (h : befP (gt a 0) (gt b 0) = true) : befL a b = true := by
  rw [befL_at 0 a b ha hb (by simp) (befP_ne h)]; exact h
/-- The program's lists have the same first one as the model's. -/
theorem shape_some {s : List Pt} (hs : 0 < s.length) (hnd : ∀ m, m < 8 → (moveL s m).Nodup) : minL (someS s) = shapeL s := by
  have hlen : ∀ m, (moveL s m).length = s.length := moveL_len s
  have hne : ∃ d ys, someS s = d :: ys := by
    cases h : someS s with
    | nil =>
      have : rotL (moveL s 0) (minI' (moveL s 0)) ∈ someS s := someS_mem.2 ⟨0, by omega, by simp [bothK]⟩
      rw [h] at this; cases this
    | cons d ys => exact ⟨d, ys, rfl⟩
  obtain ⟨d, ys, e⟩ := hne
  rw [e]
  show minB d ys = minB (moveL s 0) (allS s)
  have h1 : ∀ x ∈ moveL s 0 :: allS s, x.length = s.length := fun x hx => by
    rcases List.mem_cons.1 hx with rfl | hx
    · exact hlen 0
    · obtain ⟨m, _, k, _, hk⟩ := allS_mem.1 hx
      rw [both_len (by rw [hlen]; exact hs) hk, hlen]
  have h2 : ∀ x ∈ d :: ys, x.length = s.length := fun x hx => by
    rw [← e] at hx
    obtain ⟨m, _, hk⟩ := someS_mem.1 hx
    rw [both_len (by rw [hlen]; exact hs) hk, hlen]
  refine (minB_eq h2 h1 ?_ ?_)
  · have h := minB_mem ys d
    rw [← e] at h
    obtain ⟨m, hm, hk⟩ := someS_mem.1 h
    have hi := (minI_spec (q := moveL s m) (by rw [hlen]; exact hs)).1
    rw [hlen] at hi
    exact List.mem_cons_of_mem _ (allS_mem.2 ⟨m, hm, _, hi, hk⟩)
  · rw [← e]
    have h := minB_mem (allS s) (moveL s 0)
    obtain ⟨m, hm, k, hk, hx⟩ : ∃ m, m < 8 ∧ ∃ k, k < s.length ∧ minB (moveL s 0) (allS s) ∈ bothK (moveL s m) k := by
      rcases List.mem_cons.1 h with h | h
      · exact ⟨0, by omega, 0, hs, by rw [h]; simp [bothK, rotL_zero']⟩
      · exact allS_mem.1 h
    have hq : 0 < (moveL s m).length := by rw [hlen]; exact hs
    obtain ⟨hi, hv⟩ := minI_spec hq
    have hkq : k < (moveL s m).length := by rw [hlen]; exact hk
    by_cases ek : k = minI' (moveL s m)
    · exact someS_mem.2 ⟨m, hm, by rw [← ek]; exact hx⟩
    · exfalso
      have hg := both_head hkq hx
      have h3 := minP_le hkq
      have hne : gt (moveL s m) k ≠ gt (moveL s m) (minI' (moveL s m)) := fun e => ek (gt_inj (hnd m hm) hkq hi e)
      have h4 : befP (gt (moveL s m) (minI' (moveL s m))) (gt (moveL s m) k) = true := by
        rcases befP_or hne with h5 | h5
        · rw [hv, h3] at h5; cases h5
        · exact h5
      have hst : rotL (moveL s m) (minI' (moveL s m)) ∈ moveL s 0 :: allS s := List.mem_cons_of_mem _ (allS_mem.2 ⟨m, hm, _, by rw [← hlen m]; exact hi, by simp [bothK]⟩)
      have h6 := minB_le s.length _ _ h1 _ hst
      have h7 := h1 _ (minB_mem _ _)
      rw [gt_eq0 (by rw [rotL_len]; exact hq) (by omega) (by rw [rot_head hi, hg]; exact h4)] at h6
      cases h6
end Go.Proofs.Ytoemmaeglhdjnaa
