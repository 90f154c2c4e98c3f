/-
  Plain facts on decimal numerals: what a list of digits is worth, and that an int's decimal text is read back.
-/
import Derived.Lib.AtoiAll
import Derived.Lib.ItoaNum
namespace Go.Proofs.YtaaffhiechhbaaaDoor

/-- What the digits l are worth behind the digits that are worth acc. -/
def dstep (a : Nat) (c : UInt8) : Nat := a * 10 + (c.toNat - 48)
def dval (acc : Nat) (l : List UInt8) : Nat := l.foldl dstep acc
theorem dval_nil (acc : Nat) : dval acc [] = acc := List.foldl_nil
theorem dval_cons (acc : Nat) (c : UInt8) (r : List UInt8) : dval acc (c :: r) = dval (acc * 10 + (c.toNat - 48)) r := List.foldl_cons ..
theorem dval_le (l : List UInt8) : ∀ acc : Nat, acc ≤ dval acc l := by
  induction l with
  | nil => intro acc; rw [dval_nil]; exact Nat.le_refl _
  | cons c r ih =>
    intro acc
    rw [dval_cons]
    exact Nat.le_trans (by omega) (ih _)
theorem dval_append (l m : List UInt8) : ∀ acc : Nat, dval acc (l ++ m) = dval (dval acc l) m := by
  induction l with
  | nil => intro acc; rw [List.nil_append, dval_nil]
  | cons c r ih => intro acc; rw [List.cons_append, dval_cons, dval_cons, ih]
theorem dval_snoc (l : List UInt8) (c : UInt8) (acc : Nat) : dval acc (l ++ [c]) = dval acc l * 10 + (c.toNat - 48) := by
  rw [dval_append, dval_cons, dval_nil]
/-- The first part is worth no more than the whole. -/
theorem dval_take (l : List UInt8) (k : Nat) : dval 0 (l.take k) ≤ dval 0 l := by
  have h := dval_append (l.take k) (l.drop k) 0
  rw [List.take_append_drop] at h
  rw [h]
  exact dval_le _ _

theorem dec_big {u : Nat} (h : ¬ u < 10) : Lib.decDigits u = Lib.decDigits (u / 10) ++ [UInt8.ofNat (48 + u % 10)] := by rw [Lib.decDigits, dif_neg h]
theorem dec_small {u : Nat} (h : u < 10) : Lib.decDigits u = [UInt8.ofNat (48 + u)] := by rw [Lib.decDigits, dif_pos h]
theorem of_small {k : Nat} (h : k < 256) : (UInt8.ofNat k).toNat = k := by simp [UInt8.toNat_ofNat, Nat.mod_eq_of_lt h]

theorem dval_dec (n : Nat) : ∀ u, u ≤ n → dval 0 (Lib.decDigits u) = u := by
  induction n with
  | zero =>
    intro u h
    obtain rfl : u = 0 := by omega
    rw [dec_small (by omega)]
    rw [dval_cons, dval_nil, of_small (show 48 + 0 < 256 by omega)]
  | succ n ih =>
    intro u h
    by_cases hs : u < 10
    · rw [dec_small hs]
      rw [dval_cons, dval_nil, of_small (show 48 + u < 256 by omega)]
      omega
    · rw [dec_big hs, dval_snoc, ih (u / 10) (by omega), of_small (show 48 + u % 10 < 256 by omega)]; omega
theorem dec_digits (n : Nat) : ∀ u, u ≤ n → ∀ c ∈ Lib.decDigits u, 48 ≤ c.toNat ∧ c.toNat ≤ 57 := by
  induction n with
  | zero =>
    intro u h c hc
    obtain rfl : u = 0 := by omega
    rw [dec_small (by omega)] at hc
    simp only [List.mem_singleton] at hc
    subst hc
    simp only [of_small (show 48 + 0 < 256 by omega)]; omega
  | succ n ih =>
    intro u h c hc
    by_cases hs : u < 10
    · rw [dec_small hs] at hc
      simp only [List.mem_singleton] at hc
      subst hc
      simp only [of_small (show 48 + u < 256 by omega)]; omega
    · rw [dec_big hs, List.mem_append] at hc
      rcases hc with hc | hc
      · exact ih (u / 10) (by omega) c hc
      · simp only [List.mem_singleton] at hc
        subst hc
        simp only [of_small (show 48 + u % 10 < 256 by omega)]; omega
theorem dec_ne (u : Nat) : Lib.decDigits u ≠ [] := by
  by_cases hs : u < 10
  · rw [dec_small hs]; simp
  · rw [dec_big hs]; simp
theorem dec_len (k : Nat) : ∀ u, u < 10 ^ (k + 1) → (Lib.decDigits u).length ≤ k + 1 := by
  induction k with
  | zero =>
    intro u h
    rw [dec_small (by simpa using h)]; simp
  | succ k ih =>
    intro u h
    by_cases hs : u < 10
    · rw [dec_small hs]; simp
    · rw [dec_big hs]
      have := ih (u / 10) (by rw [Nat.pow_succ] at h; omega)
      simp; omega

theorem parse_ok (l : List UInt8) : ∀ acc : Nat, (∀ c ∈ l, 48 ≤ c.toNat ∧ c.toNat ≤ 57) → dval acc l ≤ 9223372036854775808 → Lib.parseUint10 acc l = .ok (dval acc l) := by
  induction l with
  | nil => intro acc _ _; rw [dval_nil, Lib.parseUint10]
  | cons c r ih =>
    intro acc hd hv
    have h1 := hd c (by simp)
    have h2 := dval_le r (acc * 10 + (c.toNat - 48))
    rw [dval_cons] at hv ⊢
    rw [Lib.parseUint10, if_pos h1, if_neg (by omega), if_neg (by omega)]
    exact ih _ (fun x hx => hd x (by simp [hx])) hv

/-- The decimal text of an int is read back. -/
theorem atoi_itoa (n : Int) (h0 : -9223372036854775808 ≤ n) (h1 : n ≤ 9223372036854775807) : Lib.atoiAll (Lib.itoa n) = .ok n := by
  have key : ∀ u : Nat, u ≤ 9223372036854775808 → Lib.parseMag (Lib.decDigits u) = .ok u := fun u hu => by
    have hv := dval_dec u u (Nat.le_refl _)
    unfold Lib.parseMag
    rw [if_neg (dec_ne u), parse_ok _ _ (dec_digits u u (Nat.le_refl _)) (by rw [hv]; exact hu), hv]
  by_cases hn : n < 0
  · have e : Lib.itoa n = 45 :: Lib.decDigits n.natAbs := by unfold Lib.itoa; rw [if_pos hn]
    rw [e]
    have e45 : (45 : UInt8).toNat = 45 := rfl
    simp only [Lib.atoiAll, e45, or_true, if_true, key n.natAbs (by omega)]
    rw [if_neg (by simp), if_neg (by omega)]
    simp only [Lib.NumEnd.ok.injEq]
    omega
  · have e : Lib.itoa n = Lib.decDigits n.toNat := by unfold Lib.itoa; rw [if_neg hn]
    rw [e]
    have hk := key n.toNat (by omega)
    have hd := dec_digits n.toNat n.toNat (Nat.le_refl _)
    have hne := dec_ne n.toNat
    cases hl : Lib.decDigits n.toNat with
    | nil => exact absurd hl hne
    | cons c r =>
      rw [hl] at hk hd
      have hc := hd c (by simp)
      simp only [Lib.atoiAll]
      rw [if_neg (by omega), hk]
      simp only
      rw [if_neg (by omega), if_neg (by omega), if_neg (by omega)]
      simp only [Lib.NumEnd.ok.injEq]
      omega

/-- s is the decimal text of the int n. -/
def Reads10 (s : List UInt8) (n : Int) : Prop := -9223372036854775808 ≤ n ∧ n ≤ 9223372036854775807 ∧ Lib.itoa n = s
theorem reads_unique {s : List UInt8} {n m : Int} (h : Reads10 s n) (h' : Reads10 s m) : n = m := by
  have e1 := atoi_itoa n h.1 h.2.1
  have e2 := atoi_itoa m h'.1 h'.2.1
  rw [h.2.2] at e1
  rw [h'.2.2, e1] at e2
  injection e2
/-- What is behind the sign of such a text. -/
theorem reads_neg {s : List UInt8} {n : Int} (h : Reads10 (45 :: s) n) : n < 0 ∧ s = Lib.decDigits n.natAbs := by
  obtain ⟨_, _, h3⟩ := h
  unfold Lib.itoa at h3
  split at h3
  · rename_i hn
    injection h3 with _ h3
    exact ⟨hn, h3.symm⟩
  · have := dec_digits n.toNat n.toNat (Nat.le_refl _) 45 (by rw [h3]; simp)
    have e45 : (45 : UInt8).toNat = 45 := rfl
    omega
theorem reads_pos {s : List UInt8} {n : Int} (h : Reads10 s n) (hs : s.head? ≠ some 45) : 0 ≤ n ∧ s = Lib.decDigits n.toNat := by
  obtain ⟨_, _, h3⟩ := h
  unfold Lib.itoa at h3
  split at h3
  · rw [← h3] at hs; simp at hs
  · exact ⟨by omega, h3.symm⟩
theorem dec_bounds {u : Nat} (h : u ≤ 9223372036854775808) : (Lib.decDigits u).length ≤ 19 ∧ dval 0 (Lib.decDigits u) = u :=
  ⟨dec_len 18 u (by omega), dval_dec u u (Nat.le_refl _)⟩
end Go.Proofs.YtaaffhiechhbaaaDoor
