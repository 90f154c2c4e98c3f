/-
  Parts of a text between slashes, and shapes as texts: plain.
-/
import Derived.Test.YtimkknljoeiceaaFmt8
namespace Go.Proofs.Ytimkknljoeiceaa
open Go.RowKit

def slash : ByteArray := ⟨#[47]⟩
/-- The strings, a slash behind each. -/
def catS (C : List ByteArray) : List UInt8 := C.flatMap (fun x => x.data.toList ++ [47])
theorem catS_snoc (C : List ByteArray) (x : ByteArray) : catS (C ++ [x]) = catS C ++ (x.data.toList ++ [47]) := by simp [catS]
theorem occurs_slash {c : UInt8} : occurs slash c = decide (c = 47) := by
  simp [occurs, slash, Bool.eq_iff_iff]
theorem partS (s : ByteArray) {f k : Nat} (h : f ≤ k) : s.data.toList.take f ++ (s.extract f k).data.toList = s.data.toList.take k := by
  rw [Lib.extract_data]
  have e : s.data.toList.take k = (s.data.toList.take k).take f ++ (s.data.toList.take k).drop f := (List.take_append_drop f _).symm
  rw [e, List.take_take, Nat.min_eq_left h, List.drop_take]
theorem cutsS_cat (s : ByteArray) (k : Nat) : k ≤ s.size → catS (cuts s slash k).1 = s.data.toList.take (cuts s slash k).2 := by
  induction k with
  | zero => intro _; simp [cuts, catS]
  | succ k ih =>
    intro hk
    have hlt : k < s.size := by omega
    have ih' := ih (by omega)
    have hf := (cuts_le s slash k).1
    cases ho : occurs slash s[k]
    · rw [cuts_no hlt ho]; exact ih'
    · rw [cuts_yes hlt ho]
      have hc : s[k] = 47 := by rw [occurs_slash] at ho; simpa using ho
      show catS (_ ++ [_]) = _
      have hl : k < s.data.toList.length := by rw [data_len]; exact hlt
      rw [catS_snoc, ih', ← List.append_assoc, partS s hf]
      show _ = s.data.toList.take (k + 1)
      rw [List.take_succ_eq_append_getElem hl]
      have : s.data.toList[k] = 47 := hc
      rw [this]
theorem jlS_cat (L : List ByteArray) (k : Nat) : (h : k < L.length) → jl L [47] (k + 1) = catS (L.take k) ++ L[k].data.toList := by
  induction k with
  | zero => intro h; rw [jl_first h]; simp [catS, jl]
  | succ k ih =>
    intro h
    have hk : k < L.length := by omega
    rw [jl_next (by omega) h, ih hk, List.take_succ_eq_append_getElem hk, catS_snoc]
    simp
theorem joinS_split (s : ByteArray) : jl (splitB s slash) [47] (splitB s slash).length = s.data.toList := by
  have hf := (cuts_le s slash s.size).1
  have hc := cutsS_cat s s.size (Nat.le_refl _)
  unfold splitB
  obtain ⟨C, hC⟩ : ∃ C, C = (cuts s slash s.size).1 := ⟨_, rfl⟩
  obtain ⟨f, hF⟩ : ∃ f, f = (cuts s slash s.size).2 := ⟨_, rfl⟩
  rw [← hC, ← hF] at hc
  rw [← hF] at hf
  rw [← hC, ← hF]
  have hlen : (C ++ [s.extract f s.size]).length = C.length + 1 := by simp
  rw [hlen, jlS_cat _ C.length (by rw [hlen]; omega)]
  have e1 : (C ++ [s.extract f s.size]).take C.length = C := List.take_left
  have e2 : (C ++ [s.extract f s.size])[C.length]'(by rw [hlen]; omega) = s.extract f s.size := by simp
  rw [e1, e2, hc, partS s hf, List.take_of_length_le (by rw [data_len]; exact Nat.le_refl _)]
/-- No part has a slash. -/
theorem cutsS_clean (s : ByteArray) (k : Nat) : k ≤ s.size → (∀ p ∈ (cuts s slash k).1, 47 ∉ p.data.toList) ∧ 47 ∉ (s.data.toList.take k).drop (cuts s slash k).2 := by
  induction k with
  | zero => intro _; simp [cuts]
  | succ k ih =>
    intro hk
    have hlt : k < s.size := by omega
    obtain ⟨i1, i2⟩ := ih (by omega)
    have hf := (cuts_le s slash k).1
    have hl : k < s.data.toList.length := by rw [data_len]; exact hlt
    cases ho : occurs slash s[k]
    · rw [cuts_no hlt ho]
      refine ⟨i1, ?_⟩
      have hc : ¬ s.data.toList[k] = 47 := by
        rw [occurs_slash, decide_eq_false_iff_not] at ho
        exact ho
      rw [List.take_succ_eq_append_getElem hl, List.drop_append_of_le_length (by rw [List.length_take]; omega)]
      simp only [List.mem_append, List.mem_singleton, not_or]
      exact ⟨i2, fun e => hc e.symm⟩
    · rw [cuts_yes hlt ho]
      refine ⟨fun p hp => ?_, ?_⟩
      · rcases List.mem_append.1 hp with h | h
        · exact i1 p h
        · have e : p = s.extract (cuts s slash k).2 k := by simpa using h
          subst e
          rw [Lib.extract_data]
          rw [List.drop_take] at i2
          exact i2
      · show 47 ∉ (s.data.toList.take (k + 1)).drop (k + 1)
        rw [List.drop_take]; simp
theorem splitS_clean (s : ByteArray) : ∀ p ∈ splitB s slash, 47 ∉ p.data.toList := by
  have h := cutsS_clean s s.size (Nat.le_refl _)
  intro p hp
  unfold splitB at hp
  rcases List.mem_append.1 hp with h' | h'
  · exact h.1 p h'
  · have e : p = s.extract (cuts s slash s.size).2 s.size := by simpa using h'
    subst e
    rw [Lib.extract_data]
    first | exact h.2 | (rw [List.drop_take] at h; exact h.2)
theorem splitS_pos (s : ByteArray) : 0 < (splitB s slash).length := by simp [splitB]
/-- Parts without slashes are found again. -/
theorem catS_cons (x : ByteArray) (C : List ByteArray) : catS (x :: C) = x.data.toList ++ 47 :: catS C := by simp [catS]
theorem first_part {x t : List UInt8} (h : 47 ∉ x) : (x ++ 47 :: t).takeWhile (· != 47) = x ∧ (x ++ 47 :: t).dropWhile (· != 47) = 47 :: t := by
  induction x with
  | nil => simp
  | cons c x ih =>
    simp only [List.mem_cons, not_or] at h
    have hc : (c != 47) = true := by simpa using (Ne.symm h.1)
    have := ih h.2
    simp [List.takeWhile_cons, List.dropWhile_cons, hc, this]
theorem only_part {x : List UInt8} (h : 47 ∉ x) : x.takeWhile (· != 47) = x ∧ x.dropWhile (· != 47) = [] := by
  induction x with
  | nil => simp
  | cons c x ih =>
    simp only [List.mem_cons, not_or] at h
    have hc : (c != 47) = true := by simpa using (Ne.symm h.1)
    have := ih h.2
    simp [List.takeWhile_cons, List.dropWhile_cons, hc, this]
theorem parts_uniq : ∀ (C D : List ByteArray) (x y : ByteArray), (∀ p ∈ C, 47 ∉ p.data.toList) → (∀ p ∈ D, 47 ∉ p.data.toList) → 47 ∉ x.data.toList → 47 ∉ y.data.toList → catS C ++ x.data.toList = catS D ++ y.data.toList → C ++ [x] = D ++ [y]
  | [], [], x, y, _, _, _, _, h => by
    have : x.data.toList = y.data.toList := by simpa [catS] using h
    have e : x = y := by
      apply ByteArray.ext
      exact Array.toList_inj.1 this
    rw [e]
  | [], d :: D, x, y, _, hD, hx, hy, h => by
    exfalso
    rw [catS_cons] at h
    have h1 := (only_part hx).2
    have h2 := (first_part (t := catS D ++ y.data.toList) (hD d (by simp))).2
    have e : x.data.toList = d.data.toList ++ 47 :: (catS D ++ y.data.toList) := by simpa [catS] using h
    rw [e, h2] at h1
    cases h1
  | c :: C, [], x, y, hC, _, hx, hy, h => by
    exfalso
    rw [catS_cons] at h
    have h1 := (only_part hy).2
    have h2 := (first_part (t := catS C ++ x.data.toList) (hC c (by simp))).2
    have e : y.data.toList = c.data.toList ++ 47 :: (catS C ++ x.data.toList) := by simpa [catS] using h.symm
    rw [e, h2] at h1
    cases h1
  | c :: C, d :: D, x, y, hC, hD, hx, hy, h => by
    rw [catS_cons, catS_cons, List.append_assoc, List.append_assoc, List.cons_append, List.cons_append] at h
    have h1 := first_part (t := catS C ++ x.data.toList) (hC c (by simp))
    have h2 := first_part (t := catS D ++ y.data.toList) (hD d (by simp))
    rw [h] at h1
    have e1 := h1.1.symm.trans h2.1
    have e2 := h1.2.symm.trans h2.2
    have e3 : catS C ++ x.data.toList = catS D ++ y.data.toList := by simpa using e2
    have ec : c = d := by
      apply ByteArray.ext
      exact Array.toList_inj.1 e1
    have := parts_uniq C D x y (fun p hp => hC p (by simp [hp])) (fun p hp => hD p (by simp [hp])) hx hy e3
    rw [ec, List.cons_append, List.cons_append, this]
theorem split_of_join {s : ByteArray} {L : List ByteArray} (hL : 0 < L.length) (hc : ∀ p ∈ L, 47 ∉ p.data.toList) (h : jl L [47] L.length = s.data.toList) : splitB s slash = L := by
  have hj := joinS_split s
  rw [← h] at hj
  have hs := splitS_clean s
  have hp := splitS_pos s
  generalize splitB s slash = R at *
  obtain ⟨k, hk⟩ : ∃ k, L.length = k + 1 := ⟨L.length - 1, by omega⟩
  obtain ⟨j, hj'⟩ : ∃ j, R.length = j + 1 := ⟨R.length - 1, by omega⟩
  rw [hk, hj', jlS_cat L k (by omega), jlS_cat R j (by omega)] at hj
  have e1 : R.take j ++ [R[j]'(by omega)] = R := by
    rw [← List.take_succ_eq_append_getElem (by omega), ← hj', List.take_length]
  have e2 : L.take k ++ [L[k]'(by omega)] = L := by
    rw [← List.take_succ_eq_append_getElem (by omega), ← hk, List.take_length]
  rw [← e1, ← e2]
  exact parts_uniq _ _ _ _ (fun p hp => hs p (List.mem_of_mem_take hp)) (fun p hp => hc p (List.mem_of_mem_take hp)) (hs _ (List.getElem_mem _)) (hc _ (List.getElem_mem _)) hj
end Go.Proofs.Ytimkknljoeiceaa
