/-
  Which texts are shapes: plain.
-/
import Derived.Test.YtimkknljoeiceaaPar8
namespace Go.Proofs.Ytimkknljoeiceaa
open Go.RowKit

def parA (R : List ByteArray) : Nat := (R.getD 0 ⟨#[]⟩).size
def okC (c : UInt8) : Bool := c == 35 || c == 46
def rowsB (a : Nat) (R : List ByteArray) : Bool := R.all fun r => decide (r.size = a) && r.data.toList.all okC
def goodB (R : List ByteArray) : Bool := inB (parA R) 1 6 && (inB R.length 1 6 && rowsB (parA R) R)
def flagP (R : List ByteArray) (i : Nat) : Bool := (R.getD (i / parA R) ⟨#[]⟩).data.toList.getD (i % parA R) 0 == 35
def parM (R : List ByteArray) : Nat := ofF (flagP R) (parA R * R.length)
theorem good_parts {R : List ByteArray} (h : goodB R = true) : (1 ≤ parA R ∧ parA R ≤ 6) ∧ (1 ≤ R.length ∧ R.length ≤ 6) ∧ rowsB (parA R) R = true := by
  unfold goodB at h
  simp only [Bool.and_eq_true, inB_spec] at h
  refine ⟨by omega, by omega, h.2.2⟩
theorem rowsB_at {a : Nat} {R : List ByteArray} (h : rowsB a R = true) {y : Nat} (hy : y < R.length) : (R[y]).size = a ∧ ∀ c ∈ (R[y]).data.toList, c = 35 ∨ c = 46 := by
  unfold rowsB at h
  have := List.all_eq_true.1 h _ (List.getElem_mem hy)
  simp only [Bool.and_eq_true, decide_eq_true_eq] at this
  refine ⟨this.1, fun c hc => ?_⟩
  have := List.all_eq_true.1 this.2 c hc
  simpa [okC] using this
theorem getD_lt {R : List ByteArray} {y : Nat} (hy : y < R.length) : R.getD y ⟨#[]⟩ = R[y] := by simp [hy]
theorem mul36 {a b : Nat} (ha : a ≤ 6) (hb : b ≤ 6) : a * b ≤ 36 := Nat.mul_le_mul ha hb
theorem parM_lt (R : List ByteArray) : parM R < 2 ^ (parA R * R.length) := ofF_lt _ _
theorem shape_of {a b m : Nat} (ha : 1 ≤ a ∧ a ≤ 6) (hb : 1 ≤ b ∧ b ≤ 6) (hm : m < 2 ^ (a * b)) : shapeB a b m = true := by
  unfold shapeB
  simp only [Bool.and_eq_true, inB_spec]
  refine ⟨⟨by omega, by omega⟩, by omega, ?_⟩
  have e : ((a : Int) * (b : Int)).toNat = a * b := by rw [← Int.natCast_mul, Int.toNat_natCast]
  rw [e, pow_cast]; omega
theorem good_rows {R : List ByteArray} (h : goodB R = true) : R = rows8 (parA R) (parM R) R.length := by
  obtain ⟨ha, hb, hr⟩ := good_parts h
  apply List.ext_getElem
  · rw [rows8_len]
  · intro y h1 h2
    have e : (rows8 (parA R) (parM R) R.length)[y]'h2 = rowS8 (parA R) (parM R) y := by simp [rows8]
    rw [e]
    obtain ⟨hsz, hch⟩ := rowsB_at hr h1
    apply ByteArray.ext
    apply Array.toList_inj.1
    rw [rowS8_data]
    apply List.ext_getElem
    · rw [data_len, rowT_len, hsz]
    · intro x h3 h4
      have hx : x < parA R := by rw [data_len, hsz] at h3; exact h3
      have e2 : (rowT (parA R) (parM R) y (parA R))[x]'h4 = mk8 (parM R) (y * parA R + x) := by simp [rowT]
      rw [e2]
      obtain ⟨q1, q2⟩ := row_col (show 0 < parA R by omega) hx (rfl : y * parA R + x = y * parA R + x)
      have hf : (parM R).testBit (y * parA R + x) = (R[y].data.toList[x] == 35) := by
        unfold parM
        rw [testBit_ofF]
        have hin : y * parA R + x < parA R * R.length := in_tab hx h1
        unfold flagP
        rw [q1, q2, getD_lt h1]
        simp only [hin, decide_true, Bool.true_and]
        congr 1
        rw [List.getD_eq_getElem?_getD, List.getElem?_eq_getElem h3]; rfl
      unfold mk8
      rw [hf]
      rcases hch _ (List.getElem_mem h3) with e3 | e3
      · rw [e3]; rfl
      · rw [e3]; rfl
theorem good_fmt {s : ByteArray} (h : goodB (splitB s slash) = true) : fmtV (parA (splitB s slash) : Nat) ((splitB s slash).length : Nat) (parM (splitB s slash) : Nat) = s := by
  have hr := good_rows h
  obtain ⟨ha, hb, _⟩ := good_parts h
  have hj := joinS_split s
  generalize splitB s slash = R at *
  rw [fmt_yes (shape_of ha hb (parM_lt R))]
  have h1 := jl_fmt (a := parA R) (m := parM R) (b := R.length) (by omega) R.length (Nat.le_refl _)
  rw [← hr, hj, Nat.mul_comm] at h1
  rw [← h1]
theorem row_clean (a m y : Nat) : 47 ∉ (rowS8 a m y).data.toList := by
  rw [rowS8_data]
  intro h
  obtain ⟨x, _, e⟩ := List.mem_map.1 h
  unfold mk8 at e
  split at e <;> cases e
theorem fmt_good {s : ByteArray} {a b m : Nat} (ha : 1 ≤ a ∧ a ≤ 6) (hb : 1 ≤ b ∧ b ≤ 6) (hm : m < 2 ^ (a * b)) (h : fmtV a b m = s) : goodB (splitB s slash) = true := by
  have hs : splitB s slash = rows8 a m b := by
    refine split_of_join (by rw [rows8_len]; omega) (fun p hp => ?_) ?_
    · obtain ⟨y, _, rfl⟩ := List.mem_map.1 hp
      exact row_clean a m y
    · rw [rows8_len, jl_fmt (by omega) b (Nat.le_refl _), ← h, fmt_yes (shape_of ha hb hm), Nat.mul_comm]
  rw [hs]
  have hA : parA (rows8 a m b) = a := by
    unfold parA
    rw [rows8_at (by omega), rowS8_size]
  unfold goodB
  rw [hA, rows8_len]
  simp only [Bool.and_eq_true, inB_spec]
  refine ⟨by omega, by omega, ?_⟩
  unfold rowsB
  rw [List.all_eq_true]
  intro r hr
  obtain ⟨y, _, rfl⟩ := List.mem_map.1 hr
  simp only [Bool.and_eq_true, decide_eq_true_eq]
  refine ⟨rowS8_size a m y, ?_⟩
  rw [List.all_eq_true, rowS8_data]
  intro c hc
  obtain ⟨x, _, rfl⟩ := List.mem_map.1 hc
  unfold mk8 okC
  split <;> rfl
theorem good_size {s : ByteArray} (h : goodB (splitB s slash) = true) : s.size ≤ 50 := by
  have hr := good_rows h
  obtain ⟨ha, hb, _⟩ := good_parts h
  have hj := joinS_split s
  have hl := jl_len (splitB s slash) [47] (splitB s slash).length
  rw [hj, data_len] at hl
  generalize splitB s slash = R at *
  have ht := tots_rows (parA R) (parM R) R.length R.length (Nat.le_refl _)
  rw [← hr] at ht
  rw [ht] at hl
  have := mul36 hb.2 ha.2
  simp at hl
  omega
/-! ### the marks of all rows, one after another -/
theorem jl_rows {a : Nat} {R : List ByteArray} (hr : ∀ y (h : y < R.length), (R[y]).size = a) : ∀ k, k ≤ R.length → (jl R [] k).length = k * a
  | 0, _ => by simp [jl]
  | k + 1, h => by
    have ih := jl_rows hr k (by omega)
    have e : jl R [] (k + 1) = jl R [] k ++ (R.getD k ⟨#[]⟩).data.toList := by
      simp only [jl]; split <;> simp
    rw [e, List.length_append, ih, getD_lt (by omega), data_len, hr k (by omega), Nat.add_mul, Nat.one_mul]
theorem jl_marks {a : Nat} {R : List ByteArray} (ha : 0 < a) (hr : ∀ y (h : y < R.length), (R[y]).size = a) : ∀ k, k ≤ R.length → ∀ i, i < k * a → (jl R [] k).getD i 0 = (R.getD (i / a) ⟨#[]⟩).data.toList.getD (i % a) 0
  | 0, _, i, hi => by simp at hi
  | k + 1, h, i, hi => by
    have hl := jl_rows hr k (by omega)
    have e : jl R [] (k + 1) = jl R [] k ++ (R.getD k ⟨#[]⟩).data.toList := by
      simp only [jl]; split <;> simp
    rw [e]
    rcases Nat.lt_or_ge i (k * a) with h' | h'
    · rw [← jl_marks ha hr k (by omega) i h']
      simp only [List.getD_eq_getElem?_getD]
      rw [List.getElem?_append_left (by rw [hl]; exact h')]
    · rw [Nat.add_mul, Nat.one_mul] at hi
      obtain ⟨q1, q2⟩ := row_col ha (show i - k * a < a by omega) (show i = k * a + (i - k * a) by omega)
      rw [q1, q2]
      simp only [List.getD_eq_getElem?_getD]
      rw [List.getElem?_append_right (by rw [hl]; exact h'), hl]
theorem good_marks {R : List ByteArray} (h : goodB R = true) : (jl R [] R.length).length = parA R * R.length ∧ ofF (fun i => (jl R [] R.length).getD i 0 == 35) (parA R * R.length) = parM R := by
  obtain ⟨ha, hb, hr⟩ := good_parts h
  have hs : ∀ y (h : y < R.length), (R[y]).size = parA R := fun y hy => (rowsB_at hr hy).1
  refine ⟨by rw [jl_rows hs _ (Nat.le_refl _), Nat.mul_comm], ?_⟩
  unfold parM
  refine ofF_congr fun i hi => ?_
  unfold flagP
  rw [jl_marks (by omega) hs _ (Nat.le_refl _) i (by rw [Nat.mul_comm]; exact hi)]
theorem rows_size (s : ByteArray) : (splitB s slash).length + tots (splitB s slash) (splitB s slash).length = s.size + 1 := by
  have hj := joinS_split s
  have key : ∀ (L : List ByteArray) (k : Nat), (jl L [47] (k + 1)).length = tots L (k + 1) + k := fun L k => by
    induction k with
    | zero => simp [jl, tots, data_len]
    | succ k ih =>
      have e : jl L [47] (k + 1 + 1) = (jl L [47] (k + 1) ++ [47]) ++ (L.getD (k + 1) ⟨#[]⟩).data.toList := by
        rw [jl, if_neg (by omega)]
      have e2 : tots L (k + 1 + 1) = tots L (k + 1) + (L.getD (k + 1) ⟨#[]⟩).size := rfl
      rw [e, e2, List.length_append, List.length_append, ih, data_len]
      simp
      omega
  have hp := splitS_pos s
  generalize splitB s slash = R at *
  obtain ⟨k, hk⟩ : ∃ k, R.length = k + 1 := ⟨R.length - 1, by omega⟩
  have h2 := key R k
  rw [hk] at hj ⊢
  rw [hj, data_len] at h2
  omega
end Go.Proofs.Ytimkknljoeiceaa
