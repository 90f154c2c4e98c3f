/-
  Slices of ints: slices.Index, slices.Contains, haveBothSides.
-/
import Derived.Test.YtoemmaeglhdjnaaStraight
namespace Go.Proofs.Ytoemmaeglhdjnaa
open Go.RowKit

/-- The cells of a slice of ints. -/
def ints (M : List Int) : List Value := M.map fun n => .int .i64 n
theorem ints_len (M : List Int) : (ints M).length = M.length := by simp [ints]
theorem ints_snoc (M : List Int) (n : Int) : ints (M ++ [n]) = ints M ++ [.int .i64 n] := by simp [ints]
def IntsA (w : World) (A : Option Addr) (M : List Int) : Prop := ∀ k (h : k < M.length), ∃ g, A = some ⟨g, 0, none⟩ ∧ w.cell? ⟨g, k, none⟩ = some (.int .i64 M[k])
theorem intsA_on {w w' : World} {A : Option Addr} {M : List Int} (h : IntsA w A M) (hb : Below w.heap.size w w') : IntsA w' A M := fun k hk => by
  obtain ⟨g, hA, h1⟩ := h k hk
  exact ⟨g, hA, cell_on hb rfl h1⟩
theorem own_ints {w : World} {B : Nat} {e : TypeId} {v : Value} {n : Nat} {M : List Int} (h : w.ownsRow B e 1 v n (ints M)) :
    n = M.length ∧ ∃ A c, v = .slice A M.length c ∧ IntsA w A M := by
  have hl : M.length = n := by have := h.1; rw [ints_len] at this; omega
  refine ⟨hl.symm, ?_⟩
  subst hl
  rcases h.2 with ⟨rfl, h0⟩ | ⟨g, cap, cur, rfl, hg, hh, _⟩
  · exact ⟨none, 0, by rw [h0], fun k hk => by omega⟩
  · refine ⟨some ⟨g, 0, none⟩, cap, rfl, fun k hk => ⟨g, rfl, ?_⟩⟩
    rw [h.cellAt k (by omega)]
    simp [ints, hk]
def IxAt (M : List Int) (x z : Int) : Prop := (z = -1 ∧ x ∉ M) ∨ ∃ k : Nat, k < M.length ∧ z = k ∧ x ∈ M
def bothB (M : List Int) : Bool := decide ((1 : Int) ∈ M) && decide ((-1 : Int) ∈ M)

/-! ### The least and the greatest of signs -/
def loT (f : Nat → Int) : Nat → Int
  | 0 => 0
  | k + 1 => if f k < loT f k then f k else loT f k
def hiT (f : Nat → Int) : Nat → Int
  | 0 => 0
  | k + 1 => if hiT f k < f k then f k else hiT f k
theorem lohi_aux {f : Nat → Int} (hf : ∀ i, f i = 1 ∨ f i = -1 ∨ f i = 0) : ∀ k, (loT f k = if ∃ j, j < k ∧ f j = -1 then -1 else 0) ∧ (hiT f k = if ∃ j, j < k ∧ f j = 1 then 1 else 0) := by
  intro k
  induction k with
  | zero => simp [loT, hiT]
  | succ k ih =>
    obtain ⟨h1, h2⟩ := ih
    have hs : ∀ c : Int, (∃ j, j < k + 1 ∧ f j = c) ↔ (∃ j, j < k ∧ f j = c) ∨ f k = c := by
      intro c
      constructor
      · rintro ⟨j, hj, e⟩
        rcases Nat.lt_or_ge j k with h | h
        · exact .inl ⟨j, h, e⟩
        · obtain rfl : j = k := by omega
          exact .inr e
      · rintro (⟨j, hj, e⟩ | e)
        · exact ⟨j, by omega, e⟩
        · exact ⟨k, by omega, e⟩
    simp only [loT, hiT, h1, h2, hs]
    constructor
    · by_cases h : ∃ j, j < k ∧ f j = -1
      · rcases hf k with e | e | e <;> simp [h, e]
      · rcases hf k with e | e | e <;> simp [h, e]
    · by_cases h : ∃ j, j < k ∧ f j = 1
      · rcases hf k with e | e | e <;> simp [h, e]
      · rcases hf k with e | e | e <;> simp [h, e]
theorem lohi {f : Nat → Int} (hf : ∀ i, f i = 1 ∨ f i = -1 ∨ f i = 0) (k : Nat) : (loT f k == 0 || hiT f k == 0) = !(bothB ((List.range k).map f)) := by
  obtain ⟨h1, h2⟩ := lohi_aux hf k
  have m1 : ∀ c : Int, c ∈ (List.range k).map f ↔ ∃ j, j < k ∧ f j = c := by intro c; simp
  unfold bothB
  rw [h1, h2]
  simp only [m1]
  by_cases a : ∃ j, j < k ∧ f j = -1 <;> by_cases b : ∃ j, j < k ∧ f j = 1 <;> simp [a, b]
theorem lohi_le {f : Nat → Int} (hf : ∀ i, f i = 1 ∨ f i = -1 ∨ f i = 0) (k : Nat) : (loT f k).natAbs ≤ 1 ∧ (hiT f k).natAbs ≤ 1 := by
  obtain ⟨h1, h2⟩ := lohi_aux hf k
  rw [h1, h2]
  constructor <;> split <;> decide
theorem sgn_three (n : Int) : sgn n = 1 ∨ sgn n = -1 ∨ sgn n = 0 := by
  rcases sgn_cases n with h | h | h
  · exact .inl h.2
  · exact .inr (.inl h.2)
  · exact .inr (.inr h.2)
/-- A function that hands back a new list of ints. -/
def ListsI (w : World) (M : List Int) (e : Ending) (w' : World) : Prop := ∃ v, e = .returned v ∧ w'.ownsRow w.heap.size 3 1 v M.length (ints M) ∧ Below w.heap.size w w'
theorem infoI : (Try.prog.info? 3).map (fun i => (i.zero, i.size, i.bytes)) = some (some (.int .i64 0), 1, 8) := by kernel_rfl
end Go.Proofs.Ytoemmaeglhdjnaa
