/-
  Maps whose keys are structs of two ints: what such a key reads as.
-/
import Derived.Test.YtbmeemmihkedoaaPt
import Derived.Maps.OwnSet
import Derived.Maps.RangeWalk
import Derived.DeepKeys4
namespace Go.Proofs.Ytbmeemmihkedoaa
open Go.RowKit
open Go.Maps (Keyed)

/-- What a key reads as. -/
def kl (a b : Int) : Lit := .string (keyBytes [.int .i64 a, .int .i64 b])
def wf64 (a : Int) : Prop := (Lit.int .i64 a).wf = true
/-- A struct of two ints, as the program's table has it. -/
structure TwoInts (P : Program) (k i : TypeId) : Prop where
  row : ∃ f0 f1 : Field, P.underlying k = some (.struct #[f0, f1]) ∧ f0.type = i ∧ f1.type = i ∧ f0.offset = 0 ∧ f1.offset = 1 ∧ (f0.name != "_") = true ∧ (f1.name != "_") = true
  key : P.keyType k = true
  two : P.cellsOf k = 2
  one : P.cellsOf i = 1
  int : P.underlying i = some (.int .i64)
  size : ∃ n, P.types.size + 1 = n + 2
theorem lits_of {P : Program} {k i : TypeId} (T : TwoInts P k i) (n : Nat) (x y : Value) : P.keyLits (n + 2) k [x, y] = ((P.keyLits (n + 1) i [x]).bind fun l => (P.keyLits (n + 1) i [y]).map fun m => [l, m]).map List.flatten := by
  obtain ⟨f0, f1, hu, h0, h1, o0, o1, n0, n1⟩ := T.row
  have ht := T.two
  have ho := T.one
  obtain ⟨X, hX⟩ : ∃ X, P.keyLits (n + 1) i [x] = X := ⟨_, rfl⟩
  obtain ⟨Y, hY⟩ : ∃ Y, P.keyLits (n + 1) i [y] = Y := ⟨_, rfl⟩
  rw [hX, hY]
  conv => lhs; unfold Program.keyLits
  rw [hu]
  simp only [ht]
  simp [n0, n1, h0, h1, o0, o1, ho, List.mapM_cons, List.mapM_nil, hX, hY]
  cases X <;> cases Y <;> rfl
theorem lit_int {P : Program} {k i : TypeId} (T : TwoInts P k i) (n : Nat) {a : Int} (ha : wf64 a) : P.keyLits (n + 1) i [.int .i64 a] = some [.int .i64 a] := by
  unfold wf64 at ha
  unfold Program.keyLits
  rw [T.int]
  simp [ha]
theorem lit_int_inv {P : Program} {k i : TypeId} (T : TwoInts P k i) (n : Nat) {v : Value} {l : List Lit} (h : P.keyLits (n + 1) i [v] = some l) : ∃ a, v = .int .i64 a ∧ l = [.int .i64 a] ∧ wf64 a := by
  unfold Program.keyLits at h
  rw [T.int] at h
  cases v <;> simp at h
  obtain ⟨⟨rfl, hw⟩, rfl⟩ := h
  exact ⟨_, rfl, rfl, hw⟩
theorem key_of {P : Program} {k i : TypeId} (T : TwoInts P k i) {a b : Int} (ha : wf64 a) (hb : wf64 b) : keyOf P k (.agg #[.int .i64 a, .int .i64 b]) = some (kl a b) := by
  obtain ⟨n, hn⟩ := T.size
  obtain ⟨f0, f1, hu, -⟩ := T.row
  have hf : (Value.agg #[.int .i64 a, .int .i64 b]).formed P k = true := by simp [Value.formed, hu, T.two]
  unfold keyOf
  rw [hu]
  simp only [T.key, hf, Bool.and_self, if_true, hn]
  show ((P.keyLits (n + 2) k [.int .i64 a, .int .i64 b]).map fun ls => Lit.string (keyBytes ls)) = _
  rw [lits_of T, lit_int T n ha, lit_int T n hb]
  rfl
theorem key_inv {P : Program} {k i : TypeId} (T : TwoInts P k i) {v : Value} {l : Lit} (h : keyOf P k v = some l) : ∃ a b, v = (.agg #[.int .i64 a, .int .i64 b]) ∧ l = kl a b ∧ wf64 a ∧ wf64 b := by
  obtain ⟨n, hn⟩ := T.size
  obtain ⟨f0, f1, hu, -⟩ := T.row
  unfold keyOf at h
  rw [hu] at h
  simp only [T.key, Bool.true_and, hn] at h
  split at h
  case isFalse => cases h
  case isTrue hf =>
    cases v <;> simp [Value.formed, hu, T.two] at hf
    rename_i cs
    obtain ⟨x, y, rfl⟩ : ∃ x y, cs = #[x, y] := by
      rcases cs with ⟨_ | ⟨x, _ | ⟨y, _ | ⟨z, r⟩⟩⟩⟩ <;> simp at hf ⊢
    have e : (Value.agg #[x, y]).cells.toList = [x, y] := rfl
    rw [e, lits_of T] at h
    cases h1 : P.keyLits (n + 1) i [x] with
    | none => rw [h1] at h; cases h
    | some l1 =>
      cases h2 : P.keyLits (n + 1) i [y] with
      | none => rw [h1, h2] at h; cases h
      | some l2 =>
        obtain ⟨a, rfl, rfl, wa⟩ := lit_int_inv T n h1
        obtain ⟨b, rfl, rfl, wb⟩ := lit_int_inv T n h2
        rw [h1, h2] at h
        simp at h
        exact ⟨a, b, rfl, h.symm, wa, wb⟩
theorem pr_laidOut : laidOutB Try.prog = true := by kernel_rfl
theorem pr_row : (139 : TypeId) < Try.prog.types.size := of_decide_eq_true (by kernel_rfl)
theorem pr_at : Try.prog.keyTypeAt 2 139 = true := by kernel_rfl
theorem pr_law : WideMaps.KeyLaw Try.prog 139 := deep_law_laid (m := 2) pr_laidOut (by omega) pr_row pr_at (by rw [Try.underlying139])
theorem pr_keyed : Keyed Try.prog 139 := Keyed.of_law pr_law
theorem pr_is : Try.prog.keyType 139 = true := by kernel_rfl
theorem pr_cells : Try.prog.cellsOf 139 = 2 := by kernel_rfl
theorem pr_cellI : Try.prog.cellsOf 3 = 1 := by kernel_rfl
theorem pr_size : ∃ n, Try.prog.types.size + 1 = n + 2 := ⟨Try.prog.types.size - 1, by have h : 0 < Try.prog.types.size := Nat.lt_of_le_of_lt (Nat.zero_le _) pr_row; omega⟩
theorem pr_two : TwoInts Try.prog 139 3 := ⟨⟨_, _, Try.underlying139, rfl, rfl, rfl, rfl, rfl, rfl⟩, pr_is, pr_cells, pr_cellI, Try.underlying3, pr_size⟩
theorem pr_key {a b : Int} (ha : wf64 a) (hb : wf64 b) : keyOf Try.prog 139 (.agg #[.int .i64 a, .int .i64 b]) = some (kl a b) := key_of pr_two ha hb
theorem pr_inv {v : Value} {l : Lit} (h : keyOf Try.prog 139 v = some l) : ∃ a b, v = (.agg #[.int .i64 a, .int .i64 b]) ∧ l = kl a b ∧ wf64 a ∧ wf64 b := key_inv pr_two h
theorem kl_inj {a b c d : Int} (ha : wf64 a) (hb : wf64 b) (hc : wf64 c) (hd : wf64 d) (h : kl a b = kl c d) : a = c ∧ b = d := by
  have := pr_keyed.inj (pr_key ha hb) ((pr_key hc hd).trans (by rw [h]))
  simpa using this
end Go.Proofs.Ytbmeemmihkedoaa
