/-
  A list of structs of two ints that came in, as the walks ask for it.
-/
import Derived.Test.YtimkknljoeiceaaPair
import Derived.Test.YtimkknljoeiceaaToPts
import Derived.Deep.Slices
import Derived.Deep.Fields
namespace Go.Proofs.Ytimkknljoeiceaa
open Go.Joins Go.ChangeShapes Go.WideShapes Go.RowKit Go.Deep

theorem add_two (a : Addr) (i j : Nat) : (a.add i).add j = a.add (i + j) := by
  unfold Addr.add
  by_cases hj : j = 0
  · subst hj; simp
  · by_cases hi : i = 0
    · subst hi; simp [hj]
    · have : i + j ≠ 0 := by omega
      simp [hj, hi, Nat.add_assoc]
theorem view_pts {H : Type} {enc : TypeId × Value → H} {P : Program} {W : World} {t e : TypeId} {f0 f1 : Field} {fuel : Nat} {A : Option Addr} {n c : Nat} {x : DataW H × List MemPlace}
    (ht : P.underlying t = some (.slice e)) (he : P.underlying e = some (.struct #[f0, f1])) (hone : oneCellFields P #[f0, f1] = true) (hC : P.cellsOf e = 2) (i0 : P.underlying f0.type = some (.int .i64)) (i1 : P.underlying f1.type = some (.int .i64))
    (h : DataW.trod enc P W 0 (fun _ => true) true fuel t [.slice A n c] = some x) : ∃ L : List (Int × Int), n = L.length ∧ ArgA W A L ∧ L.length ≤ maxLen := by
  rcases open_slice ht h with ⟨h1, _⟩ | ⟨a, len, cap, m, n', D, Pl, h1, _, hlc, hcm, hm, _, hcell⟩
  · simp only [List.cons.injEq, Value.slice.injEq, and_true] at h1
    obtain ⟨rfl, rfl, rfl⟩ := h1
    exact ⟨[], rfl, fun k hk => absurd hk (by simp), by simp⟩
  · simp only [List.cons.injEq, Value.slice.injEq, and_true] at h1
    obtain ⟨rfl, rfl, rfl⟩ := h1
    rw [if_pos rfl] at hm
    have key : ∀ i, i < n → ∃ p : Int × Int, W.cell? (a.add (i * 2)) = some (.int .i64 p.1) ∧ W.cell? (a.add (i * 2 + 1)) = some (.int .i64 p.2) := fun i hi => by
      obtain ⟨cs, hc, htr⟩ := hcell i (by omega)
      rw [hC] at hc
      obtain ⟨_, hl, hat⟩ := World.cells?_some hc
      obtain ⟨y0, y1, n1, _, _, t0, t1⟩ := trod_struct2 he htr
      obtain ⟨o0, k0⟩ := hone_of hone 0 f0 rfl
      obtain ⟨o1, k1⟩ := hone_of hone 1 f1 rfl
      match cs, hl with
      | [c0, c1], _ =>
        rw [o0, k0] at t0
        rw [o1, k1] at t1
        obtain ⟨u, hu, _, _⟩ := DataW.trod_int i0 t0
        obtain ⟨v, hv, _, _⟩ := DataW.trod_int i1 t1
        simp only [List.drop_zero, List.take_succ_cons, List.take_zero, List.drop_succ_cons, List.cons.injEq, and_true] at hu hv
        have a0 := hat 0 (by omega)
        have a1 := hat 1 (by omega)
        rw [add_two] at a0 a1
        exact ⟨(u, v), by simpa [hu] using a0, by simpa [hv] using a1⟩
    let f : Nat → Int × Int := fun i => if hi : i < n then Classical.choose (key i hi) else (0, 0)
    have hf : ∀ i (hi : i < n), W.cell? (a.add (i * 2)) = some (.int .i64 (f i).1) ∧ W.cell? (a.add (i * 2 + 1)) = some (.int .i64 (f i).2) := fun i hi => by
      have : f i = Classical.choose (key i hi) := dif_pos hi
      rw [this]
      exact Classical.choose_spec (key i hi)
    refine ⟨(List.range n).map f, by simp, fun k hk => ?_, by simp; omega⟩
    have hk' : k < n := by simpa using hk
    obtain ⟨g1, g2⟩ := hf k hk'
    have hb := World.block_lt_of_cell? W _ g1
    have hbl : (a.add (k * 2)).block = a.block := by unfold Addr.add; split <;> rfl
    rw [hbl] at hb
    exact ⟨a, rfl, hb, by simpa using g1, by simpa using g2⟩
end Go.Proofs.Ytimkknljoeiceaa
