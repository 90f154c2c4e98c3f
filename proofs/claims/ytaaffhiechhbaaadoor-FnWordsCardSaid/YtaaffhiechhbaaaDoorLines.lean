/-
  Walks for SplitLines: spec.SplitLines, impl.SplitLines, laws.FnExactSplitLines.
-/
import Derived.Test.YtaaffhiechhbaaaDoorSplit
import Derived.Test.YtaaffhiechhbaaaDoorName
namespace Go.Proofs.YtaaffhiechhbaaaDoor
open Go.RowKit

/-- The lines of s. -/
def linesB (s : ByteArray) : List ByteArray :=
  if (s.extract (cuts s ⟨#[10]⟩ s.size).2 s.size).size = 0 then (cuts s ⟨#[10]⟩ s.size).1 else splitB s ⟨#[10]⟩

theorem own_cut {w : World} {B : Nat} {e : TypeId} {g m c : Nat} {xs : List Value} {x : Value} (h : w.ownsRow B e 1 (.slice (some ⟨g, 0, none⟩) (m + 1) c) (m + 1) (xs ++ [x])) : w.ownsRow B e 1 (.slice (some ⟨g, 0, none⟩) m c) m xs := by
  have hl : xs.length = m := by have := h.1; simp at this; omega
  rcases h.2 with ⟨h', _⟩ | ⟨g', cap, cur, h', hb, hh, hnc, hcm, hcs, ht⟩
  · simp at h'
  · simp only [Value.slice.injEq, Option.some.injEq, Addr.mk.injEq, and_true, true_and] at h'
    obtain ⟨rfl, rfl⟩ := h'
    refine ⟨by omega, .inr ⟨g, c, cur, rfl, hb, hh, by omega, hcm, hcs, ?_⟩⟩
    have e1 : (cur.toList.take ((m + 1) * 1)).take m = (xs ++ [x]).take m := by rw [ht]
    rw [List.take_take] at e1
    have e2 : min m ((m + 1) * 1) = m * 1 := by omega
    rw [e2, ← hl, List.take_left] at e1
    rw [← hl]
    exact e1
theorem own_last {w : World} {B : Nat} {e : TypeId} {v : Value} {C : List ByteArray} {x : ByteArray} (h : w.ownsRow B e 1 v (C ++ [x]).length ((C ++ [x]).map Value.string)) :
    ∃ g c, v = .slice (some ⟨g, 0, none⟩) (C.length + 1) c ∧ C.length + 1 ≤ c ∧ w.ownsRow B e 1 v (C.length + 1) (C.map Value.string ++ [.string x]) ∧ w.cell? ⟨g, C.length, none⟩ = some (.string x) := by
  have h' : w.ownsRow B e 1 v (C.length + 1) (C.map Value.string ++ [.string x]) := by simpa using h
  rcases h'.2 with ⟨_, h0⟩ | ⟨g, cap, cur, rfl, _, _, hnc, _⟩
  · omega
  · refine ⟨g, cap, rfl, hnc, h', ?_⟩
    rw [h'.cellAt C.length (by omega)]
    simp

def LinesOut (w : World) (s : ByteArray) (e : Ending) (w' : World) : Prop := ∃ v, e = .returned v ∧ w'.ownsRow w.heap.size 9 1 v (linesB s).length ((linesB s).map Value.string) ∧ Below w.heap.size w w'

set_option maxHeartbeats 800000 in
theorem impl_lines (s : ByteArray) (w : World) (hs : s.size ≤ 1048576) :
    Calls Tryd.prog 13 #[.string s] w (LinesOut w s) := by
  have hlen := (cuts_le s ⟨#[10]⟩ s.size).2
  have HL : Hid (linesB s = if (s.extract (cuts s ⟨#[10]⟩ s.size).2 s.size).size = 0 then (cuts s ⟨#[10]⟩ s.size).1 else (cuts s ⟨#[10]⟩ s.size).1 ++ [s.extract (cuts s ⟨#[10]⟩ s.size).2 s.size]) := rfl
  have HS : Hid (splitB s ⟨#[10]⟩ = (cuts s ⟨#[10]⟩ s.size).1 ++ [s.extract (cuts s ⟨#[10]⟩ s.size).2 s.size]) := rfl
  obtain ⟨C, hC⟩ : ∃ C, C = (cuts s ⟨#[10]⟩ s.size).1 := ⟨_, rfl⟩
  obtain ⟨x, hx⟩ : ∃ x, x = s.extract (cuts s ⟨#[10]⟩ s.size).2 s.size := ⟨_, rfl⟩
  rw [← hC] at hlen
  rw [← hC, ← hx] at HL HS
  clear hC hx
  go_enter Tryd.func13, Tryd.ntmps13
  go_wp2_with fail
  refine (impl_split s ⟨#[10]⟩ _ hs (by decide)).mono ?_
  rintro e w1 ⟨v, rfl, own, hb⟩
  rw [HS.out] at own
  obtain ⟨g, c, rfl, hc, own1, hcell⟩ := own_last own
  clear own
  have own2 := own_cut own1
  by_cases h0 : 0 < x.size
  · have hE := isEmpty_ff h0
    have R : Hid (w1.ownsRow w.heap.size 9 1 (.slice (some ⟨g, 0, none⟩) (C.length + 1) c) (linesB s).length ((linesB s).map Value.string)) := by
      rw [HL.out, if_neg (by omega)]
      simpa [Hid] using own1
    clear own1 own2
    go_wp2_with fail
    go_ret
    exact ⟨_, rfl, R.out, hb⟩
  · have hE := isEmpty_tt h0
    have R : Hid (w1.ownsRow w.heap.size 9 1 (.slice (some ⟨g, 0, none⟩) C.length c) (linesB s).length ((linesB s).map Value.string)) := by
      rw [HL.out, if_pos (by omega)]
      exact own2
    clear own1 own2
    go_wp2_with fail
    go_ret
    exact ⟨_, rfl, R.out, hb⟩

theorem linesB_len (s : ByteArray) : (linesB s).length ≤ s.size + 1 := by
  have h1 := splitB_len s ⟨#[10]⟩
  have h2 := (cuts_le s ⟨#[10]⟩ s.size).2
  unfold linesB
  split <;> omega

end Go.Proofs.YtaaffhiechhbaaaDoor
