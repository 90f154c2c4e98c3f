/-
  Walks for SplitLines: spec.SplitLines, impl.SplitLines, laws.FnExactSplitLines.
-/
import Derived.Test.YtaaffhiechhbaaaSplit
import Derived.Test.YtaaffhiechhbaaaName
namespace Go.Proofs.Ytaaffhiechhbaaa
open Go.RowKit

/-- The lines of s. -/
def linesB (s : ByteArray) : List ByteArray :=
  if (s.extract (cuts s ⟨#[10]⟩ s.size).2 s.size).size = 0 then (cuts s ⟨#[10]⟩ s.size).1 else splitB s ⟨#[10]⟩

theorem own_cut {w : World} {B : Nat} {e : TypeId} {g m c : Nat} {xs : List Value} {x : Value} (h : w.ownsRow B e 1 (.slice (some ⟨g, 0, none⟩) (m + 1) c) (m + 1) (xs ++ [x])) : w.ownsRow B e 1 (.slice (some ⟨g, 0, none⟩) m c) m xs := by
  have hl : xs.length = m := by have := h.1; simp at this; omega
  rcases h.2 with ⟨h', _⟩ | ⟨g', cap, cur, h', hb, hh, hnc, hcm, hcs, ht⟩
  · simp at h'
  · simp only [Value.slice.injEq, Option.some.injEq, Addr.mk.injEq, and_true, true_and] at h'
    obtain ⟨rfl, rfl⟩ := h'
    refine ⟨by omega, .inr ⟨g, c, cur, rfl, hb, hh, by omega, hcm, hcs, ?_⟩⟩
    have e1 : (cur.toList.take ((m + 1) * 1)).take m = (xs ++ [x]).take m := by rw [ht]
    rw [List.take_take] at e1
    have e2 : min m ((m + 1) * 1) = m * 1 := by omega
    rw [e2, ← hl, List.take_left] at e1
    rw [← hl]
    exact e1
theorem own_last {w : World} {B : Nat} {e : TypeId} {v : Value} {C : List ByteArray} {x : ByteArray} (h : w.ownsRow B e 1 v (C ++ [x]).length ((C ++ [x]).map Value.string)) :
    ∃ g c, v = .slice (some ⟨g, 0, none⟩) (C.length + 1) c ∧ C.length + 1 ≤ c ∧ w.ownsRow B e 1 v (C.length + 1) (C.map Value.string ++ [.string x]) ∧ w.cell? ⟨g, C.length, none⟩ = some (.string x) := by
  have h' : w.ownsRow B e 1 v (C.length + 1) (C.map Value.string ++ [.string x]) := by simpa using h
  rcases h'.2 with ⟨_, h0⟩ | ⟨g, cap, cur, rfl, _, _, hnc, _⟩
  · omega
  · refine ⟨g, cap, rfl, hnc, h', ?_⟩
    rw [h'.cellAt C.length (by omega)]
    simp

def LinesOut (w : World) (s : ByteArray) (e : Ending) (w' : World) : Prop := ∃ v, e = .returned v ∧ w'.ownsRow w.heap.size 9 1 v (linesB s).length ((linesB s).map Value.string) ∧ Below w.heap.size w w'

set_option maxHeartbeats 800000 in
theorem spec_lines (s : ByteArray) (w : World) (hs : s.size ≤ 1048576) :
    Calls Try.prog 18 #[.string s] w (LinesOut w s) := by
  have hlen := (cuts_le s ⟨#[10]⟩ s.size).2
  have HL : Hid (linesB s = if (s.extract (cuts s ⟨#[10]⟩ s.size).2 s.size).size = 0 then (cuts s ⟨#[10]⟩ s.size).1 else (cuts s ⟨#[10]⟩ s.size).1 ++ [s.extract (cuts s ⟨#[10]⟩ s.size).2 s.size]) := rfl
  have HS : Hid (splitB s ⟨#[10]⟩ = (cuts s ⟨#[10]⟩ s.size).1 ++ [s.extract (cuts s ⟨#[10]⟩ s.size).2 s.size]) := rfl
  obtain ⟨C, hC⟩ : ∃ C, C = (cuts s ⟨#[10]⟩ s.size).1 := ⟨_, rfl⟩
  obtain ⟨x, hx⟩ : ∃ x, x = s.extract (cuts s ⟨#[10]⟩ s.size).2 s.size := ⟨_, rfl⟩
  rw [← hC] at hlen
  rw [← hC, ← hx] at HL HS
  clear hC hx
  go_enter Try.func18, Try.ntmps18
  go_wp2_with fail
  refine (spec_split s ⟨#[10]⟩ _ hs (by decide)).mono ?_
  rintro e w1 ⟨v, rfl, own, hb⟩
  rw [HS.out] at own
  obtain ⟨g, c, rfl, hc, own1, hcell⟩ := own_last own
  clear own
  have own2 := own_cut own1
  by_cases h0 : 0 < x.size
  · have hE := isEmpty_ff h0
    have R : Hid (w1.ownsRow w.heap.size 9 1 (.slice (some ⟨g, 0, none⟩) (C.length + 1) c) (linesB s).length ((linesB s).map Value.string)) := by
      rw [HL.out, if_neg (by omega)]
      simpa [Hid] using own1
    clear own1 own2
    go_wp2_with fail
    go_ret
    exact ⟨_, rfl, R.out, hb⟩
  · have hE := isEmpty_tt h0
    have R : Hid (w1.ownsRow w.heap.size 9 1 (.slice (some ⟨g, 0, none⟩) C.length c) (linesB s).length ((linesB s).map Value.string)) := by
      rw [HL.out, if_pos (by omega)]
      exact own2
    clear own1 own2
    go_wp2_with fail
    go_ret
    exact ⟨_, rfl, R.out, hb⟩

set_option maxHeartbeats 800000 in
theorem impl_lines (s : ByteArray) (w : World) (hs : s.size ≤ 1048576) :
    Calls Try.prog 19 #[.string s] w (LinesOut w s) := by
  have hlen := (cuts_le s ⟨#[10]⟩ s.size).2
  have HL : Hid (linesB s = if (s.extract (cuts s ⟨#[10]⟩ s.size).2 s.size).size = 0 then (cuts s ⟨#[10]⟩ s.size).1 else (cuts s ⟨#[10]⟩ s.size).1 ++ [s.extract (cuts s ⟨#[10]⟩ s.size).2 s.size]) := rfl
  have HS : Hid (splitB s ⟨#[10]⟩ = (cuts s ⟨#[10]⟩ s.size).1 ++ [s.extract (cuts s ⟨#[10]⟩ s.size).2 s.size]) := rfl
  obtain ⟨C, hC⟩ : ∃ C, C = (cuts s ⟨#[10]⟩ s.size).1 := ⟨_, rfl⟩
  obtain ⟨x, hx⟩ : ∃ x, x = s.extract (cuts s ⟨#[10]⟩ s.size).2 s.size := ⟨_, rfl⟩
  rw [← hC] at hlen
  rw [← hC, ← hx] at HL HS
  clear hC hx
  go_enter Try.func19, Try.ntmps19
  go_wp2_with fail
  refine (impl_split s ⟨#[10]⟩ _ hs (by decide)).mono ?_
  rintro e w1 ⟨v, rfl, own, hb⟩
  rw [HS.out] at own
  obtain ⟨g, c, rfl, hc, own1, hcell⟩ := own_last own
  clear own
  have own2 := own_cut own1
  by_cases h0 : 0 < x.size
  · have hE := isEmpty_ff h0
    have R : Hid (w1.ownsRow w.heap.size 9 1 (.slice (some ⟨g, 0, none⟩) (C.length + 1) c) (linesB s).length ((linesB s).map Value.string)) := by
      rw [HL.out, if_neg (by omega)]
      simpa [Hid] using own1
    clear own1 own2
    go_wp2_with fail
    go_ret
    exact ⟨_, rfl, R.out, hb⟩
  · have hE := isEmpty_tt h0
    have R : Hid (w1.ownsRow w.heap.size 9 1 (.slice (some ⟨g, 0, none⟩) C.length c) (linesB s).length ((linesB s).map Value.string)) := by
      rw [HL.out, if_pos (by omega)]
      exact own2
    clear own1 own2
    go_wp2_with fail
    go_ret
    exact ⟨_, rfl, R.out, hb⟩

theorem linesB_len (s : ByteArray) : (linesB s).length ≤ s.size + 1 := by
  have h1 := splitB_len s ⟨#[10]⟩
  have h2 := (cuts_le s ⟨#[10]⟩ s.size).2
  unfold linesB
  split <;> omega

set_option maxHeartbeats 1600000 in
theorem law_lines (s : ByteArray) (w : World) (hs : s.size ≤ maxLen) :
    Calls Try.prog 6 #[.string s] w fun e w' => e = .returned (.bool true) ∧ Below w.heap.size w w' := by
  have hs' := hs
  unfold maxLen at hs'
  by_cases h1 : s.size ≤ 1048576
  case neg =>
    go_enter Try.func6, Try.ntmps6
    go_wp2_with fail
    go_ret
    exact ⟨rfl, Below.refl _ _⟩
  have hlen := linesB_len s
  have sp := fun w => spec_lines s w h1
  have im := fun w => impl_lines s w h1
  unfold LinesOut at sp im
  obtain ⟨L, hL⟩ : ∃ L, L = linesB s := ⟨_, rfl⟩
  rw [← hL] at hlen sp im
  have SP := Lib.hid sp; clear sp
  have IM := Lib.hid im; clear im
  clear hL
  have hmax : L.length ≤ maxLen := by unfold maxLen; omega
  have HM := Lib.hid hmax; clear hmax
  go_enter Try.func6, Try.ntmps6
  go_wp2_with fail
  refine (SP.out _).mono ?_
  rintro e w1 ⟨v0, rfl, own0, b1⟩
  go_wp2_with fail
  refine (IM.out _).mono ?_
  rintro e w2 ⟨v1, rfl, own1, b2⟩
  obtain ⟨_, A0, c0, rfl, _⟩ := own_strs own0
  obtain ⟨_, A1, c1, rfl, _⟩ := own_strs own1
  have own0' := own_below own0 b2
  have hg : ∀ g, A0 = some ⟨g, 0, none⟩ → g < w1.heap.size := strs_lt own0
  clear own0
  go_wp2_with fail
  refine (eq_strs A1 A0 c1 c0 L w2 (strs_of own1) (strs_of own0') HM.out).mono ?_
  rintro e w3 ⟨rfl, n3, rfl⟩
  go_wp2_with fail
  refine (mark_strs w1.heap.size _ L.length _ _ (own_drewN own1 n3) (by omega)).mono ?_
  rintro e w3 ⟨rfl, own1m, g3⟩
  have own0m := (own_drewN own0' n3).kept g3 (own_ne own0' own1 hg)
  have b3 : Below w.heap.size w w3 := (below_drewN (b1.trans (b2.mono b1.size)) n3).grown g3 (by have := b1.size; have := b2.size; simp; omega) (fun k hk => by have := (own1.lt k hk).1; have := b1.size; omega)
  clear own0' own1 g3 b1 b2
  go_wp2_with fail
  refine (held_strs A1 c1 L.length w3 (strs_of own1m) (strs_lt own1m) (by omega)).mono ?_
  rintro e w4 ⟨rfl, b4⟩
  have own1n := own_below own1m b4
  have own0n := own_below own0m b4
  have b5 := b3.trans (b4.mono b3.size)
  clear own0m own1m b3 b4
  go_wp2_with fail
  refine (IM.out _).mono ?_
  rintro e w5 ⟨v2, rfl, own2, b6⟩
  obtain ⟨_, A2, c2, rfl, _⟩ := own_strs own2
  have own1o := own_below own1n b6
  have own0o := own_below own0n b6
  have b7 := b5.trans (b6.mono b5.size)
  clear own0n own1n b5 b6
  go_wp2_with fail
  refine (eq_strs A2 A0 c2 c0 L w5 (strs_of own2) (strs_of own0o) HM.out).mono ?_
  rintro e w6 ⟨rfl, n6, rfl⟩
  go_wp2_with fail
  refine (held_strs A1 c1 L.length _ (strs_drewN (strs_of own1o) n6) (strs_lt own1o) (by omega)).mono ?_
  rintro e w7 ⟨rfl, b8⟩
  have b9 := (below_drewN b7 n6).trans (b8.mono b7.size)
  go_wp2_with fail
  go_ret
  exact ⟨rfl, b9⟩
end Go.Proofs.Ytaaffhiechhbaaa
