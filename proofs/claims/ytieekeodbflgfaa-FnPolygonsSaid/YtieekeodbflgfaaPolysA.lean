/-
  The walk of the law FnPolygons, first part: what its calls say about one polygon.
-/
import Derived.Test.YtieekeodbflgfaaDrawP
import Derived.Test.YtieekeodbflgfaaMakeS
import Derived.Test.YtieekeodbflgfaaPolySame
import Derived.Test.YtieekeodbflgfaaCount
import Derived.Test.YtieekeodbflgfaaBox
import Derived.Test.YtieekeodbflgfaaInner
import Derived.Test.YtieekeodbflgfaaInside
import Derived.Test.YtieekeodbflgfaaSameFn
namespace Go.Proofs.Ytieekeodbflgfaa
open Go.RowKit

theorem poly_turn {L : List (Int × Int)} (h : polyB L = true) : polyB (turnL L) = true := (poly_iff _).2 (good_turn ((poly_iff L).1 h))
theorem turnL_len {L : List (Int × Int)} (h : 0 < L.length) : (turnL L).length = L.length := by
  rw [turnL, turn_len]; omega

/-- The answers at a polygon, at its turned list and at its straightened one: all that the law asks of them. -/
structure Asks (L : List (Int × Int)) : Prop where
  n3 : 3 ≤ L.length
  n10 : L.length ≤ 10
  ok : allOk L = true
  tlen : (turnL L).length = L.length
  slen : (straightL L).length ≤ L.length
  slen3 : 3 ≤ (straightL L).length
  turn : ∀ A c w, PtsA w A L → Calls Try.prog 13 #[.slice A L.length c] w (Lists w (turnL L))
  turn2 : ∀ A c w, PtsA w A (turnL L) → Calls Try.prog 13 #[.slice A L.length c] w (Lists w L)
  straight : ∀ A c w, PtsA w A L → Calls Try.prog 14 #[.slice A L.length c] w (Lists w (straightL L))
  straight2 : ∀ A c w, PtsA w A (straightL L) → Calls Try.prog 14 #[.slice A (straightL L).length c] w (Lists w (straightL L))
  polyT : ∀ A c w, PtsA w A (turnL L) → Calls Try.prog 16 #[.slice A L.length c] w fun e w' => e = .returned (.bool true) ∧ Below w.heap.size w w'
  twice : ∀ A c w, PtsA w A L → Calls Try.prog 17 #[.slice A L.length c] w fun e w' => e = .returned (.int .i64 (twiceI L)) ∧ Below w.heap.size w w'
  twiceT : ∀ A c w, PtsA w A (turnL L) → Calls Try.prog 17 #[.slice A L.length c] w fun e w' => e = .returned (.int .i64 (-twiceI L)) ∧ Below w.heap.size w w'
  twiceS : ∀ A c w, PtsA w A (straightL L) → Calls Try.prog 17 #[.slice A (straightL L).length c] w fun e w' => e = .returned (.int .i64 (twiceI L)) ∧ Below w.heap.size w w'
  count : ∀ A c w, PtsA w A L → Calls Try.prog 19 #[.slice A L.length c] w fun e w' => e = .returned (.int .i64 (straightL L).length) ∧ Below w.heap.size w w'
  sameS : ∀ A B c d w, PtsA w A L → PtsA w B (straightL L) → Calls Try.prog 20 #[.slice A L.length c, .slice B (straightL L).length d] w fun e w' => e = .returned (.bool true) ∧ Below w.heap.size w w'
  box : ∀ A c w, PtsA w A L → Calls Try.prog 15 #[.slice A L.length c] w fun e w' => e = .returned (.tuple #[ptV (boxTill L L.length).1, ptV (boxTill L L.length).2, .bool true]) ∧ Below w.heap.size w w'
theorem asks_of {L : List (Int × Int)} (h : polyB L = true) : Asks L := by
  obtain ⟨h3, h10, hok⟩ := polyB_all h
  have g := (poly_iff L).1 h
  have ht := turnL_len (L := L) (by omega)
  have hs := straight_len L L.length
  have ps : polyB (straightL L) = true := (poly_iff _).2 (good_straight _ L rfl g)
  obtain ⟨s3, s10, -⟩ := polyB_all ps
  have hL : L.length ≤ 1048576 := by omega
  have hT : (turnL L).length ≤ 1048576 := by omega
  have hS : (straightL L).length ≤ 1048576 := by omega
  refine ⟨h3, h10, hok, ht, hs, s3, ?_, ?_, ?_, ?_, ?_, ?_, ?_, ?_, ?_, ?_, ?_⟩
  · intro A c w hA
    have k := impl_turn A c L w hA hL
    rwa [turnV, h] at k
  · intro A c w hA
    have k := impl_turn A c _ w hA hT
    rwa [turnV, poly_turn h, ht, cond_true, turn_turn (by omega)] at k
  · intro A c w hA
    have k := impl_straight A c L w hA hL
    rwa [straightV, h] at k
  · intro A c w hA
    have k := impl_straight A c _ w hA hS
    rwa [straightV, ps, cond_true, straight_twice g] at k
  · intro A c w hA
    have k := impl_poly A c _ w hA hT
    rwa [poly_turn h, ht] at k
  · intro A c w hA
    have k := impl_twice A c L w hA hL
    rwa [h] at k
  · intro A c w hA
    have k := impl_twice A c _ w hA hT
    rwa [poly_turn h, ht, cond_true, twice_turn (by omega)] at k
  · intro A c w hA
    have k := impl_twice A c _ w hA hS
    rwa [ps, cond_true, twice_straight g] at k
  · intro A c w hA
    have k := impl_count A c L w hA hL
    rwa [countV, h] at k
  · intro A B c d w hA hB
    have k := impl_same A B c d L _ w hA hB hL hS
    rwa [same_straight g] at k
  · intro A c w hA
    have k := impl_box A c L w hA hL
    rwa [boxR, h] at k
/-- A slice of a list's points. -/
def Gives (w : World) (n : Nat) (M : List (Int × Int)) (e : Ending) (w' : World) : Prop := ∃ A c, e = .returned (.slice A n c) ∧ n ≤ c ∧ PtsA w' A M ∧ Below w.heap.size w w'
theorem gives_of {w w' : World} {n : Nat} {M : List (Int × Int)} {e : Ending} (hn : M.length = n) (h : Lists w M e w') : Gives w n M e w' := by
  obtain ⟨v, rfl, own, b⟩ := h
  obtain ⟨-, A, c, rfl, P, hc⟩ := own_ptsc own
  exact ⟨A, c, by rw [hn], by omega, P, b⟩
/-- What the law asks at the list begun at corner k, and of the rim and the inside. -/
structure Asks2 (L : List (Int × Int)) : Prop where
  start : ∀ A c k w, PtsA w A L → L.length ≤ c → k < L.length → Calls Try.prog 22 #[.slice A L.length c, .int .i64 (k : Nat)] w (Gives w L.length (rotL L k))
  none : ∀ A c w, PtsA w A L → L.length ≤ c → Calls Try.prog 22 #[.slice A L.length c, .int .i64 (L.length : Nat)] w (Gives w 0 [])
  sameR : ∀ A B c d k w, PtsA w A L → PtsA w B (rotL L k) → k < L.length → Calls Try.prog 20 #[.slice A L.length c, .slice B L.length d] w fun e w' => e = .returned (.bool true) ∧ Below w.heap.size w w'
  sameT : ∀ A B c d k w, PtsA w A (turnL L) → PtsA w B (rotL L k) → k < L.length → Calls Try.prog 20 #[.slice A L.length c, .slice B L.length d] w fun e w' => e = .returned (.bool true) ∧ Below w.heap.size w w'
  twiceR : ∀ A c k w, PtsA w A (rotL L k) → k < L.length → Calls Try.prog 17 #[.slice A L.length c] w fun e w' => e = .returned (.int .i64 (twiceI L)) ∧ Below w.heap.size w w'
  rim : ∀ A c w, PtsA w A L → Calls Try.prog 25 #[.slice A L.length c] w fun e w' => e = .returned (.int .i64 (rimI L)) ∧ Below w.heap.size w w'
  inner : ∀ A c w, PtsA w A L → Calls Try.prog 26 #[.slice A L.length c] w fun e w' => e = .returned (.int .i64 (pickI L)) ∧ Below w.heap.size w w'
  inside : ∀ A c x y w, PtsA w A L → Calls Try.prog 23 #[.slice A L.length c, (.agg #[.int .i64 x, .int .i64 y])] w fun e w' => e = .returned (.bool (okQ (x, y) && insideB L (x, y))) ∧ Below w.heap.size w w'
theorem asks2_of {L : List (Int × Int)} (h : polyB L = true) : Asks2 L := by
  obtain ⟨h3, h10, hok⟩ := polyB_all h
  have g := (poly_iff L).1 h
  have ht := turnL_len (L := L) (by omega)
  have hL : L.length ≤ 1048576 := by omega
  refine ⟨?_, ?_, ?_, ?_, ?_, ?_, ?_, ?_⟩
  · intro A c k w hA hc hk
    have q := impl_start A c L (k : Int) w hA hc hL
    have e : startV L (k : Int) = rotL L k := by
      have hi : inB (k : Int) 0 ((L.length : Int) - 1) = true := by rw [inB_spec]; omega
      rw [startV, h, hi, Int.toNat_natCast]; rfl
    rw [e] at q
    exact q.mono fun e w' h => gives_of (rotL_len L k) h
  · intro A c w hA hc
    have q := impl_start A c L (L.length : Int) w hA hc hL
    have e : startV L (L.length : Int) = [] := by
      have hi : inB (L.length : Int) 0 ((L.length : Int) - 1) = false := by
        rw [Bool.eq_false_iff]; intro hh; rw [inB_spec] at hh; omega
      rw [startV, h, hi]; rfl
    rw [e] at q
    exact q.mono fun e w' h => gives_of rfl h
  · intro A B c d k w hA hB hk
    have q := impl_same A B c d L _ w hA hB hL (by rw [rotL_len]; omega)
    rwa [same_rot g (by omega), rotL_len] at q
  · intro A B c d k w hA hB hk
    have q := impl_same A B c d _ _ w hA hB (by omega) (by rw [rotL_len]; omega)
    rwa [same_turn g (good_turn g) (by omega), rotL_len, ht] at q
  · intro A c k w hA hk
    have q := impl_twice A c _ w hA (by rw [rotL_len]; omega)
    rwa [poly_rot h (by omega), cond_true, twice_rot k (by omega), rotL_len] at q
  · intro A c w hA
    have q := impl_rim A c L w hA hL
    rwa [h] at q
  · intro A c w hA
    have q := impl_inner A c L w hA hL
    rwa [h] at q
  · intro A c x y w hA
    have q := impl_inside A c L x y w hA hL
    rwa [insideV, h, Bool.true_and] at q
end Go.Proofs.Ytieekeodbflgfaa
