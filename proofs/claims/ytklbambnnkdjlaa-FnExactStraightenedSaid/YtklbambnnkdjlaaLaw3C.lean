/-
  The laws of TurnPolygon and Straightened, closed.
-/
import Derived.Test.YtklbambnnkdjlaaLawMk
import Derived.Test.YtklbambnnkdjlaaClone
namespace Go.Proofs.Ytklbambnnkdjlaa
open Go.RowKit
theorem turnV_len (L : List (Int × Int)) : (turnV L).length ≤ 1048576 := by
  unfold turnV
  cases h : polyB L
  · simp
  · have := polyB_all h
    simp [turnL, turnTill]; omega
theorem straightV_len (L : List (Int × Int)) : (straightV L).length ≤ 1048576 := by
  unfold straightV
  cases h : polyB L
  · simp
  · have := polyB_all h
    have := straight_len L L.length
    simp [straightL]; omega
theorem ex_turnPolygon (A : Option Addr) (c : Nat) (L : List (Int × Int)) (w : World) (hA : ArgA w A L) (hL : L.length ≤ maxLen) :
    Calls Try.prog 8 #[.slice A L.length c] w fun e w' => e = .returned (.bool true) ∧ Below w.heap.size w w' :=
  law_turnPolygon A c L (turnV L) w hA hL (fun h A c w hp => spec_turn A c L w hp h) (fun h A c w hp => impl_turn A c L w hp h) (turnV_len L)
theorem ex_straightened (A : Option Addr) (c : Nat) (L : List (Int × Int)) (w : World) (hA : ArgA w A L) (hL : L.length ≤ maxLen) :
    Calls Try.prog 10 #[.slice A L.length c] w fun e w' => e = .returned (.bool true) ∧ Below w.heap.size w w' :=
  law_straightened A c L (straightV L) w hA hL (fun h A c w hp => spec_straight A c L w hp h) (fun h A c w hp => impl_straight A c L w hp h) (straightV_len L)
end Go.Proofs.Ytklbambnnkdjlaa
