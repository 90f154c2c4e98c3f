/-
  The law of InnerPoints, where the two ways of counting agree.
-/
import Derived.Test.YtklbambnnkdjlaaPolyLaw
import Derived.Test.YtklbambnnkdjlaaInner
import Derived.Test.YtklbambnnkdjlaaPickPoly
namespace Go.Proofs.Ytklbambnnkdjlaa
open Go.RowKit
theorem ex_innerPoints_of (pick : ∀ L, polyB L = true → (innerN L : Int) = pickI L) (A : Option Addr) (c : Nat) (L : List (Int × Int)) (w : World) (hA : ArgA w A L) (hL : L.length ≤ maxLen) :
    Calls Try.prog 7 #[.slice A L.length c] w fun e w' => e = .returned (.bool true) ∧ Below w.heap.size w w' := by
  have e : (bif polyB L then (innerN L : Int) else -1) = bif polyB L then pickI L else -1 := by
    cases h : polyB L
    · rfl
    · rw [pick L h]
  exact law_innerPoints A c L _ w hA hL (fun h A c w hp => spec_inner A c L w hp h) (fun h A c w hp => by rw [e]; exact impl_inner A c L w hp h)
theorem ex_innerPoints (A : Option Addr) (c : Nat) (L : List (Int × Int)) (w : World) (hA : ArgA w A L) (hL : L.length ≤ maxLen) :
    Calls Try.prog 7 #[.slice A L.length c] w fun e w' => e = .returned (.bool true) ∧ Below w.heap.size w w' :=
  ex_innerPoints_of pick_poly A c L w hA hL
end Go.Proofs.Ytklbambnnkdjlaa
