/-
  The law of IsConvex, closed.
-/
import Derived.Test.YtplccidmedkfaaaConvFn
namespace Go.Proofs.Ytplccidmedkfaaa
open Go.RowKit
theorem ex_isConvex (A : Option Addr) (c : Nat) (L : List (Int × Int)) (w : World) (hA : ArgA w A L) (hL : L.length ≤ maxLen) :
    Calls Try.prog 4 #[.slice A L.length c] w fun e w' => e = .returned (.bool true) ∧ Below w.heap.size w w' :=
  law_isConvex A c L (convV L) w hA hL (fun h A c w hp => spec_conv A c L w hp h) (fun h A c w hp => impl_conv A c L w hp h)
end Go.Proofs.Ytplccidmedkfaaa
