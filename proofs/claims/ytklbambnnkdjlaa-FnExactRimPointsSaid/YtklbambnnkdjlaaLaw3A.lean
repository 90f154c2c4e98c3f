/-
  The laws of PolygonOk, TwiceArea, RimPoints.
-/
import Derived.Test.YtklbambnnkdjlaaPolyLaw
import Derived.Test.YtklbambnnkdjlaaSum
namespace Go.Proofs.Ytklbambnnkdjlaa
open Go.RowKit
theorem ex_polygonOk (A : Option Addr) (c : Nat) (L : List (Int × Int)) (w : World) (hA : ArgA w A L) (hL : L.length ≤ maxLen) :
    Calls Try.prog 3 #[.slice A L.length c] w fun e w' => e = .returned (.bool true) ∧ Below w.heap.size w w' :=
  law_polygonOk A c L (polyB L) w hA hL (fun h A c w hp => spec_poly A c L w hp h) (fun h A c w hp => impl_poly A c L w hp h)
theorem ex_twiceArea (A : Option Addr) (c : Nat) (L : List (Int × Int)) (w : World) (hA : ArgA w A L) (hL : L.length ≤ maxLen) :
    Calls Try.prog 4 #[.slice A L.length c] w fun e w' => e = .returned (.bool true) ∧ Below w.heap.size w w' :=
  law_twiceArea A c L _ w hA hL (fun h A c w hp => spec_twice A c L w hp h) (fun h A c w hp => impl_twice A c L w hp h)
theorem ex_rimPoints (A : Option Addr) (c : Nat) (L : List (Int × Int)) (w : World) (hA : ArgA w A L) (hL : L.length ≤ maxLen) :
    Calls Try.prog 5 #[.slice A L.length c] w fun e w' => e = .returned (.bool true) ∧ Below w.heap.size w w' :=
  law_rimPoints A c L _ w hA hL (fun h A c w hp => spec_rim A c L w hp h) (fun h A c w hp => impl_rim A c L w hp h)
end Go.Proofs.Ytklbambnnkdjlaa
