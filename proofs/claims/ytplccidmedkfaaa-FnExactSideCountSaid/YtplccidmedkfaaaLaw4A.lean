/-
  The law of SideCount, closed.
-/
import Derived.Test.YtplccidmedkfaaaLaw4
import Derived.Test.YtplccidmedkfaaaCount
namespace Go.Proofs.Ytplccidmedkfaaa
open Go.RowKit
theorem ex_sideCount (A : Option Addr) (c : Nat) (L : List (Int × Int)) (w : World) (hA : ArgA w A L) (hL : L.length ≤ maxLen) :
    Calls Try.prog 7 #[.slice A L.length c] w fun e w' => e = .returned (.bool true) ∧ Below w.heap.size w w' :=
  law_sideCount A c L (countV L) w hA hL (fun h A c w hp => spec_count A c L w hp h) (fun h A c w hp => impl_count A c L w hp h)
end Go.Proofs.Ytplccidmedkfaaa
