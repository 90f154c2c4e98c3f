/-
  The law of WidestPair, closed.
-/
import Derived.Test.YtplccidmedkfaaaLaw4
import Derived.Test.YtplccidmedkfaaaWideFn
namespace Go.Proofs.Ytplccidmedkfaaa
open Go.RowKit
theorem ex_widestPair (A : Option Addr) (c : Nat) (L : List (Int × Int)) (w : World) (hA : ArgA w A L) (hL : L.length ≤ maxLen) :
    Calls Try.prog 9 #[.slice A L.length c] w fun e w' => e = .returned (.bool true) ∧ Below w.heap.size w w' :=
  law_widestPair A c L (wideA L) (wideB L) w hA hL (fun h A c w hp => spec_wide A c L w hp h) (fun h A c w hp => impl_wide A c L w hp h)
end Go.Proofs.Ytplccidmedkfaaa
