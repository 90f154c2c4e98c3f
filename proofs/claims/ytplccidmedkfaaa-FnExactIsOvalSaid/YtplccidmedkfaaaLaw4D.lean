/-
  The law of IsOval, closed.
-/
import Derived.Test.YtplccidmedkfaaaOvalI
namespace Go.Proofs.Ytplccidmedkfaaa
open Go.RowKit
theorem ex_isOval (A : Option Addr) (c : Nat) (L : List (Int × Int)) (w : World) (hA : ArgA w A L) (hL : L.length ≤ maxLen) :
    Calls Try.prog 10 #[.slice A L.length c] w fun e w' => e = .returned (.bool true) ∧ Below w.heap.size w w' :=
  law_isOval A c L (ovalV L) w hA hL (fun h A c w hp => spec_oval A c L w hp h) (fun h A c w hp => impl_oval A c L w hp h)
end Go.Proofs.Ytplccidmedkfaaa
