/-
  The law of StartAt, closed.
-/
import Derived.Test.YtklbambnnkdjlaaLawMk
import Derived.Test.YtklbambnnkdjlaaStart
namespace Go.Proofs.Ytklbambnnkdjlaa
open Go.RowKit
theorem ex_startAt (A : Option Addr) (c : Nat) (L : List (Int × Int)) (k : Int) (w : World) (hA : ArgA w A L) (hL : L.length ≤ maxLen) :
    Calls Try.prog 9 #[.slice A L.length c, .int .i64 k] w fun e w' => e = .returned (.bool true) ∧ Below w.heap.size w w' :=
  law_startAt A c L (startV L k) k w hA hL (fun h A c w hp hc => spec_start A c L k w hp hc h) (fun h A c w hp hc => impl_start A c L k w hp hc h) (startV_len L k)
end Go.Proofs.Ytklbambnnkdjlaa
