/-
  The law of IsEar.
-/
import Derived.Test.YtieekeodbflgfaaLaw5A
import Derived.Test.YtieekeodbflgfaaEar
namespace Go.Proofs.Ytieekeodbflgfaa
open Go.RowKit

theorem ex_isEar (A : Option Addr) (c : Nat) (L : List (Int × Int)) (i : Int) (w : World) (hA : ArgA w A L) (hL : L.length ≤ maxLen) (_ : (Lit.int .i64 i).wf = true) :
    Calls Try.prog 6 #[.slice A L.length c, .int .i64 i] w fun e w' => e = .returned (.bool true) ∧ Below w.heap.size w w' :=
  law_isEar A c L (earV L i) i w hA hL (fun hs A c w hp => spec_ear A c L i w hp hs) (fun hs A c w hp => impl_ear A c L i w hp hs)
end Go.Proofs.Ytieekeodbflgfaa
