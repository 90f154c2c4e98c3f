/-
  The law of IsDiagonal.
-/
import Derived.Test.YtieekeodbflgfaaLaw5A
import Derived.Test.YtieekeodbflgfaaDiagS
namespace Go.Proofs.Ytieekeodbflgfaa
open Go.RowKit

theorem ex_isDiagonal (A : Option Addr) (c : Nat) (L : List (Int × Int)) (i k : Int) (w : World) (hA : ArgA w A L) (hL : L.length ≤ maxLen) (_ : (Lit.int .i64 i).wf = true) (_ : (Lit.int .i64 k).wf = true) :
    Calls Try.prog 5 #[.slice A L.length c, .int .i64 i, .int .i64 k] w fun e w' => e = .returned (.bool true) ∧ Below w.heap.size w w' :=
  law_isDiagonal A c L (diagV L i k) i k w hA hL (fun hs A c w hp => spec_diag A c L i k w hp hs) (fun hs A c w hp => impl_diag A c L i k w hp hs)
end Go.Proofs.Ytieekeodbflgfaa
