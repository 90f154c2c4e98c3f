/-
  No cell of these rows narrows 'for every input' (looked for: loops, veiled, ifaces, maps, wideKeys, modest, calm, conditions, laid).
  DERIVED. THE GIVEN ROWS OF THIS SEAT. 9 by the template 'for every input the law returns true; each argument reads behind the call as it read before'; 0 by the template 'total and deterministic' (their statements: YtnkehfhedjdhaaaTotals.lean).
  GIVEN WITH THE SEED: the statements are not yours to turn. If you find one false, say at which input.
  Laid BY PROGRAM, IN A SANDBOX (cutbox-rows.mjs): the forced cells as the released guide's own fill.sh prints them over the translation 9362707f2872a9ef… (all of the seat's roots in one cut). By AI agents, Wed Nov 11 2026. No macro, syntax, notation, axiom, sorry.
-/
import Derived.Test.YtnkehfhedjdhaaaChecked
import GoSem.Claim
import GoSem.ClaimJoined
import GoSem.ClaimMapViews
import Derived.JoinedTies
import Derived.KernelRfl
namespace Go.Proofs.Ytnkehfhedjdhaaa
/- THE CELL 'sum', in the pinned program and in every row, IS THE sha256 OF THE DUMP (.gsa) THAT YtnkehfhedjdhaaaProg.lean LOADS. Nothing in Lean hashes anything: it is a label: what it is worth is what the hold of that sum in a sandbox is worth. -/
noncomputable def Try.pinned : Pinned := { name := "ytnkehfhedjdhaaa", sum := "9362707f2872a9ef39e9d840e1a1f0417e7c278331188a1c93b65cfd9df3a5a9", checked := Try.checked }
namespace Rows
def none {H : Type} : Left H := { results := [], args := [] }

/-- 'laws.FnCells': WHATEVER THE INPUT: true; the input reads as it did. -/
def fnCellsSpec : ChangeSpec := { name := "fnCells", fn := fun _ => fun
  | [d] => { results := [.lit (.bool true)], args := [d] }
  | _ => none }
def fnCellsRow : OpenClaim := { program := "ytnkehfhedjdhaaa", sum := "9362707f2872a9ef39e9d840e1a1f0417e7c278331188a1c93b65cfd9df3a5a9", func := "loop.example/g03208/laws.FnCells", spec := "fnCells", inPlace := ["internal/abi.NoEscape"], unfollowed := true, recurses := true, plainKeys := false, leaving := true, apart := false }
def FnCellsSaid : Prop := fnCellsRow.holds Try.pinned (OpenSpec.ofChange fnCellsSpec)

/-- ITS FALSE NEIGHBOUR: 'it returns false'. Refute it at one input. -/
def fnCellsWrong : ChangeSpec := { name := "fnCells", fn := fun _ => fun
  | [d] => { results := [.lit (.bool false)], args := [d] }
  | _ => none }
def FnCellsWrongFalsely : Prop := fnCellsRow.holds Try.pinned (OpenSpec.ofChange fnCellsWrong)

/-- 'laws.FnSteps': WHATEVER THE INPUT: true; the input reads as it did. -/
def fnStepsSpec : ChangeSpec := { name := "fnSteps", fn := fun _ => fun
  | [d] => { results := [.lit (.bool true)], args := [d] }
  | _ => none }
def fnStepsRow : OpenClaim := { program := "ytnkehfhedjdhaaa", sum := "9362707f2872a9ef39e9d840e1a1f0417e7c278331188a1c93b65cfd9df3a5a9", func := "loop.example/g03208/laws.FnSteps", spec := "fnSteps", unfollowed := true, recurses := true, plainKeys := false, leaving := true, apart := false }
def FnStepsSaid : Prop := fnStepsRow.holds Try.pinned (OpenSpec.ofChange fnStepsSpec)

/-- ITS FALSE NEIGHBOUR: 'it returns false'. Refute it at one input. -/
def fnStepsWrong : ChangeSpec := { name := "fnSteps", fn := fun _ => fun
  | [d] => { results := [.lit (.bool false)], args := [d] }
  | _ => none }
def FnStepsWrongFalsely : Prop := fnStepsRow.holds Try.pinned (OpenSpec.ofChange fnStepsWrong)

/-- 'laws.FnExactStepsOk': WHATEVER THE INPUT: true; the input reads as it did. -/
def fnExactStepsOkSpec : ChangeSpec := { name := "fnExactStepsOk", fn := fun _ => fun
  | [d1, d2, d3] => { results := [.lit (.bool true)], args := [d1, d2, d3] }
  | _ => none }
def fnExactStepsOkRow : OpenClaim := { program := "ytnkehfhedjdhaaa", sum := "9362707f2872a9ef39e9d840e1a1f0417e7c278331188a1c93b65cfd9df3a5a9", func := "loop.example/g03208/laws.FnExactStepsOk", spec := "fnExactStepsOk", plainKeys := false, apart := false }
def FnExactStepsOkSaid : Prop := fnExactStepsOkRow.holds Try.pinned (OpenSpec.ofChange fnExactStepsOkSpec)

/-- ITS FALSE NEIGHBOUR: 'it returns false'. Refute it at one input. -/
def fnExactStepsOkWrong : ChangeSpec := { name := "fnExactStepsOk", fn := fun _ => fun
  | [d1, d2, d3] => { results := [.lit (.bool false)], args := [d1, d2, d3] }
  | _ => none }
def FnExactStepsOkWrongFalsely : Prop := fnExactStepsOkRow.holds Try.pinned (OpenSpec.ofChange fnExactStepsOkWrong)

/-- 'laws.FnExactLowerPiece': WHATEVER THE INPUT: true; the input reads as it did. -/
def fnExactLowerPieceSpec : ChangeSpec := { name := "fnExactLowerPiece", fn := fun _ => fun
  | [d1, d2, d3] => { results := [.lit (.bool true)], args := [d1, d2, d3] }
  | _ => none }
def fnExactLowerPieceRow : OpenClaim := { program := "ytnkehfhedjdhaaa", sum := "9362707f2872a9ef39e9d840e1a1f0417e7c278331188a1c93b65cfd9df3a5a9", func := "loop.example/g03208/laws.FnExactLowerPiece", spec := "fnExactLowerPiece", plainKeys := false, apart := false }
def FnExactLowerPieceSaid : Prop := fnExactLowerPieceRow.holds Try.pinned (OpenSpec.ofChange fnExactLowerPieceSpec)

/-- ITS FALSE NEIGHBOUR: 'it returns false'. Refute it at one input. -/
def fnExactLowerPieceWrong : ChangeSpec := { name := "fnExactLowerPiece", fn := fun _ => fun
  | [d1, d2, d3] => { results := [.lit (.bool false)], args := [d1, d2, d3] }
  | _ => none }
def FnExactLowerPieceWrongFalsely : Prop := fnExactLowerPieceRow.holds Try.pinned (OpenSpec.ofChange fnExactLowerPieceWrong)

/-- 'laws.FnExactUpperPiece': WHATEVER THE INPUT: true; the input reads as it did. -/
def fnExactUpperPieceSpec : ChangeSpec := { name := "fnExactUpperPiece", fn := fun _ => fun
  | [d1, d2, d3] => { results := [.lit (.bool true)], args := [d1, d2, d3] }
  | _ => none }
def fnExactUpperPieceRow : OpenClaim := { program := "ytnkehfhedjdhaaa", sum := "9362707f2872a9ef39e9d840e1a1f0417e7c278331188a1c93b65cfd9df3a5a9", func := "loop.example/g03208/laws.FnExactUpperPiece", spec := "fnExactUpperPiece", plainKeys := false, apart := false }
def FnExactUpperPieceSaid : Prop := fnExactUpperPieceRow.holds Try.pinned (OpenSpec.ofChange fnExactUpperPieceSpec)

/-- ITS FALSE NEIGHBOUR: 'it returns false'. Refute it at one input. -/
def fnExactUpperPieceWrong : ChangeSpec := { name := "fnExactUpperPiece", fn := fun _ => fun
  | [d1, d2, d3] => { results := [.lit (.bool false)], args := [d1, d2, d3] }
  | _ => none }
def FnExactUpperPieceWrongFalsely : Prop := fnExactUpperPieceRow.holds Try.pinned (OpenSpec.ofChange fnExactUpperPieceWrong)

/-- 'laws.FnExactMovedUpper': WHATEVER THE INPUT: true; the input reads as it did. -/
def fnExactMovedUpperSpec : ChangeSpec := { name := "fnExactMovedUpper", fn := fun _ => fun
  | [d1, d2, d3] => { results := [.lit (.bool true)], args := [d1, d2, d3] }
  | _ => none }
def fnExactMovedUpperRow : OpenClaim := { program := "ytnkehfhedjdhaaa", sum := "9362707f2872a9ef39e9d840e1a1f0417e7c278331188a1c93b65cfd9df3a5a9", func := "loop.example/g03208/laws.FnExactMovedUpper", spec := "fnExactMovedUpper", unfollowed := true, recurses := true, plainKeys := false, leaving := true, apart := false }
def FnExactMovedUpperSaid : Prop := fnExactMovedUpperRow.holds Try.pinned (OpenSpec.ofChange fnExactMovedUpperSpec)

/-- ITS FALSE NEIGHBOUR: 'it returns false'. Refute it at one input. -/
def fnExactMovedUpperWrong : ChangeSpec := { name := "fnExactMovedUpper", fn := fun _ => fun
  | [d1, d2, d3] => { results := [.lit (.bool false)], args := [d1, d2, d3] }
  | _ => none }
def FnExactMovedUpperWrongFalsely : Prop := fnExactMovedUpperRow.holds Try.pinned (OpenSpec.ofChange fnExactMovedUpperWrong)

/-- 'laws.FnExactRectangleOf': WHATEVER THE INPUT: true; the input reads as it did. -/
def fnExactRectangleOfSpec : ChangeSpec := { name := "fnExactRectangleOf", fn := fun _ => fun
  | [d1, d2] => { results := [.lit (.bool true)], args := [d1, d2] }
  | _ => none }
def fnExactRectangleOfRow : OpenClaim := { program := "ytnkehfhedjdhaaa", sum := "9362707f2872a9ef39e9d840e1a1f0417e7c278331188a1c93b65cfd9df3a5a9", func := "loop.example/g03208/laws.FnExactRectangleOf", spec := "fnExactRectangleOf", plainKeys := false, apart := false }
def FnExactRectangleOfSaid : Prop := fnExactRectangleOfRow.holds Try.pinned (OpenSpec.ofChange fnExactRectangleOfSpec)

/-- ITS FALSE NEIGHBOUR: 'it returns false'. Refute it at one input. -/
def fnExactRectangleOfWrong : ChangeSpec := { name := "fnExactRectangleOf", fn := fun _ => fun
  | [d1, d2] => { results := [.lit (.bool false)], args := [d1, d2] }
  | _ => none }
def FnExactRectangleOfWrongFalsely : Prop := fnExactRectangleOfRow.holds Try.pinned (OpenSpec.ofChange fnExactRectangleOfWrong)

/-- 'laws.FnExactStepsBetween': WHATEVER THE INPUT: true; the input reads as it did. -/
def fnExactStepsBetweenSpec : ChangeSpec := { name := "fnExactStepsBetween", fn := fun _ => fun
  | [d1, d2, d3, d4] => { results := [.lit (.bool true)], args := [d1, d2, d3, d4] }
  | _ => none }
def fnExactStepsBetweenRow : OpenClaim := { program := "ytnkehfhedjdhaaa", sum := "9362707f2872a9ef39e9d840e1a1f0417e7c278331188a1c93b65cfd9df3a5a9", func := "loop.example/g03208/laws.FnExactStepsBetween", spec := "fnExactStepsBetween", plainKeys := false, apart := false }
def FnExactStepsBetweenSaid : Prop := fnExactStepsBetweenRow.holds Try.pinned (OpenSpec.ofChange fnExactStepsBetweenSpec)

/-- ITS FALSE NEIGHBOUR: 'it returns false'. Refute it at one input. -/
def fnExactStepsBetweenWrong : ChangeSpec := { name := "fnExactStepsBetween", fn := fun _ => fun
  | [d1, d2, d3, d4] => { results := [.lit (.bool false)], args := [d1, d2, d3, d4] }
  | _ => none }
def FnExactStepsBetweenWrongFalsely : Prop := fnExactStepsBetweenRow.holds Try.pinned (OpenSpec.ofChange fnExactStepsBetweenWrong)

/-- 'laws.FnExactChainOfSteps': WHATEVER THE INPUT: true; the input reads as it did. -/
def fnExactChainOfStepsSpec : ChangeSpec := { name := "fnExactChainOfSteps", fn := fun _ => fun
  | [d1, d2, d3] => { results := [.lit (.bool true)], args := [d1, d2, d3] }
  | _ => none }
def fnExactChainOfStepsRow : OpenClaim := { program := "ytnkehfhedjdhaaa", sum := "9362707f2872a9ef39e9d840e1a1f0417e7c278331188a1c93b65cfd9df3a5a9", func := "loop.example/g03208/laws.FnExactChainOfSteps", spec := "fnExactChainOfSteps", unfollowed := true, recurses := true, plainKeys := false, leaving := true, apart := false }
def FnExactChainOfStepsSaid : Prop := fnExactChainOfStepsRow.holds Try.pinned (OpenSpec.ofChange fnExactChainOfStepsSpec)

/-- ITS FALSE NEIGHBOUR: 'it returns false'. Refute it at one input. -/
def fnExactChainOfStepsWrong : ChangeSpec := { name := "fnExactChainOfSteps", fn := fun _ => fun
  | [d1, d2, d3] => { results := [.lit (.bool false)], args := [d1, d2, d3] }
  | _ => none }
def FnExactChainOfStepsWrongFalsely : Prop := fnExactChainOfStepsRow.holds Try.pinned (OpenSpec.ofChange fnExactChainOfStepsWrong)

/- THE SECOND FORM. 'bulk': how many values and letters a reading holds, each counted each time it is reached (what is shared counts as often as it is met; a slice's spare places count too). A statement '..UptoSaid' is the law's where the arguments, and the package variables that the reading takes, are together of bulk at most 1048576: NARROWER than '..Said'. Prove '..Said' where nothing that the law and all that it calls make is longer than what came in: it says more and counts as full. Else prove '..UptoSaid'. A law counts once. -/
mutual
def uptoBulk {H : Type} : DataW H → Nat
  | .lit (.string bytes) => bytes.length + 1
  | .lit _ => 1
  | .nil => 1
  | .ptr d => uptoBulk d + 1
  | .slice elems spare => uptoBulkAll elems + uptoBulkAll spare + 1
  | .agg parts => uptoBulkAll parts + 1
  | .iface _ d => uptoBulk d + 1
  | .map entries => uptoBulkEntries entries + 1
  | .held _ => 1
def uptoBulkAll {H : Type} : List (DataW H) → Nat
  | [] => 0
  | d :: r => uptoBulk d + uptoBulkAll r
def uptoBulkEntries {H : Type} : List (Lit × DataW H) → Nat
  | [] => 0
  | x :: r => uptoBulkEntry x + uptoBulkEntries r
def uptoBulkEntry {H : Type} : Lit × DataW H → Nat
  | (.string bytes, d) => bytes.length + uptoBulk d + 1
  | (_, d) => uptoBulk d + 1
 end
def uptoSmall : (H : Type) → List (DataW H) → Bool := fun _ ds => decide (uptoBulkAll ds ≤ 1048576)
def OpenSpec.upto (s : _root_.Go.ChangeSpec) : _root_.Go.OpenSpec := { _root_.Go.OpenSpec.ofChange s with cond := some uptoSmall }

/-- 'laws.FnCells', WHERE WHAT IT READS IS OF BULK AT MOST 1048576: true; the input reads as it did. -/
def fnCellsUptoRow : OpenClaim := { program := "ytnkehfhedjdhaaa", sum := "9362707f2872a9ef39e9d840e1a1f0417e7c278331188a1c93b65cfd9df3a5a9", func := "loop.example/g03208/laws.FnCells", spec := "fnCells", inPlace := ["internal/abi.NoEscape"], unfollowed := true, recurses := true, plainKeys := false, leaving := true, apart := false, narrowed := true }
def FnCellsUptoSaid : Prop := fnCellsUptoRow.holds Try.pinned (OpenSpec.upto fnCellsSpec)

/-- 'laws.FnSteps', WHERE WHAT IT READS IS OF BULK AT MOST 1048576: true; the input reads as it did. -/
def fnStepsUptoRow : OpenClaim := { program := "ytnkehfhedjdhaaa", sum := "9362707f2872a9ef39e9d840e1a1f0417e7c278331188a1c93b65cfd9df3a5a9", func := "loop.example/g03208/laws.FnSteps", spec := "fnSteps", unfollowed := true, recurses := true, plainKeys := false, leaving := true, apart := false, narrowed := true }
def FnStepsUptoSaid : Prop := fnStepsUptoRow.holds Try.pinned (OpenSpec.upto fnStepsSpec)

/-- 'laws.FnExactStepsOk', WHERE WHAT IT READS IS OF BULK AT MOST 1048576: true; the input reads as it did. -/
def fnExactStepsOkUptoRow : OpenClaim := { program := "ytnkehfhedjdhaaa", sum := "9362707f2872a9ef39e9d840e1a1f0417e7c278331188a1c93b65cfd9df3a5a9", func := "loop.example/g03208/laws.FnExactStepsOk", spec := "fnExactStepsOk", plainKeys := false, apart := false, narrowed := true }
def FnExactStepsOkUptoSaid : Prop := fnExactStepsOkUptoRow.holds Try.pinned (OpenSpec.upto fnExactStepsOkSpec)

/-- 'laws.FnExactLowerPiece', WHERE WHAT IT READS IS OF BULK AT MOST 1048576: true; the input reads as it did. -/
def fnExactLowerPieceUptoRow : OpenClaim := { program := "ytnkehfhedjdhaaa", sum := "9362707f2872a9ef39e9d840e1a1f0417e7c278331188a1c93b65cfd9df3a5a9", func := "loop.example/g03208/laws.FnExactLowerPiece", spec := "fnExactLowerPiece", plainKeys := false, apart := false, narrowed := true }
def FnExactLowerPieceUptoSaid : Prop := fnExactLowerPieceUptoRow.holds Try.pinned (OpenSpec.upto fnExactLowerPieceSpec)

/-- 'laws.FnExactUpperPiece', WHERE WHAT IT READS IS OF BULK AT MOST 1048576: true; the input reads as it did. -/
def fnExactUpperPieceUptoRow : OpenClaim := { program := "ytnkehfhedjdhaaa", sum := "9362707f2872a9ef39e9d840e1a1f0417e7c278331188a1c93b65cfd9df3a5a9", func := "loop.example/g03208/laws.FnExactUpperPiece", spec := "fnExactUpperPiece", plainKeys := false, apart := false, narrowed := true }
def FnExactUpperPieceUptoSaid : Prop := fnExactUpperPieceUptoRow.holds Try.pinned (OpenSpec.upto fnExactUpperPieceSpec)

/-- 'laws.FnExactMovedUpper', WHERE WHAT IT READS IS OF BULK AT MOST 1048576: true; the input reads as it did. -/
def fnExactMovedUpperUptoRow : OpenClaim := { program := "ytnkehfhedjdhaaa", sum := "9362707f2872a9ef39e9d840e1a1f0417e7c278331188a1c93b65cfd9df3a5a9", func := "loop.example/g03208/laws.FnExactMovedUpper", spec := "fnExactMovedUpper", unfollowed := true, recurses := true, plainKeys := false, leaving := true, apart := false, narrowed := true }
def FnExactMovedUpperUptoSaid : Prop := fnExactMovedUpperUptoRow.holds Try.pinned (OpenSpec.upto fnExactMovedUpperSpec)

/-- 'laws.FnExactRectangleOf', WHERE WHAT IT READS IS OF BULK AT MOST 1048576: true; the input reads as it did. -/
def fnExactRectangleOfUptoRow : OpenClaim := { program := "ytnkehfhedjdhaaa", sum := "9362707f2872a9ef39e9d840e1a1f0417e7c278331188a1c93b65cfd9df3a5a9", func := "loop.example/g03208/laws.FnExactRectangleOf", spec := "fnExactRectangleOf", plainKeys := false, apart := false, narrowed := true }
def FnExactRectangleOfUptoSaid : Prop := fnExactRectangleOfUptoRow.holds Try.pinned (OpenSpec.upto fnExactRectangleOfSpec)

/-- 'laws.FnExactStepsBetween', WHERE WHAT IT READS IS OF BULK AT MOST 1048576: true; the input reads as it did. -/
def fnExactStepsBetweenUptoRow : OpenClaim := { program := "ytnkehfhedjdhaaa", sum := "9362707f2872a9ef39e9d840e1a1f0417e7c278331188a1c93b65cfd9df3a5a9", func := "loop.example/g03208/laws.FnExactStepsBetween", spec := "fnExactStepsBetween", plainKeys := false, apart := false, narrowed := true }
def FnExactStepsBetweenUptoSaid : Prop := fnExactStepsBetweenUptoRow.holds Try.pinned (OpenSpec.upto fnExactStepsBetweenSpec)

/-- 'laws.FnExactChainOfSteps', WHERE WHAT IT READS IS OF BULK AT MOST 1048576: true; the input reads as it did. -/
def fnExactChainOfStepsUptoRow : OpenClaim := { program := "ytnkehfhedjdhaaa", sum := "9362707f2872a9ef39e9d840e1a1f0417e7c278331188a1c93b65cfd9df3a5a9", func := "loop.example/g03208/laws.FnExactChainOfSteps", spec := "fnExactChainOfSteps", unfollowed := true, recurses := true, plainKeys := false, leaving := true, apart := false, narrowed := true }
def FnExactChainOfStepsUptoSaid : Prop := fnExactChainOfStepsUptoRow.holds Try.pinned (OpenSpec.upto fnExactChainOfStepsSpec)

end Rows
end Go.Proofs.Ytnkehfhedjdhaaa
