/-
  No cell of these rows narrows 'for every input' (looked for: loops, veiled, ifaces, maps, wideKeys, modest, calm, conditions, laid).
  DERIVED. THE GIVEN ROWS OF THIS SEAT. 8 by the template 'for every input the law returns true; each argument reads behind the call as it read before'; 0 by the template 'total and deterministic' (their statements: YtncahchhinfneaaTotals.lean).
  GIVEN WITH THE SEED: the statements are not yours to turn. If you find one false, say at which input.
  Laid BY PROGRAM, IN A SANDBOX (cutbox-rows.mjs): the forced cells as the released guide's own fill.sh prints them over the translation 4c27659f99c13503… (all of the seat's roots in one cut). By AI agents, Wed Nov 11 2026. No macro, syntax, notation, axiom, sorry.
-/
import Derived.Test.YtncahchhinfneaaChecked
import GoSem.Claim
import GoSem.ClaimJoined
import GoSem.ClaimMapViews
import Derived.JoinedTies
import Derived.KernelRfl
namespace Go.Proofs.Ytncahchhinfneaa
/- THE CELL 'sum', in the pinned program and in every row, IS THE sha256 OF THE DUMP (.gsa) THAT YtncahchhinfneaaProg.lean LOADS. Nothing in Lean hashes anything: it is a label: what it is worth is what the hold of that sum in a sandbox is worth. -/
noncomputable def Try.pinned : Pinned := { name := "ytncahchhinfneaa", sum := "4c27659f99c135039b177a4f27a982632642c7927b74794ab5c50cc0d88fc62c", checked := Try.checked }
namespace Rows
def none {H : Type} : Left H := { results := [], args := [] }

/-- 'laws.FnHulls': WHATEVER THE INPUT: true; the input reads as it did. -/
def fnHullsSpec : ChangeSpec := { name := "fnHulls", fn := fun _ => fun
  | [d] => { results := [.lit (.bool true)], args := [d] }
  | _ => none }
def fnHullsRow : OpenClaim := { program := "ytncahchhinfneaa", sum := "4c27659f99c135039b177a4f27a982632642c7927b74794ab5c50cc0d88fc62c", func := "loop.example/g03208/laws.FnHulls", spec := "fnHulls", unfollowed := true, recurses := true, plainKeys := false, apart := false }
def FnHullsSaid : Prop := fnHullsRow.holds Try.pinned (OpenSpec.ofChange fnHullsSpec)

/-- ITS FALSE NEIGHBOUR: 'it returns false'. Refute it at one input. -/
def fnHullsWrong : ChangeSpec := { name := "fnHulls", fn := fun _ => fun
  | [d] => { results := [.lit (.bool false)], args := [d] }
  | _ => none }
def FnHullsWrongFalsely : Prop := fnHullsRow.holds Try.pinned (OpenSpec.ofChange fnHullsWrong)

/-- 'laws.FnMotions': WHATEVER THE INPUT: true; the input reads as it did. -/
def fnMotionsSpec : ChangeSpec := { name := "fnMotions", fn := fun _ => fun
  | [d] => { results := [.lit (.bool true)], args := [d] }
  | _ => none }
def fnMotionsRow : OpenClaim := { program := "ytncahchhinfneaa", sum := "4c27659f99c135039b177a4f27a982632642c7927b74794ab5c50cc0d88fc62c", func := "loop.example/g03208/laws.FnMotions", spec := "fnMotions", unfollowed := true, recurses := true, plainKeys := false, apart := false }
def FnMotionsSaid : Prop := fnMotionsRow.holds Try.pinned (OpenSpec.ofChange fnMotionsSpec)

/-- ITS FALSE NEIGHBOUR: 'it returns false'. Refute it at one input. -/
def fnMotionsWrong : ChangeSpec := { name := "fnMotions", fn := fun _ => fun
  | [d] => { results := [.lit (.bool false)], args := [d] }
  | _ => none }
def FnMotionsWrongFalsely : Prop := fnMotionsRow.holds Try.pinned (OpenSpec.ofChange fnMotionsWrong)

/-- 'laws.FnCells': WHATEVER THE INPUT: true; the input reads as it did. -/
def fnCellsSpec : ChangeSpec := { name := "fnCells", fn := fun _ => fun
  | [d] => { results := [.lit (.bool true)], args := [d] }
  | _ => none }
def fnCellsRow : OpenClaim := { program := "ytncahchhinfneaa", sum := "4c27659f99c135039b177a4f27a982632642c7927b74794ab5c50cc0d88fc62c", func := "loop.example/g03208/laws.FnCells", spec := "fnCells", inPlace := ["internal/abi.NoEscape"], unfollowed := true, recurses := true, plainKeys := false, apart := false }
def FnCellsSaid : Prop := fnCellsRow.holds Try.pinned (OpenSpec.ofChange fnCellsSpec)

/-- ITS FALSE NEIGHBOUR: 'it returns false'. Refute it at one input. -/
def fnCellsWrong : ChangeSpec := { name := "fnCells", fn := fun _ => fun
  | [d] => { results := [.lit (.bool false)], args := [d] }
  | _ => none }
def FnCellsWrongFalsely : Prop := fnCellsRow.holds Try.pinned (OpenSpec.ofChange fnCellsWrong)

/-- 'laws.FnExactSamePiece': WHATEVER THE INPUT: true; the input reads as it did. -/
def fnExactSamePieceSpec : ChangeSpec := { name := "fnExactSamePiece", fn := fun _ => fun
  | [d1, d2, d3, d4] => { results := [.lit (.bool true)], args := [d1, d2, d3, d4] }
  | _ => none }
def fnExactSamePieceRow : OpenClaim := { program := "ytncahchhinfneaa", sum := "4c27659f99c135039b177a4f27a982632642c7927b74794ab5c50cc0d88fc62c", func := "loop.example/g03208/laws.FnExactSamePiece", spec := "fnExactSamePiece", unfollowed := true, recurses := true, plainKeys := false, apart := false }
def FnExactSamePieceSaid : Prop := fnExactSamePieceRow.holds Try.pinned (OpenSpec.ofChange fnExactSamePieceSpec)

/-- ITS FALSE NEIGHBOUR: 'it returns false'. Refute it at one input. -/
def fnExactSamePieceWrong : ChangeSpec := { name := "fnExactSamePiece", fn := fun _ => fun
  | [d1, d2, d3, d4] => { results := [.lit (.bool false)], args := [d1, d2, d3, d4] }
  | _ => none }
def FnExactSamePieceWrongFalsely : Prop := fnExactSamePieceRow.holds Try.pinned (OpenSpec.ofChange fnExactSamePieceWrong)

/-- 'laws.FnExactMatchPieces': WHATEVER THE INPUT: true; the input reads as it did. -/
def fnExactMatchPiecesSpec : ChangeSpec := { name := "fnExactMatchPieces", fn := fun _ => fun
  | [d1, d2, d3, d4] => { results := [.lit (.bool true)], args := [d1, d2, d3, d4] }
  | _ => none }
def fnExactMatchPiecesRow : OpenClaim := { program := "ytncahchhinfneaa", sum := "4c27659f99c135039b177a4f27a982632642c7927b74794ab5c50cc0d88fc62c", func := "loop.example/g03208/laws.FnExactMatchPieces", spec := "fnExactMatchPieces", unfollowed := true, recurses := true, plainKeys := false, apart := false }
def FnExactMatchPiecesSaid : Prop := fnExactMatchPiecesRow.holds Try.pinned (OpenSpec.ofChange fnExactMatchPiecesSpec)

/-- ITS FALSE NEIGHBOUR: 'it returns false'. Refute it at one input. -/
def fnExactMatchPiecesWrong : ChangeSpec := { name := "fnExactMatchPieces", fn := fun _ => fun
  | [d1, d2, d3, d4] => { results := [.lit (.bool false)], args := [d1, d2, d3, d4] }
  | _ => none }
def FnExactMatchPiecesWrongFalsely : Prop := fnExactMatchPiecesRow.holds Try.pinned (OpenSpec.ofChange fnExactMatchPiecesWrong)

/-- 'laws.FnExactIsDissection': WHATEVER THE INPUT: true; the input reads as it did. -/
def fnExactIsDissectionSpec : ChangeSpec := { name := "fnExactIsDissection", fn := fun _ => fun
  | [d1, d2, d3, d4, d5, d6] => { results := [.lit (.bool true)], args := [d1, d2, d3, d4, d5, d6] }
  | _ => none }
def fnExactIsDissectionRow : OpenClaim := { program := "ytncahchhinfneaa", sum := "4c27659f99c135039b177a4f27a982632642c7927b74794ab5c50cc0d88fc62c", func := "loop.example/g03208/laws.FnExactIsDissection", spec := "fnExactIsDissection", unfollowed := true, recurses := true, plainKeys := false, apart := false }
def FnExactIsDissectionSaid : Prop := fnExactIsDissectionRow.holds Try.pinned (OpenSpec.ofChange fnExactIsDissectionSpec)

/-- ITS FALSE NEIGHBOUR: 'it returns false'. Refute it at one input. -/
def fnExactIsDissectionWrong : ChangeSpec := { name := "fnExactIsDissection", fn := fun _ => fun
  | [d1, d2, d3, d4, d5, d6] => { results := [.lit (.bool false)], args := [d1, d2, d3, d4, d5, d6] }
  | _ => none }
def FnExactIsDissectionWrongFalsely : Prop := fnExactIsDissectionRow.holds Try.pinned (OpenSpec.ofChange fnExactIsDissectionWrong)

/-- 'laws.FnExactDissect': WHATEVER THE INPUT: true; the input reads as it did. -/
def fnExactDissectSpec : ChangeSpec := { name := "fnExactDissect", fn := fun _ => fun
  | [d1, d2, d3, d4, d5] => { results := [.lit (.bool true)], args := [d1, d2, d3, d4, d5] }
  | _ => none }
def fnExactDissectRow : OpenClaim := { program := "ytncahchhinfneaa", sum := "4c27659f99c135039b177a4f27a982632642c7927b74794ab5c50cc0d88fc62c", func := "loop.example/g03208/laws.FnExactDissect", spec := "fnExactDissect", unfollowed := true, recurses := true, plainKeys := false, apart := false }
def FnExactDissectSaid : Prop := fnExactDissectRow.holds Try.pinned (OpenSpec.ofChange fnExactDissectSpec)

/-- ITS FALSE NEIGHBOUR: 'it returns false'. Refute it at one input. -/
def fnExactDissectWrong : ChangeSpec := { name := "fnExactDissect", fn := fun _ => fun
  | [d1, d2, d3, d4, d5] => { results := [.lit (.bool false)], args := [d1, d2, d3, d4, d5] }
  | _ => none }
def FnExactDissectWrongFalsely : Prop := fnExactDissectRow.holds Try.pinned (OpenSpec.ofChange fnExactDissectWrong)

/-- 'laws.FnExactFewestPieces': WHATEVER THE INPUT: true; the input reads as it did. -/
def fnExactFewestPiecesSpec : ChangeSpec := { name := "fnExactFewestPieces", fn := fun _ => fun
  | [d1, d2, d3, d4] => { results := [.lit (.bool true)], args := [d1, d2, d3, d4] }
  | _ => none }
def fnExactFewestPiecesRow : OpenClaim := { program := "ytncahchhinfneaa", sum := "4c27659f99c135039b177a4f27a982632642c7927b74794ab5c50cc0d88fc62c", func := "loop.example/g03208/laws.FnExactFewestPieces", spec := "fnExactFewestPieces", unfollowed := true, recurses := true, plainKeys := false, apart := false }
def FnExactFewestPiecesSaid : Prop := fnExactFewestPiecesRow.holds Try.pinned (OpenSpec.ofChange fnExactFewestPiecesSpec)

/-- ITS FALSE NEIGHBOUR: 'it returns false'. Refute it at one input. -/
def fnExactFewestPiecesWrong : ChangeSpec := { name := "fnExactFewestPieces", fn := fun _ => fun
  | [d1, d2, d3, d4] => { results := [.lit (.bool false)], args := [d1, d2, d3, d4] }
  | _ => none }
def FnExactFewestPiecesWrongFalsely : Prop := fnExactFewestPiecesRow.holds Try.pinned (OpenSpec.ofChange fnExactFewestPiecesWrong)

/- THE SECOND FORM. 'bulk': how many values and letters a reading holds, each counted each time it is reached (what is shared counts as often as it is met; a slice's spare places count too). A statement '..UptoSaid' is the law's where the arguments, and the package variables that the reading takes, are together of bulk at most 1048576: NARROWER than '..Said'. Prove '..Said' where nothing that the law and all that it calls make is longer than what came in: it says more and counts as full. Else prove '..UptoSaid'. A law counts once. -/
mutual
def uptoBulk {H : Type} : DataW H → Nat
  | .lit (.string bytes) => bytes.length + 1
  | .lit _ => 1
  | .nil => 1
  | .ptr d => uptoBulk d + 1
  | .slice elems spare => uptoBulkAll elems + uptoBulkAll spare + 1
  | .agg parts => uptoBulkAll parts + 1
  | .iface _ d => uptoBulk d + 1
  | .map entries => uptoBulkEntries entries + 1
  | .held _ => 1
def uptoBulkAll {H : Type} : List (DataW H) → Nat
  | [] => 0
  | d :: r => uptoBulk d + uptoBulkAll r
def uptoBulkEntries {H : Type} : List (Lit × DataW H) → Nat
  | [] => 0
  | x :: r => uptoBulkEntry x + uptoBulkEntries r
def uptoBulkEntry {H : Type} : Lit × DataW H → Nat
  | (.string bytes, d) => bytes.length + uptoBulk d + 1
  | (_, d) => uptoBulk d + 1
 end
def uptoSmall : (H : Type) → List (DataW H) → Bool := fun _ ds => decide (uptoBulkAll ds ≤ 1048576)
def OpenSpec.upto (s : _root_.Go.ChangeSpec) : _root_.Go.OpenSpec := { _root_.Go.OpenSpec.ofChange s with cond := some uptoSmall }

/-- 'laws.FnHulls', WHERE WHAT IT READS IS OF BULK AT MOST 1048576: true; the input reads as it did. -/
def fnHullsUptoRow : OpenClaim := { program := "ytncahchhinfneaa", sum := "4c27659f99c135039b177a4f27a982632642c7927b74794ab5c50cc0d88fc62c", func := "loop.example/g03208/laws.FnHulls", spec := "fnHulls", unfollowed := true, recurses := true, plainKeys := false, apart := false, narrowed := true }
def FnHullsUptoSaid : Prop := fnHullsUptoRow.holds Try.pinned (OpenSpec.upto fnHullsSpec)

/-- 'laws.FnMotions', WHERE WHAT IT READS IS OF BULK AT MOST 1048576: true; the input reads as it did. -/
def fnMotionsUptoRow : OpenClaim := { program := "ytncahchhinfneaa", sum := "4c27659f99c135039b177a4f27a982632642c7927b74794ab5c50cc0d88fc62c", func := "loop.example/g03208/laws.FnMotions", spec := "fnMotions", unfollowed := true, recurses := true, plainKeys := false, apart := false, narrowed := true }
def FnMotionsUptoSaid : Prop := fnMotionsUptoRow.holds Try.pinned (OpenSpec.upto fnMotionsSpec)

/-- 'laws.FnCells', WHERE WHAT IT READS IS OF BULK AT MOST 1048576: true; the input reads as it did. -/
def fnCellsUptoRow : OpenClaim := { program := "ytncahchhinfneaa", sum := "4c27659f99c135039b177a4f27a982632642c7927b74794ab5c50cc0d88fc62c", func := "loop.example/g03208/laws.FnCells", spec := "fnCells", inPlace := ["internal/abi.NoEscape"], unfollowed := true, recurses := true, plainKeys := false, apart := false, narrowed := true }
def FnCellsUptoSaid : Prop := fnCellsUptoRow.holds Try.pinned (OpenSpec.upto fnCellsSpec)

/-- 'laws.FnExactSamePiece', WHERE WHAT IT READS IS OF BULK AT MOST 1048576: true; the input reads as it did. -/
def fnExactSamePieceUptoRow : OpenClaim := { program := "ytncahchhinfneaa", sum := "4c27659f99c135039b177a4f27a982632642c7927b74794ab5c50cc0d88fc62c", func := "loop.example/g03208/laws.FnExactSamePiece", spec := "fnExactSamePiece", unfollowed := true, recurses := true, plainKeys := false, apart := false, narrowed := true }
def FnExactSamePieceUptoSaid : Prop := fnExactSamePieceUptoRow.holds Try.pinned (OpenSpec.upto fnExactSamePieceSpec)

/-- 'laws.FnExactMatchPieces', WHERE WHAT IT READS IS OF BULK AT MOST 1048576: true; the input reads as it did. -/
def fnExactMatchPiecesUptoRow : OpenClaim := { program := "ytncahchhinfneaa", sum := "4c27659f99c135039b177a4f27a982632642c7927b74794ab5c50cc0d88fc62c", func := "loop.example/g03208/laws.FnExactMatchPieces", spec := "fnExactMatchPieces", unfollowed := true, recurses := true, plainKeys := false, apart := false, narrowed := true }
def FnExactMatchPiecesUptoSaid : Prop := fnExactMatchPiecesUptoRow.holds Try.pinned (OpenSpec.upto fnExactMatchPiecesSpec)

/-- 'laws.FnExactIsDissection', WHERE WHAT IT READS IS OF BULK AT MOST 1048576: true; the input reads as it did. -/
def fnExactIsDissectionUptoRow : OpenClaim := { program := "ytncahchhinfneaa", sum := "4c27659f99c135039b177a4f27a982632642c7927b74794ab5c50cc0d88fc62c", func := "loop.example/g03208/laws.FnExactIsDissection", spec := "fnExactIsDissection", unfollowed := true, recurses := true, plainKeys := false, apart := false, narrowed := true }
def FnExactIsDissectionUptoSaid : Prop := fnExactIsDissectionUptoRow.holds Try.pinned (OpenSpec.upto fnExactIsDissectionSpec)

/-- 'laws.FnExactDissect', WHERE WHAT IT READS IS OF BULK AT MOST 1048576: true; the input reads as it did. -/
def fnExactDissectUptoRow : OpenClaim := { program := "ytncahchhinfneaa", sum := "4c27659f99c135039b177a4f27a982632642c7927b74794ab5c50cc0d88fc62c", func := "loop.example/g03208/laws.FnExactDissect", spec := "fnExactDissect", unfollowed := true, recurses := true, plainKeys := false, apart := false, narrowed := true }
def FnExactDissectUptoSaid : Prop := fnExactDissectUptoRow.holds Try.pinned (OpenSpec.upto fnExactDissectSpec)

/-- 'laws.FnExactFewestPieces', WHERE WHAT IT READS IS OF BULK AT MOST 1048576: true; the input reads as it did. -/
def fnExactFewestPiecesUptoRow : OpenClaim := { program := "ytncahchhinfneaa", sum := "4c27659f99c135039b177a4f27a982632642c7927b74794ab5c50cc0d88fc62c", func := "loop.example/g03208/laws.FnExactFewestPieces", spec := "fnExactFewestPieces", unfollowed := true, recurses := true, plainKeys := false, apart := false, narrowed := true }
def FnExactFewestPiecesUptoSaid : Prop := fnExactFewestPiecesUptoRow.holds Try.pinned (OpenSpec.upto fnExactFewestPiecesSpec)

end Rows
end Go.Proofs.Ytncahchhinfneaa
