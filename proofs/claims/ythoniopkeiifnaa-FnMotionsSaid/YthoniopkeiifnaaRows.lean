/-
  No cell of these rows narrows 'for every input' (looked for: loops, veiled, ifaces, maps, wideKeys, modest, calm, conditions, laid).
  DERIVED. THE GIVEN ROWS OF THIS SEAT. 11 by the template 'for every input the law returns true; each argument reads behind the call as it read before'; 0 by the template 'total and deterministic' (their statements: YthoniopkeiifnaaTotals.lean).
  GIVEN WITH THE SEED: the statements are not yours to turn. If you find one false, say at which input.
  Laid BY PROGRAM, IN A SANDBOX (cutbox-rows.mjs): the forced cells as the released guide's own fill.sh prints them over the translation f577a24f2b841368… (all of the seat's roots in one cut). By AI agents, Wed Nov 11 2026. No macro, syntax, notation, axiom, sorry.
-/
import Derived.Test.YthoniopkeiifnaaChecked
import GoSem.Claim
import GoSem.ClaimJoined
import GoSem.ClaimMapViews
import Derived.JoinedTies
import Derived.KernelRfl
namespace Go.Proofs.Ythoniopkeiifnaa
/- THE CELL 'sum', in the pinned program and in every row, IS THE sha256 OF THE DUMP (.gsa) THAT YthoniopkeiifnaaProg.lean LOADS. Nothing in Lean hashes anything: it is a label: what it is worth is what the hold of that sum in a sandbox is worth. -/
noncomputable def Try.pinned : Pinned := { name := "ythoniopkeiifnaa", sum := "f577a24f2b8413689b22a04f8a2ea0a6c869f0546ce37ab284b9023f3b8c1f0b", checked := Try.checked }
namespace Rows
def none {H : Type} : Left H := { results := [], args := [] }

/-- 'laws.FnExactGreedySquares': WHATEVER THE INPUT: true; the input reads as it did. -/
def fnExactGreedySquaresSpec : ChangeSpec := { name := "fnExactGreedySquares", fn := fun _ => fun
  | [d1, d2] => { results := [.lit (.bool true)], args := [d1, d2] }
  | _ => none }
def fnExactGreedySquaresRow : OpenClaim := { program := "ythoniopkeiifnaa", sum := "f577a24f2b8413689b22a04f8a2ea0a6c869f0546ce37ab284b9023f3b8c1f0b", func := "loop.example/g03208/laws.FnExactGreedySquares", spec := "fnExactGreedySquares", unfollowed := true, recurses := true, plainKeys := false, apart := false }
def FnExactGreedySquaresSaid : Prop := fnExactGreedySquaresRow.holds Try.pinned (OpenSpec.ofChange fnExactGreedySquaresSpec)

/-- ITS FALSE NEIGHBOUR: 'it returns false'. Refute it at one input. -/
def fnExactGreedySquaresWrong : ChangeSpec := { name := "fnExactGreedySquares", fn := fun _ => fun
  | [d1, d2] => { results := [.lit (.bool false)], args := [d1, d2] }
  | _ => none }
def FnExactGreedySquaresWrongFalsely : Prop := fnExactGreedySquaresRow.holds Try.pinned (OpenSpec.ofChange fnExactGreedySquaresWrong)

/-- 'laws.FnExactQuotientsOf': WHATEVER THE INPUT: true; the input reads as it did. -/
def fnExactQuotientsOfSpec : ChangeSpec := { name := "fnExactQuotientsOf", fn := fun _ => fun
  | [d1, d2] => { results := [.lit (.bool true)], args := [d1, d2] }
  | _ => none }
def fnExactQuotientsOfRow : OpenClaim := { program := "ythoniopkeiifnaa", sum := "f577a24f2b8413689b22a04f8a2ea0a6c869f0546ce37ab284b9023f3b8c1f0b", func := "loop.example/g03208/laws.FnExactQuotientsOf", spec := "fnExactQuotientsOf", unfollowed := true, recurses := true, plainKeys := false, apart := false }
def FnExactQuotientsOfSaid : Prop := fnExactQuotientsOfRow.holds Try.pinned (OpenSpec.ofChange fnExactQuotientsOfSpec)

/-- ITS FALSE NEIGHBOUR: 'it returns false'. Refute it at one input. -/
def fnExactQuotientsOfWrong : ChangeSpec := { name := "fnExactQuotientsOf", fn := fun _ => fun
  | [d1, d2] => { results := [.lit (.bool false)], args := [d1, d2] }
  | _ => none }
def FnExactQuotientsOfWrongFalsely : Prop := fnExactQuotientsOfRow.holds Try.pinned (OpenSpec.ofChange fnExactQuotientsOfWrong)

/-- 'laws.FnExactRectangleFrom': WHATEVER THE INPUT: true; the input reads as it did. -/
def fnExactRectangleFromSpec : ChangeSpec := { name := "fnExactRectangleFrom", fn := fun _ => fun
  | [d1, d2] => { results := [.lit (.bool true)], args := [d1, d2] }
  | _ => none }
def fnExactRectangleFromRow : OpenClaim := { program := "ythoniopkeiifnaa", sum := "f577a24f2b8413689b22a04f8a2ea0a6c869f0546ce37ab284b9023f3b8c1f0b", func := "loop.example/g03208/laws.FnExactRectangleFrom", spec := "fnExactRectangleFrom", unfollowed := true, recurses := true, plainKeys := false, apart := false }
def FnExactRectangleFromSaid : Prop := fnExactRectangleFromRow.holds Try.pinned (OpenSpec.ofChange fnExactRectangleFromSpec)

/-- ITS FALSE NEIGHBOUR: 'it returns false'. Refute it at one input. -/
def fnExactRectangleFromWrong : ChangeSpec := { name := "fnExactRectangleFrom", fn := fun _ => fun
  | [d1, d2] => { results := [.lit (.bool false)], args := [d1, d2] }
  | _ => none }
def FnExactRectangleFromWrongFalsely : Prop := fnExactRectangleFromRow.holds Try.pinned (OpenSpec.ofChange fnExactRectangleFromWrong)

/-- 'laws.FnExactFewestSquares': WHATEVER THE INPUT: true; the input reads as it did. -/
def fnExactFewestSquaresSpec : ChangeSpec := { name := "fnExactFewestSquares", fn := fun _ => fun
  | [d1, d2] => { results := [.lit (.bool true)], args := [d1, d2] }
  | _ => none }
def fnExactFewestSquaresRow : OpenClaim := { program := "ythoniopkeiifnaa", sum := "f577a24f2b8413689b22a04f8a2ea0a6c869f0546ce37ab284b9023f3b8c1f0b", func := "loop.example/g03208/laws.FnExactFewestSquares", spec := "fnExactFewestSquares", plainKeys := false, apart := false }
def FnExactFewestSquaresSaid : Prop := fnExactFewestSquaresRow.holds Try.pinned (OpenSpec.ofChange fnExactFewestSquaresSpec)

/-- ITS FALSE NEIGHBOUR: 'it returns false'. Refute it at one input. -/
def fnExactFewestSquaresWrong : ChangeSpec := { name := "fnExactFewestSquares", fn := fun _ => fun
  | [d1, d2] => { results := [.lit (.bool false)], args := [d1, d2] }
  | _ => none }
def FnExactFewestSquaresWrongFalsely : Prop := fnExactFewestSquaresRow.holds Try.pinned (OpenSpec.ofChange fnExactFewestSquaresWrong)

/-- 'laws.FnExactSumOfSquares': WHATEVER THE INPUT: true; the input reads as it did. -/
def fnExactSumOfSquaresSpec : ChangeSpec := { name := "fnExactSumOfSquares", fn := fun _ => fun
  | [d] => { results := [.lit (.bool true)], args := [d] }
  | _ => none }
def fnExactSumOfSquaresRow : OpenClaim := { program := "ythoniopkeiifnaa", sum := "f577a24f2b8413689b22a04f8a2ea0a6c869f0546ce37ab284b9023f3b8c1f0b", func := "loop.example/g03208/laws.FnExactSumOfSquares", spec := "fnExactSumOfSquares", unfollowed := true, recurses := true, plainKeys := false, apart := false }
def FnExactSumOfSquaresSaid : Prop := fnExactSumOfSquaresRow.holds Try.pinned (OpenSpec.ofChange fnExactSumOfSquaresSpec)

/-- ITS FALSE NEIGHBOUR: 'it returns false'. Refute it at one input. -/
def fnExactSumOfSquaresWrong : ChangeSpec := { name := "fnExactSumOfSquares", fn := fun _ => fun
  | [d] => { results := [.lit (.bool false)], args := [d] }
  | _ => none }
def FnExactSumOfSquaresWrongFalsely : Prop := fnExactSumOfSquaresRow.holds Try.pinned (OpenSpec.ofChange fnExactSumOfSquaresWrong)

/-- 'laws.FnExactCornersOf': WHATEVER THE INPUT: true; the input reads as it did. -/
def fnExactCornersOfSpec : ChangeSpec := { name := "fnExactCornersOf", fn := fun _ => fun
  | [d1, d2, d3] => { results := [.lit (.bool true)], args := [d1, d2, d3] }
  | _ => none }
def fnExactCornersOfRow : OpenClaim := { program := "ythoniopkeiifnaa", sum := "f577a24f2b8413689b22a04f8a2ea0a6c869f0546ce37ab284b9023f3b8c1f0b", func := "loop.example/g03208/laws.FnExactCornersOf", spec := "fnExactCornersOf", unfollowed := true, recurses := true, plainKeys := false, apart := false }
def FnExactCornersOfSaid : Prop := fnExactCornersOfRow.holds Try.pinned (OpenSpec.ofChange fnExactCornersOfSpec)

/-- ITS FALSE NEIGHBOUR: 'it returns false'. Refute it at one input. -/
def fnExactCornersOfWrong : ChangeSpec := { name := "fnExactCornersOf", fn := fun _ => fun
  | [d1, d2, d3] => { results := [.lit (.bool false)], args := [d1, d2, d3] }
  | _ => none }
def FnExactCornersOfWrongFalsely : Prop := fnExactCornersOfRow.holds Try.pinned (OpenSpec.ofChange fnExactCornersOfWrong)

/-- 'laws.FnExactIsSquared': WHATEVER THE INPUT: true; the input reads as it did. -/
def fnExactIsSquaredSpec : ChangeSpec := { name := "fnExactIsSquared", fn := fun _ => fun
  | [d1, d2, d3] => { results := [.lit (.bool true)], args := [d1, d2, d3] }
  | _ => none }
def fnExactIsSquaredRow : OpenClaim := { program := "ythoniopkeiifnaa", sum := "f577a24f2b8413689b22a04f8a2ea0a6c869f0546ce37ab284b9023f3b8c1f0b", func := "loop.example/g03208/laws.FnExactIsSquared", spec := "fnExactIsSquared", unfollowed := true, recurses := true, plainKeys := false, apart := false }
def FnExactIsSquaredSaid : Prop := fnExactIsSquaredRow.holds Try.pinned (OpenSpec.ofChange fnExactIsSquaredSpec)

/-- ITS FALSE NEIGHBOUR: 'it returns false'. Refute it at one input. -/
def fnExactIsSquaredWrong : ChangeSpec := { name := "fnExactIsSquared", fn := fun _ => fun
  | [d1, d2, d3] => { results := [.lit (.bool false)], args := [d1, d2, d3] }
  | _ => none }
def FnExactIsSquaredWrongFalsely : Prop := fnExactIsSquaredRow.holds Try.pinned (OpenSpec.ofChange fnExactIsSquaredWrong)

/-- 'laws.FnExactIsPerfect': WHATEVER THE INPUT: true; the input reads as it did. -/
def fnExactIsPerfectSpec : ChangeSpec := { name := "fnExactIsPerfect", fn := fun _ => fun
  | [d1, d2, d3] => { results := [.lit (.bool true)], args := [d1, d2, d3] }
  | _ => none }
def fnExactIsPerfectRow : OpenClaim := { program := "ythoniopkeiifnaa", sum := "f577a24f2b8413689b22a04f8a2ea0a6c869f0546ce37ab284b9023f3b8c1f0b", func := "loop.example/g03208/laws.FnExactIsPerfect", spec := "fnExactIsPerfect", unfollowed := true, recurses := true, plainKeys := false, apart := false }
def FnExactIsPerfectSaid : Prop := fnExactIsPerfectRow.holds Try.pinned (OpenSpec.ofChange fnExactIsPerfectSpec)

/-- ITS FALSE NEIGHBOUR: 'it returns false'. Refute it at one input. -/
def fnExactIsPerfectWrong : ChangeSpec := { name := "fnExactIsPerfect", fn := fun _ => fun
  | [d1, d2, d3] => { results := [.lit (.bool false)], args := [d1, d2, d3] }
  | _ => none }
def FnExactIsPerfectWrongFalsely : Prop := fnExactIsPerfectRow.holds Try.pinned (OpenSpec.ofChange fnExactIsPerfectWrong)

/-- 'laws.FnGreedy': WHATEVER THE INPUT: true; the input reads as it did. -/
def fnGreedySpec : ChangeSpec := { name := "fnGreedy", fn := fun _ => fun
  | [d] => { results := [.lit (.bool true)], args := [d] }
  | _ => none }
def fnGreedyRow : OpenClaim := { program := "ythoniopkeiifnaa", sum := "f577a24f2b8413689b22a04f8a2ea0a6c869f0546ce37ab284b9023f3b8c1f0b", func := "loop.example/g03208/laws.FnGreedy", spec := "fnGreedy", unfollowed := true, recurses := true, plainKeys := false, apart := false }
def FnGreedySaid : Prop := fnGreedyRow.holds Try.pinned (OpenSpec.ofChange fnGreedySpec)

/-- ITS FALSE NEIGHBOUR: 'it returns false'. Refute it at one input. -/
def fnGreedyWrong : ChangeSpec := { name := "fnGreedy", fn := fun _ => fun
  | [d] => { results := [.lit (.bool false)], args := [d] }
  | _ => none }
def FnGreedyWrongFalsely : Prop := fnGreedyRow.holds Try.pinned (OpenSpec.ofChange fnGreedyWrong)

/-- 'laws.FnMotions': WHATEVER THE INPUT: true; the input reads as it did. -/
def fnMotionsSpec : ChangeSpec := { name := "fnMotions", fn := fun _ => fun
  | [d] => { results := [.lit (.bool true)], args := [d] }
  | _ => none }
def fnMotionsRow : OpenClaim := { program := "ythoniopkeiifnaa", sum := "f577a24f2b8413689b22a04f8a2ea0a6c869f0546ce37ab284b9023f3b8c1f0b", func := "loop.example/g03208/laws.FnMotions", spec := "fnMotions", unfollowed := true, recurses := true, plainKeys := false, apart := false }
def FnMotionsSaid : Prop := fnMotionsRow.holds Try.pinned (OpenSpec.ofChange fnMotionsSpec)

/-- ITS FALSE NEIGHBOUR: 'it returns false'. Refute it at one input. -/
def fnMotionsWrong : ChangeSpec := { name := "fnMotions", fn := fun _ => fun
  | [d] => { results := [.lit (.bool false)], args := [d] }
  | _ => none }
def FnMotionsWrongFalsely : Prop := fnMotionsRow.holds Try.pinned (OpenSpec.ofChange fnMotionsWrong)

/-- 'laws.FnHulls': WHATEVER THE INPUT: true; the input reads as it did. -/
def fnHullsSpec : ChangeSpec := { name := "fnHulls", fn := fun _ => fun
  | [d] => { results := [.lit (.bool true)], args := [d] }
  | _ => none }
def fnHullsRow : OpenClaim := { program := "ythoniopkeiifnaa", sum := "f577a24f2b8413689b22a04f8a2ea0a6c869f0546ce37ab284b9023f3b8c1f0b", func := "loop.example/g03208/laws.FnHulls", spec := "fnHulls", unfollowed := true, recurses := true, plainKeys := false, apart := false }
def FnHullsSaid : Prop := fnHullsRow.holds Try.pinned (OpenSpec.ofChange fnHullsSpec)

/-- ITS FALSE NEIGHBOUR: 'it returns false'. Refute it at one input. -/
def fnHullsWrong : ChangeSpec := { name := "fnHulls", fn := fun _ => fun
  | [d] => { results := [.lit (.bool false)], args := [d] }
  | _ => none }
def FnHullsWrongFalsely : Prop := fnHullsRow.holds Try.pinned (OpenSpec.ofChange fnHullsWrong)

/- THE SECOND FORM. 'bulk': how many values and letters a reading holds, each counted each time it is reached (what is shared counts as often as it is met; a slice's spare places count too). A statement '..UptoSaid' is the law's where the arguments, and the package variables that the reading takes, are together of bulk at most 1048576: NARROWER than '..Said'. Prove '..Said' where nothing that the law and all that it calls make is longer than what came in: it says more and counts as full. Else prove '..UptoSaid'. A law counts once. -/
mutual
def uptoBulk {H : Type} : DataW H → Nat
  | .lit (.string bytes) => bytes.length + 1
  | .lit _ => 1
  | .nil => 1
  | .ptr d => uptoBulk d + 1
  | .slice elems spare => uptoBulkAll elems + uptoBulkAll spare + 1
  | .agg parts => uptoBulkAll parts + 1
  | .iface _ d => uptoBulk d + 1
  | .map entries => uptoBulkEntries entries + 1
  | .held _ => 1
def uptoBulkAll {H : Type} : List (DataW H) → Nat
  | [] => 0
  | d :: r => uptoBulk d + uptoBulkAll r
def uptoBulkEntries {H : Type} : List (Lit × DataW H) → Nat
  | [] => 0
  | x :: r => uptoBulkEntry x + uptoBulkEntries r
def uptoBulkEntry {H : Type} : Lit × DataW H → Nat
  | (.string bytes, d) => bytes.length + uptoBulk d + 1
  | (_, d) => uptoBulk d + 1
 end
def uptoSmall : (H : Type) → List (DataW H) → Bool := fun _ ds => decide (uptoBulkAll ds ≤ 1048576)
def OpenSpec.upto (s : _root_.Go.ChangeSpec) : _root_.Go.OpenSpec := { _root_.Go.OpenSpec.ofChange s with cond := some uptoSmall }

/-- 'laws.FnExactGreedySquares', WHERE WHAT IT READS IS OF BULK AT MOST 1048576: true; the input reads as it did. -/
def fnExactGreedySquaresUptoRow : OpenClaim := { program := "ythoniopkeiifnaa", sum := "f577a24f2b8413689b22a04f8a2ea0a6c869f0546ce37ab284b9023f3b8c1f0b", func := "loop.example/g03208/laws.FnExactGreedySquares", spec := "fnExactGreedySquares", unfollowed := true, recurses := true, plainKeys := false, apart := false, narrowed := true }
def FnExactGreedySquaresUptoSaid : Prop := fnExactGreedySquaresUptoRow.holds Try.pinned (OpenSpec.upto fnExactGreedySquaresSpec)

/-- 'laws.FnExactQuotientsOf', WHERE WHAT IT READS IS OF BULK AT MOST 1048576: true; the input reads as it did. -/
def fnExactQuotientsOfUptoRow : OpenClaim := { program := "ythoniopkeiifnaa", sum := "f577a24f2b8413689b22a04f8a2ea0a6c869f0546ce37ab284b9023f3b8c1f0b", func := "loop.example/g03208/laws.FnExactQuotientsOf", spec := "fnExactQuotientsOf", unfollowed := true, recurses := true, plainKeys := false, apart := false, narrowed := true }
def FnExactQuotientsOfUptoSaid : Prop := fnExactQuotientsOfUptoRow.holds Try.pinned (OpenSpec.upto fnExactQuotientsOfSpec)

/-- 'laws.FnExactRectangleFrom', WHERE WHAT IT READS IS OF BULK AT MOST 1048576: true; the input reads as it did. -/
def fnExactRectangleFromUptoRow : OpenClaim := { program := "ythoniopkeiifnaa", sum := "f577a24f2b8413689b22a04f8a2ea0a6c869f0546ce37ab284b9023f3b8c1f0b", func := "loop.example/g03208/laws.FnExactRectangleFrom", spec := "fnExactRectangleFrom", unfollowed := true, recurses := true, plainKeys := false, apart := false, narrowed := true }
def FnExactRectangleFromUptoSaid : Prop := fnExactRectangleFromUptoRow.holds Try.pinned (OpenSpec.upto fnExactRectangleFromSpec)

/-- 'laws.FnExactFewestSquares', WHERE WHAT IT READS IS OF BULK AT MOST 1048576: true; the input reads as it did. -/
def fnExactFewestSquaresUptoRow : OpenClaim := { program := "ythoniopkeiifnaa", sum := "f577a24f2b8413689b22a04f8a2ea0a6c869f0546ce37ab284b9023f3b8c1f0b", func := "loop.example/g03208/laws.FnExactFewestSquares", spec := "fnExactFewestSquares", plainKeys := false, apart := false, narrowed := true }
def FnExactFewestSquaresUptoSaid : Prop := fnExactFewestSquaresUptoRow.holds Try.pinned (OpenSpec.upto fnExactFewestSquaresSpec)

/-- 'laws.FnExactSumOfSquares', WHERE WHAT IT READS IS OF BULK AT MOST 1048576: true; the input reads as it did. -/
def fnExactSumOfSquaresUptoRow : OpenClaim := { program := "ythoniopkeiifnaa", sum := "f577a24f2b8413689b22a04f8a2ea0a6c869f0546ce37ab284b9023f3b8c1f0b", func := "loop.example/g03208/laws.FnExactSumOfSquares", spec := "fnExactSumOfSquares", unfollowed := true, recurses := true, plainKeys := false, apart := false, narrowed := true }
def FnExactSumOfSquaresUptoSaid : Prop := fnExactSumOfSquaresUptoRow.holds Try.pinned (OpenSpec.upto fnExactSumOfSquaresSpec)

/-- 'laws.FnExactCornersOf', WHERE WHAT IT READS IS OF BULK AT MOST 1048576: true; the input reads as it did. -/
def fnExactCornersOfUptoRow : OpenClaim := { program := "ythoniopkeiifnaa", sum := "f577a24f2b8413689b22a04f8a2ea0a6c869f0546ce37ab284b9023f3b8c1f0b", func := "loop.example/g03208/laws.FnExactCornersOf", spec := "fnExactCornersOf", unfollowed := true, recurses := true, plainKeys := false, apart := false, narrowed := true }
def FnExactCornersOfUptoSaid : Prop := fnExactCornersOfUptoRow.holds Try.pinned (OpenSpec.upto fnExactCornersOfSpec)

/-- 'laws.FnExactIsSquared', WHERE WHAT IT READS IS OF BULK AT MOST 1048576: true; the input reads as it did. -/
def fnExactIsSquaredUptoRow : OpenClaim := { program := "ythoniopkeiifnaa", sum := "f577a24f2b8413689b22a04f8a2ea0a6c869f0546ce37ab284b9023f3b8c1f0b", func := "loop.example/g03208/laws.FnExactIsSquared", spec := "fnExactIsSquared", unfollowed := true, recurses := true, plainKeys := false, apart := false, narrowed := true }
def FnExactIsSquaredUptoSaid : Prop := fnExactIsSquaredUptoRow.holds Try.pinned (OpenSpec.upto fnExactIsSquaredSpec)

/-- 'laws.FnExactIsPerfect', WHERE WHAT IT READS IS OF BULK AT MOST 1048576: true; the input reads as it did. -/
def fnExactIsPerfectUptoRow : OpenClaim := { program := "ythoniopkeiifnaa", sum := "f577a24f2b8413689b22a04f8a2ea0a6c869f0546ce37ab284b9023f3b8c1f0b", func := "loop.example/g03208/laws.FnExactIsPerfect", spec := "fnExactIsPerfect", unfollowed := true, recurses := true, plainKeys := false, apart := false, narrowed := true }
def FnExactIsPerfectUptoSaid : Prop := fnExactIsPerfectUptoRow.holds Try.pinned (OpenSpec.upto fnExactIsPerfectSpec)

/-- 'laws.FnGreedy', WHERE WHAT IT READS IS OF BULK AT MOST 1048576: true; the input reads as it did. -/
def fnGreedyUptoRow : OpenClaim := { program := "ythoniopkeiifnaa", sum := "f577a24f2b8413689b22a04f8a2ea0a6c869f0546ce37ab284b9023f3b8c1f0b", func := "loop.example/g03208/laws.FnGreedy", spec := "fnGreedy", unfollowed := true, recurses := true, plainKeys := false, apart := false, narrowed := true }
def FnGreedyUptoSaid : Prop := fnGreedyUptoRow.holds Try.pinned (OpenSpec.upto fnGreedySpec)

/-- 'laws.FnMotions', WHERE WHAT IT READS IS OF BULK AT MOST 1048576: true; the input reads as it did. -/
def fnMotionsUptoRow : OpenClaim := { program := "ythoniopkeiifnaa", sum := "f577a24f2b8413689b22a04f8a2ea0a6c869f0546ce37ab284b9023f3b8c1f0b", func := "loop.example/g03208/laws.FnMotions", spec := "fnMotions", unfollowed := true, recurses := true, plainKeys := false, apart := false, narrowed := true }
def FnMotionsUptoSaid : Prop := fnMotionsUptoRow.holds Try.pinned (OpenSpec.upto fnMotionsSpec)

/-- 'laws.FnHulls', WHERE WHAT IT READS IS OF BULK AT MOST 1048576: true; the input reads as it did. -/
def fnHullsUptoRow : OpenClaim := { program := "ythoniopkeiifnaa", sum := "f577a24f2b8413689b22a04f8a2ea0a6c869f0546ce37ab284b9023f3b8c1f0b", func := "loop.example/g03208/laws.FnHulls", spec := "fnHulls", unfollowed := true, recurses := true, plainKeys := false, apart := false, narrowed := true }
def FnHullsUptoSaid : Prop := fnHullsUptoRow.holds Try.pinned (OpenSpec.upto fnHullsSpec)

end Rows
end Go.Proofs.Ythoniopkeiifnaa
