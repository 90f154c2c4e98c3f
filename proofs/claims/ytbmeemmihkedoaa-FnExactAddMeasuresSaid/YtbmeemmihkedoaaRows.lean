/-
  No cell of these rows narrows 'for every input' (looked for: loops, veiled, ifaces, maps, wideKeys, modest, calm, conditions, laid).
  DERIVED. THE GIVEN ROWS OF THIS SEAT. 11 by the template 'for every input the law returns true; each argument reads behind the call as it read before'; 0 by the template 'total and deterministic' (their statements: YtbmeemmihkedoaaTotals.lean).
  GIVEN WITH THE SEED: the statements are not yours to turn. If you find one false, say at which input.
  Laid BY PROGRAM, IN A SANDBOX (cutbox-rows.mjs): the forced cells as the released guide's own fill.sh prints them over the translation c0648b1f3874415d… (all of the seat's roots in one cut). By AI agents, Wed Nov 11 2026. No macro, syntax, notation, axiom, sorry.
-/
import Derived.Test.YtbmeemmihkedoaaChecked
import GoSem.Claim
import GoSem.ClaimJoined
import GoSem.ClaimMapViews
import Derived.JoinedTies
import Derived.KernelRfl
namespace Go.Proofs.Ytbmeemmihkedoaa
/- THE CELL 'sum', in the pinned program and in every row, IS THE sha256 OF THE DUMP (.gsa) THAT YtbmeemmihkedoaaProg.lean LOADS. Nothing in Lean hashes anything: it is a label: what it is worth is what the hold of that sum in a sandbox is worth. -/
noncomputable def Try.pinned : Pinned := { name := "ytbmeemmihkedoaa", sum := "c0648b1f3874415dde1d5d7acfabd6d2db51e89baf9d9ea076dae6497c085c72", checked := Try.checked }
namespace Rows
def none {H : Type} : Left H := { results := [], args := [] }

/-- 'laws.FnExactDirectionOf': WHATEVER THE INPUT: true; the input reads as it did. -/
def fnExactDirectionOfSpec : ChangeSpec := { name := "fnExactDirectionOf", fn := fun _ => fun
  | [d1, d2] => { results := [.lit (.bool true)], args := [d1, d2] }
  | _ => none }
def fnExactDirectionOfRow : OpenClaim := { program := "ytbmeemmihkedoaa", sum := "c0648b1f3874415dde1d5d7acfabd6d2db51e89baf9d9ea076dae6497c085c72", func := "loop.example/g03208/laws.FnExactDirectionOf", spec := "fnExactDirectionOf", plainKeys := false, apart := false }
def FnExactDirectionOfSaid : Prop := fnExactDirectionOfRow.holds Try.pinned (OpenSpec.ofChange fnExactDirectionOfSpec)

/-- ITS FALSE NEIGHBOUR: 'it returns false'. Refute it at one input. -/
def fnExactDirectionOfWrong : ChangeSpec := { name := "fnExactDirectionOf", fn := fun _ => fun
  | [d1, d2] => { results := [.lit (.bool false)], args := [d1, d2] }
  | _ => none }
def FnExactDirectionOfWrongFalsely : Prop := fnExactDirectionOfRow.holds Try.pinned (OpenSpec.ofChange fnExactDirectionOfWrong)

/-- 'laws.FnExactMeasureFor': WHATEVER THE INPUT: true; the input reads as it did. -/
def fnExactMeasureForSpec : ChangeSpec := { name := "fnExactMeasureFor", fn := fun _ => fun
  | [d1, d2, d3] => { results := [.lit (.bool true)], args := [d1, d2, d3] }
  | _ => none }
def fnExactMeasureForRow : OpenClaim := { program := "ytbmeemmihkedoaa", sum := "c0648b1f3874415dde1d5d7acfabd6d2db51e89baf9d9ea076dae6497c085c72", func := "loop.example/g03208/laws.FnExactMeasureFor", spec := "fnExactMeasureFor", unfollowed := true, recurses := true, plainKeys := false, apart := false }
def FnExactMeasureForSaid : Prop := fnExactMeasureForRow.holds Try.pinned (OpenSpec.ofChange fnExactMeasureForSpec)

/-- ITS FALSE NEIGHBOUR: 'it returns false'. Refute it at one input. -/
def fnExactMeasureForWrong : ChangeSpec := { name := "fnExactMeasureFor", fn := fun _ => fun
  | [d1, d2, d3] => { results := [.lit (.bool false)], args := [d1, d2, d3] }
  | _ => none }
def FnExactMeasureForWrongFalsely : Prop := fnExactMeasureForRow.holds Try.pinned (OpenSpec.ofChange fnExactMeasureForWrong)

/-- 'laws.FnExactMeasuresOf': WHATEVER THE INPUT: true; the input reads as it did. -/
def fnExactMeasuresOfSpec : ChangeSpec := { name := "fnExactMeasuresOf", fn := fun _ => fun
  | [d] => { results := [.lit (.bool true)], args := [d] }
  | _ => none }
def fnExactMeasuresOfRow : OpenClaim := { program := "ytbmeemmihkedoaa", sum := "c0648b1f3874415dde1d5d7acfabd6d2db51e89baf9d9ea076dae6497c085c72", func := "loop.example/g03208/laws.FnExactMeasuresOf", spec := "fnExactMeasuresOf", unfollowed := true, recurses := true, plainKeys := false, apart := false }
def FnExactMeasuresOfSaid : Prop := fnExactMeasuresOfRow.holds Try.pinned (OpenSpec.ofChange fnExactMeasuresOfSpec)

/-- ITS FALSE NEIGHBOUR: 'it returns false'. Refute it at one input. -/
def fnExactMeasuresOfWrong : ChangeSpec := { name := "fnExactMeasuresOf", fn := fun _ => fun
  | [d] => { results := [.lit (.bool false)], args := [d] }
  | _ => none }
def FnExactMeasuresOfWrongFalsely : Prop := fnExactMeasuresOfRow.holds Try.pinned (OpenSpec.ofChange fnExactMeasuresOfWrong)

/-- 'laws.FnExactSameMeasures': WHATEVER THE INPUT: true; the input reads as it did. -/
def fnExactSameMeasuresSpec : ChangeSpec := { name := "fnExactSameMeasures", fn := fun _ => fun
  | [d1, d2] => { results := [.lit (.bool true)], args := [d1, d2] }
  | _ => none }
def fnExactSameMeasuresRow : OpenClaim := { program := "ytbmeemmihkedoaa", sum := "c0648b1f3874415dde1d5d7acfabd6d2db51e89baf9d9ea076dae6497c085c72", func := "loop.example/g03208/laws.FnExactSameMeasures", spec := "fnExactSameMeasures", unfollowed := true, recurses := true, plainKeys := false, apart := false }
def FnExactSameMeasuresSaid : Prop := fnExactSameMeasuresRow.holds Try.pinned (OpenSpec.ofChange fnExactSameMeasuresSpec)

/-- ITS FALSE NEIGHBOUR: 'it returns false'. Refute it at one input. -/
def fnExactSameMeasuresWrong : ChangeSpec := { name := "fnExactSameMeasures", fn := fun _ => fun
  | [d1, d2] => { results := [.lit (.bool false)], args := [d1, d2] }
  | _ => none }
def FnExactSameMeasuresWrongFalsely : Prop := fnExactSameMeasuresRow.holds Try.pinned (OpenSpec.ofChange fnExactSameMeasuresWrong)

/-- 'laws.FnExactCanExchange': WHATEVER THE INPUT: true; the input reads as it did. -/
def fnExactCanExchangeSpec : ChangeSpec := { name := "fnExactCanExchange", fn := fun _ => fun
  | [d1, d2] => { results := [.lit (.bool true)], args := [d1, d2] }
  | _ => none }
def fnExactCanExchangeRow : OpenClaim := { program := "ytbmeemmihkedoaa", sum := "c0648b1f3874415dde1d5d7acfabd6d2db51e89baf9d9ea076dae6497c085c72", func := "loop.example/g03208/laws.FnExactCanExchange", spec := "fnExactCanExchange", unfollowed := true, recurses := true, plainKeys := false, apart := false }
def FnExactCanExchangeSaid : Prop := fnExactCanExchangeRow.holds Try.pinned (OpenSpec.ofChange fnExactCanExchangeSpec)

/-- ITS FALSE NEIGHBOUR: 'it returns false'. Refute it at one input. -/
def fnExactCanExchangeWrong : ChangeSpec := { name := "fnExactCanExchange", fn := fun _ => fun
  | [d1, d2] => { results := [.lit (.bool false)], args := [d1, d2] }
  | _ => none }
def FnExactCanExchangeWrongFalsely : Prop := fnExactCanExchangeRow.holds Try.pinned (OpenSpec.ofChange fnExactCanExchangeWrong)

/-- 'laws.FnExactIsBalanced': WHATEVER THE INPUT: true; the input reads as it did. -/
def fnExactIsBalancedSpec : ChangeSpec := { name := "fnExactIsBalanced", fn := fun _ => fun
  | [d] => { results := [.lit (.bool true)], args := [d] }
  | _ => none }
def fnExactIsBalancedRow : OpenClaim := { program := "ytbmeemmihkedoaa", sum := "c0648b1f3874415dde1d5d7acfabd6d2db51e89baf9d9ea076dae6497c085c72", func := "loop.example/g03208/laws.FnExactIsBalanced", spec := "fnExactIsBalanced", unfollowed := true, recurses := true, plainKeys := false, apart := false }
def FnExactIsBalancedSaid : Prop := fnExactIsBalancedRow.holds Try.pinned (OpenSpec.ofChange fnExactIsBalancedSpec)

/-- ITS FALSE NEIGHBOUR: 'it returns false'. Refute it at one input. -/
def fnExactIsBalancedWrong : ChangeSpec := { name := "fnExactIsBalanced", fn := fun _ => fun
  | [d] => { results := [.lit (.bool false)], args := [d] }
  | _ => none }
def FnExactIsBalancedWrongFalsely : Prop := fnExactIsBalancedRow.holds Try.pinned (OpenSpec.ofChange fnExactIsBalancedWrong)

/-- 'laws.FnExactMeasureListOk': WHATEVER THE INPUT: true; the input reads as it did. -/
def fnExactMeasureListOkSpec : ChangeSpec := { name := "fnExactMeasureListOk", fn := fun _ => fun
  | [d] => { results := [.lit (.bool true)], args := [d] }
  | _ => none }
def fnExactMeasureListOkRow : OpenClaim := { program := "ytbmeemmihkedoaa", sum := "c0648b1f3874415dde1d5d7acfabd6d2db51e89baf9d9ea076dae6497c085c72", func := "loop.example/g03208/laws.FnExactMeasureListOk", spec := "fnExactMeasureListOk", plainKeys := false, apart := false }
def FnExactMeasureListOkSaid : Prop := fnExactMeasureListOkRow.holds Try.pinned (OpenSpec.ofChange fnExactMeasureListOkSpec)

/-- ITS FALSE NEIGHBOUR: 'it returns false'. Refute it at one input. -/
def fnExactMeasureListOkWrong : ChangeSpec := { name := "fnExactMeasureListOk", fn := fun _ => fun
  | [d] => { results := [.lit (.bool false)], args := [d] }
  | _ => none }
def FnExactMeasureListOkWrongFalsely : Prop := fnExactMeasureListOkRow.holds Try.pinned (OpenSpec.ofChange fnExactMeasureListOkWrong)

/-- 'laws.FnExactAddMeasures': WHATEVER THE INPUT: true; the input reads as it did. -/
def fnExactAddMeasuresSpec : ChangeSpec := { name := "fnExactAddMeasures", fn := fun _ => fun
  | [d1, d2] => { results := [.lit (.bool true)], args := [d1, d2] }
  | _ => none }
def fnExactAddMeasuresRow : OpenClaim := { program := "ytbmeemmihkedoaa", sum := "c0648b1f3874415dde1d5d7acfabd6d2db51e89baf9d9ea076dae6497c085c72", func := "loop.example/g03208/laws.FnExactAddMeasures", spec := "fnExactAddMeasures", unfollowed := true, recurses := true, plainKeys := false, apart := false }
def FnExactAddMeasuresSaid : Prop := fnExactAddMeasuresRow.holds Try.pinned (OpenSpec.ofChange fnExactAddMeasuresSpec)

/-- ITS FALSE NEIGHBOUR: 'it returns false'. Refute it at one input. -/
def fnExactAddMeasuresWrong : ChangeSpec := { name := "fnExactAddMeasures", fn := fun _ => fun
  | [d1, d2] => { results := [.lit (.bool false)], args := [d1, d2] }
  | _ => none }
def FnExactAddMeasuresWrongFalsely : Prop := fnExactAddMeasuresRow.holds Try.pinned (OpenSpec.ofChange fnExactAddMeasuresWrong)

/-- 'laws.FnMotions': WHATEVER THE INPUT: true; the input reads as it did. -/
def fnMotionsSpec : ChangeSpec := { name := "fnMotions", fn := fun _ => fun
  | [d] => { results := [.lit (.bool true)], args := [d] }
  | _ => none }
def fnMotionsRow : OpenClaim := { program := "ytbmeemmihkedoaa", sum := "c0648b1f3874415dde1d5d7acfabd6d2db51e89baf9d9ea076dae6497c085c72", func := "loop.example/g03208/laws.FnMotions", spec := "fnMotions", unfollowed := true, recurses := true, plainKeys := false, apart := false }
def FnMotionsSaid : Prop := fnMotionsRow.holds Try.pinned (OpenSpec.ofChange fnMotionsSpec)

/-- ITS FALSE NEIGHBOUR: 'it returns false'. Refute it at one input. -/
def fnMotionsWrong : ChangeSpec := { name := "fnMotions", fn := fun _ => fun
  | [d] => { results := [.lit (.bool false)], args := [d] }
  | _ => none }
def FnMotionsWrongFalsely : Prop := fnMotionsRow.holds Try.pinned (OpenSpec.ofChange fnMotionsWrong)

/-- 'laws.FnHulls': WHATEVER THE INPUT: true; the input reads as it did. -/
def fnHullsSpec : ChangeSpec := { name := "fnHulls", fn := fun _ => fun
  | [d] => { results := [.lit (.bool true)], args := [d] }
  | _ => none }
def fnHullsRow : OpenClaim := { program := "ytbmeemmihkedoaa", sum := "c0648b1f3874415dde1d5d7acfabd6d2db51e89baf9d9ea076dae6497c085c72", func := "loop.example/g03208/laws.FnHulls", spec := "fnHulls", unfollowed := true, recurses := true, plainKeys := false, apart := false }
def FnHullsSaid : Prop := fnHullsRow.holds Try.pinned (OpenSpec.ofChange fnHullsSpec)

/-- ITS FALSE NEIGHBOUR: 'it returns false'. Refute it at one input. -/
def fnHullsWrong : ChangeSpec := { name := "fnHulls", fn := fun _ => fun
  | [d] => { results := [.lit (.bool false)], args := [d] }
  | _ => none }
def FnHullsWrongFalsely : Prop := fnHullsRow.holds Try.pinned (OpenSpec.ofChange fnHullsWrong)

/-- 'laws.FnExactTriangulate': WHATEVER THE INPUT: true; the input reads as it did. -/
def fnExactTriangulateSpec : ChangeSpec := { name := "fnExactTriangulate", fn := fun _ => fun
  | [d] => { results := [.lit (.bool true)], args := [d] }
  | _ => none }
def fnExactTriangulateRow : OpenClaim := { program := "ytbmeemmihkedoaa", sum := "c0648b1f3874415dde1d5d7acfabd6d2db51e89baf9d9ea076dae6497c085c72", func := "loop.example/g03208/laws.FnExactTriangulate", spec := "fnExactTriangulate", unfollowed := true, recurses := true, plainKeys := false, apart := false }
def FnExactTriangulateSaid : Prop := fnExactTriangulateRow.holds Try.pinned (OpenSpec.ofChange fnExactTriangulateSpec)

/-- ITS FALSE NEIGHBOUR: 'it returns false'. Refute it at one input. -/
def fnExactTriangulateWrong : ChangeSpec := { name := "fnExactTriangulate", fn := fun _ => fun
  | [d] => { results := [.lit (.bool false)], args := [d] }
  | _ => none }
def FnExactTriangulateWrongFalsely : Prop := fnExactTriangulateRow.holds Try.pinned (OpenSpec.ofChange fnExactTriangulateWrong)

/- THE SECOND FORM. 'bulk': how many values and letters a reading holds, each counted each time it is reached (what is shared counts as often as it is met; a slice's spare places count too). A statement '..UptoSaid' is the law's where the arguments, and the package variables that the reading takes, are together of bulk at most 1048576: NARROWER than '..Said'. Prove '..Said' where nothing that the law and all that it calls make is longer than what came in: it says more and counts as full. Else prove '..UptoSaid'. A law counts once. -/
mutual
def uptoBulk {H : Type} : DataW H → Nat
  | .lit (.string bytes) => bytes.length + 1
  | .lit _ => 1
  | .nil => 1
  | .ptr d => uptoBulk d + 1
  | .slice elems spare => uptoBulkAll elems + uptoBulkAll spare + 1
  | .agg parts => uptoBulkAll parts + 1
  | .iface _ d => uptoBulk d + 1
  | .map entries => uptoBulkEntries entries + 1
  | .held _ => 1
def uptoBulkAll {H : Type} : List (DataW H) → Nat
  | [] => 0
  | d :: r => uptoBulk d + uptoBulkAll r
def uptoBulkEntries {H : Type} : List (Lit × DataW H) → Nat
  | [] => 0
  | x :: r => uptoBulkEntry x + uptoBulkEntries r
def uptoBulkEntry {H : Type} : Lit × DataW H → Nat
  | (.string bytes, d) => bytes.length + uptoBulk d + 1
  | (_, d) => uptoBulk d + 1
 end
def uptoSmall : (H : Type) → List (DataW H) → Bool := fun _ ds => decide (uptoBulkAll ds ≤ 1048576)
def OpenSpec.upto (s : _root_.Go.ChangeSpec) : _root_.Go.OpenSpec := { _root_.Go.OpenSpec.ofChange s with cond := some uptoSmall }

/-- 'laws.FnExactDirectionOf', WHERE WHAT IT READS IS OF BULK AT MOST 1048576: true; the input reads as it did. -/
def fnExactDirectionOfUptoRow : OpenClaim := { program := "ytbmeemmihkedoaa", sum := "c0648b1f3874415dde1d5d7acfabd6d2db51e89baf9d9ea076dae6497c085c72", func := "loop.example/g03208/laws.FnExactDirectionOf", spec := "fnExactDirectionOf", plainKeys := false, apart := false, narrowed := true }
def FnExactDirectionOfUptoSaid : Prop := fnExactDirectionOfUptoRow.holds Try.pinned (OpenSpec.upto fnExactDirectionOfSpec)

/-- 'laws.FnExactMeasureFor', WHERE WHAT IT READS IS OF BULK AT MOST 1048576: true; the input reads as it did. -/
def fnExactMeasureForUptoRow : OpenClaim := { program := "ytbmeemmihkedoaa", sum := "c0648b1f3874415dde1d5d7acfabd6d2db51e89baf9d9ea076dae6497c085c72", func := "loop.example/g03208/laws.FnExactMeasureFor", spec := "fnExactMeasureFor", unfollowed := true, recurses := true, plainKeys := false, apart := false, narrowed := true }
def FnExactMeasureForUptoSaid : Prop := fnExactMeasureForUptoRow.holds Try.pinned (OpenSpec.upto fnExactMeasureForSpec)

/-- 'laws.FnExactMeasuresOf', WHERE WHAT IT READS IS OF BULK AT MOST 1048576: true; the input reads as it did. -/
def fnExactMeasuresOfUptoRow : OpenClaim := { program := "ytbmeemmihkedoaa", sum := "c0648b1f3874415dde1d5d7acfabd6d2db51e89baf9d9ea076dae6497c085c72", func := "loop.example/g03208/laws.FnExactMeasuresOf", spec := "fnExactMeasuresOf", unfollowed := true, recurses := true, plainKeys := false, apart := false, narrowed := true }
def FnExactMeasuresOfUptoSaid : Prop := fnExactMeasuresOfUptoRow.holds Try.pinned (OpenSpec.upto fnExactMeasuresOfSpec)

/-- 'laws.FnExactSameMeasures', WHERE WHAT IT READS IS OF BULK AT MOST 1048576: true; the input reads as it did. -/
def fnExactSameMeasuresUptoRow : OpenClaim := { program := "ytbmeemmihkedoaa", sum := "c0648b1f3874415dde1d5d7acfabd6d2db51e89baf9d9ea076dae6497c085c72", func := "loop.example/g03208/laws.FnExactSameMeasures", spec := "fnExactSameMeasures", unfollowed := true, recurses := true, plainKeys := false, apart := false, narrowed := true }
def FnExactSameMeasuresUptoSaid : Prop := fnExactSameMeasuresUptoRow.holds Try.pinned (OpenSpec.upto fnExactSameMeasuresSpec)

/-- 'laws.FnExactCanExchange', WHERE WHAT IT READS IS OF BULK AT MOST 1048576: true; the input reads as it did. -/
def fnExactCanExchangeUptoRow : OpenClaim := { program := "ytbmeemmihkedoaa", sum := "c0648b1f3874415dde1d5d7acfabd6d2db51e89baf9d9ea076dae6497c085c72", func := "loop.example/g03208/laws.FnExactCanExchange", spec := "fnExactCanExchange", unfollowed := true, recurses := true, plainKeys := false, apart := false, narrowed := true }
def FnExactCanExchangeUptoSaid : Prop := fnExactCanExchangeUptoRow.holds Try.pinned (OpenSpec.upto fnExactCanExchangeSpec)

/-- 'laws.FnExactIsBalanced', WHERE WHAT IT READS IS OF BULK AT MOST 1048576: true; the input reads as it did. -/
def fnExactIsBalancedUptoRow : OpenClaim := { program := "ytbmeemmihkedoaa", sum := "c0648b1f3874415dde1d5d7acfabd6d2db51e89baf9d9ea076dae6497c085c72", func := "loop.example/g03208/laws.FnExactIsBalanced", spec := "fnExactIsBalanced", unfollowed := true, recurses := true, plainKeys := false, apart := false, narrowed := true }
def FnExactIsBalancedUptoSaid : Prop := fnExactIsBalancedUptoRow.holds Try.pinned (OpenSpec.upto fnExactIsBalancedSpec)

/-- 'laws.FnExactMeasureListOk', WHERE WHAT IT READS IS OF BULK AT MOST 1048576: true; the input reads as it did. -/
def fnExactMeasureListOkUptoRow : OpenClaim := { program := "ytbmeemmihkedoaa", sum := "c0648b1f3874415dde1d5d7acfabd6d2db51e89baf9d9ea076dae6497c085c72", func := "loop.example/g03208/laws.FnExactMeasureListOk", spec := "fnExactMeasureListOk", plainKeys := false, apart := false, narrowed := true }
def FnExactMeasureListOkUptoSaid : Prop := fnExactMeasureListOkUptoRow.holds Try.pinned (OpenSpec.upto fnExactMeasureListOkSpec)

/-- 'laws.FnExactAddMeasures', WHERE WHAT IT READS IS OF BULK AT MOST 1048576: true; the input reads as it did. -/
def fnExactAddMeasuresUptoRow : OpenClaim := { program := "ytbmeemmihkedoaa", sum := "c0648b1f3874415dde1d5d7acfabd6d2db51e89baf9d9ea076dae6497c085c72", func := "loop.example/g03208/laws.FnExactAddMeasures", spec := "fnExactAddMeasures", unfollowed := true, recurses := true, plainKeys := false, apart := false, narrowed := true }
def FnExactAddMeasuresUptoSaid : Prop := fnExactAddMeasuresUptoRow.holds Try.pinned (OpenSpec.upto fnExactAddMeasuresSpec)

/-- 'laws.FnMotions', WHERE WHAT IT READS IS OF BULK AT MOST 1048576: true; the input reads as it did. -/
def fnMotionsUptoRow : OpenClaim := { program := "ytbmeemmihkedoaa", sum := "c0648b1f3874415dde1d5d7acfabd6d2db51e89baf9d9ea076dae6497c085c72", func := "loop.example/g03208/laws.FnMotions", spec := "fnMotions", unfollowed := true, recurses := true, plainKeys := false, apart := false, narrowed := true }
def FnMotionsUptoSaid : Prop := fnMotionsUptoRow.holds Try.pinned (OpenSpec.upto fnMotionsSpec)

/-- 'laws.FnHulls', WHERE WHAT IT READS IS OF BULK AT MOST 1048576: true; the input reads as it did. -/
def fnHullsUptoRow : OpenClaim := { program := "ytbmeemmihkedoaa", sum := "c0648b1f3874415dde1d5d7acfabd6d2db51e89baf9d9ea076dae6497c085c72", func := "loop.example/g03208/laws.FnHulls", spec := "fnHulls", unfollowed := true, recurses := true, plainKeys := false, apart := false, narrowed := true }
def FnHullsUptoSaid : Prop := fnHullsUptoRow.holds Try.pinned (OpenSpec.upto fnHullsSpec)

/-- 'laws.FnExactTriangulate', WHERE WHAT IT READS IS OF BULK AT MOST 1048576: true; the input reads as it did. -/
def fnExactTriangulateUptoRow : OpenClaim := { program := "ytbmeemmihkedoaa", sum := "c0648b1f3874415dde1d5d7acfabd6d2db51e89baf9d9ea076dae6497c085c72", func := "loop.example/g03208/laws.FnExactTriangulate", spec := "fnExactTriangulate", unfollowed := true, recurses := true, plainKeys := false, apart := false, narrowed := true }
def FnExactTriangulateUptoSaid : Prop := fnExactTriangulateUptoRow.holds Try.pinned (OpenSpec.upto fnExactTriangulateSpec)

end Rows
end Go.Proofs.Ytbmeemmihkedoaa
