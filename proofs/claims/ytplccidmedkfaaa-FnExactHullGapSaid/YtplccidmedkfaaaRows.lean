/-
  No cell of these rows narrows 'for every input' (looked for: loops, veiled, ifaces, maps, wideKeys, modest, calm, conditions, laid).
  DERIVED. THE GIVEN ROWS OF THIS SEAT. 8 by the template 'for every input the law returns true; each argument reads behind the call as it read before'; 0 by the template 'total and deterministic' (their statements: YtplccidmedkfaaaTotals.lean).
  GIVEN WITH THE SEED: the statements are not yours to turn. If you find one false, say at which input.
  Laid BY PROGRAM, IN A SANDBOX (cutbox-rows.mjs): the forced cells as the released guide's own fill.sh prints them over the translation 42a3c8ed97e4f0b8… (all of the seat's roots in one cut). By AI agents, Wed Nov 11 2026. No macro, syntax, notation, axiom, sorry.
-/
import Derived.Test.YtplccidmedkfaaaChecked
import GoSem.Claim
import GoSem.ClaimJoined
import GoSem.ClaimMapViews
import Derived.JoinedTies
import Derived.KernelRfl
namespace Go.Proofs.Ytplccidmedkfaaa
/- THE CELL 'sum', in the pinned program and in every row, IS THE sha256 OF THE DUMP (.gsa) THAT YtplccidmedkfaaaProg.lean LOADS. Nothing in Lean hashes anything: it is a label: what it is worth is what the hold of that sum in a sandbox is worth. -/
noncomputable def Try.pinned : Pinned := { name := "ytplccidmedkfaaa", sum := "42a3c8ed97e4f0b8b2cb232c0aea55eced70c1a5a2323ef02f7e06f97b0dc01b", checked := Try.checked }
namespace Rows
def none {H : Type} : Left H := { results := [], args := [] }

/-- 'laws.FnPolygons': WHATEVER THE INPUT: true; the input reads as it did. -/
def fnPolygonsSpec : ChangeSpec := { name := "fnPolygons", fn := fun _ => fun
  | [d] => { results := [.lit (.bool true)], args := [d] }
  | _ => none }
def fnPolygonsRow : OpenClaim := { program := "ytplccidmedkfaaa", sum := "42a3c8ed97e4f0b8b2cb232c0aea55eced70c1a5a2323ef02f7e06f97b0dc01b", func := "loop.example/g03208/laws.FnPolygons", spec := "fnPolygons", unfollowed := true, recurses := true, apart := false }
def FnPolygonsSaid : Prop := fnPolygonsRow.holds Try.pinned (OpenSpec.ofChange fnPolygonsSpec)

/-- ITS FALSE NEIGHBOUR: 'it returns false'. Refute it at one input. -/
def fnPolygonsWrong : ChangeSpec := { name := "fnPolygons", fn := fun _ => fun
  | [d] => { results := [.lit (.bool false)], args := [d] }
  | _ => none }
def FnPolygonsWrongFalsely : Prop := fnPolygonsRow.holds Try.pinned (OpenSpec.ofChange fnPolygonsWrong)

/-- 'laws.FnExactIsConvex': WHATEVER THE INPUT: true; the input reads as it did. -/
def fnExactIsConvexSpec : ChangeSpec := { name := "fnExactIsConvex", fn := fun _ => fun
  | [d] => { results := [.lit (.bool true)], args := [d] }
  | _ => none }
def fnExactIsConvexRow : OpenClaim := { program := "ytplccidmedkfaaa", sum := "42a3c8ed97e4f0b8b2cb232c0aea55eced70c1a5a2323ef02f7e06f97b0dc01b", func := "loop.example/g03208/laws.FnExactIsConvex", spec := "fnExactIsConvex", unfollowed := true, recurses := true, apart := false }
def FnExactIsConvexSaid : Prop := fnExactIsConvexRow.holds Try.pinned (OpenSpec.ofChange fnExactIsConvexSpec)

/-- ITS FALSE NEIGHBOUR: 'it returns false'. Refute it at one input. -/
def fnExactIsConvexWrong : ChangeSpec := { name := "fnExactIsConvex", fn := fun _ => fun
  | [d] => { results := [.lit (.bool false)], args := [d] }
  | _ => none }
def FnExactIsConvexWrongFalsely : Prop := fnExactIsConvexRow.holds Try.pinned (OpenSpec.ofChange fnExactIsConvexWrong)

/-- 'laws.FnExactHullOf': WHATEVER THE INPUT: true; the input reads as it did. -/
def fnExactHullOfSpec : ChangeSpec := { name := "fnExactHullOf", fn := fun _ => fun
  | [d] => { results := [.lit (.bool true)], args := [d] }
  | _ => none }
def fnExactHullOfRow : OpenClaim := { program := "ytplccidmedkfaaa", sum := "42a3c8ed97e4f0b8b2cb232c0aea55eced70c1a5a2323ef02f7e06f97b0dc01b", func := "loop.example/g03208/laws.FnExactHullOf", spec := "fnExactHullOf", unfollowed := true, recurses := true, apart := false }
def FnExactHullOfSaid : Prop := fnExactHullOfRow.holds Try.pinned (OpenSpec.ofChange fnExactHullOfSpec)

/-- ITS FALSE NEIGHBOUR: 'it returns false'. Refute it at one input. -/
def fnExactHullOfWrong : ChangeSpec := { name := "fnExactHullOf", fn := fun _ => fun
  | [d] => { results := [.lit (.bool false)], args := [d] }
  | _ => none }
def FnExactHullOfWrongFalsely : Prop := fnExactHullOfRow.holds Try.pinned (OpenSpec.ofChange fnExactHullOfWrong)

/-- 'laws.FnExactHullGap': WHATEVER THE INPUT: true; the input reads as it did. -/
def fnExactHullGapSpec : ChangeSpec := { name := "fnExactHullGap", fn := fun _ => fun
  | [d] => { results := [.lit (.bool true)], args := [d] }
  | _ => none }
def fnExactHullGapRow : OpenClaim := { program := "ytplccidmedkfaaa", sum := "42a3c8ed97e4f0b8b2cb232c0aea55eced70c1a5a2323ef02f7e06f97b0dc01b", func := "loop.example/g03208/laws.FnExactHullGap", spec := "fnExactHullGap", unfollowed := true, recurses := true, apart := false }
def FnExactHullGapSaid : Prop := fnExactHullGapRow.holds Try.pinned (OpenSpec.ofChange fnExactHullGapSpec)

/-- ITS FALSE NEIGHBOUR: 'it returns false'. Refute it at one input. -/
def fnExactHullGapWrong : ChangeSpec := { name := "fnExactHullGap", fn := fun _ => fun
  | [d] => { results := [.lit (.bool false)], args := [d] }
  | _ => none }
def FnExactHullGapWrongFalsely : Prop := fnExactHullGapRow.holds Try.pinned (OpenSpec.ofChange fnExactHullGapWrong)

/-- 'laws.FnExactSideCount': WHATEVER THE INPUT: true; the input reads as it did. -/
def fnExactSideCountSpec : ChangeSpec := { name := "fnExactSideCount", fn := fun _ => fun
  | [d] => { results := [.lit (.bool true)], args := [d] }
  | _ => none }
def fnExactSideCountRow : OpenClaim := { program := "ytplccidmedkfaaa", sum := "42a3c8ed97e4f0b8b2cb232c0aea55eced70c1a5a2323ef02f7e06f97b0dc01b", func := "loop.example/g03208/laws.FnExactSideCount", spec := "fnExactSideCount", unfollowed := true, recurses := true, apart := false }
def FnExactSideCountSaid : Prop := fnExactSideCountRow.holds Try.pinned (OpenSpec.ofChange fnExactSideCountSpec)

/-- ITS FALSE NEIGHBOUR: 'it returns false'. Refute it at one input. -/
def fnExactSideCountWrong : ChangeSpec := { name := "fnExactSideCount", fn := fun _ => fun
  | [d] => { results := [.lit (.bool false)], args := [d] }
  | _ => none }
def FnExactSideCountWrongFalsely : Prop := fnExactSideCountRow.holds Try.pinned (OpenSpec.ofChange fnExactSideCountWrong)

/-- 'laws.FnExactSupports': WHATEVER THE INPUT: true; the input reads as it did. -/
def fnExactSupportsSpec : ChangeSpec := { name := "fnExactSupports", fn := fun _ => fun
  | [d1, d2, d3] => { results := [.lit (.bool true)], args := [d1, d2, d3] }
  | _ => none }
def fnExactSupportsRow : OpenClaim := { program := "ytplccidmedkfaaa", sum := "42a3c8ed97e4f0b8b2cb232c0aea55eced70c1a5a2323ef02f7e06f97b0dc01b", func := "loop.example/g03208/laws.FnExactSupports", spec := "fnExactSupports", unfollowed := true, recurses := true, apart := false }
def FnExactSupportsSaid : Prop := fnExactSupportsRow.holds Try.pinned (OpenSpec.ofChange fnExactSupportsSpec)

/-- ITS FALSE NEIGHBOUR: 'it returns false'. Refute it at one input. -/
def fnExactSupportsWrong : ChangeSpec := { name := "fnExactSupports", fn := fun _ => fun
  | [d1, d2, d3] => { results := [.lit (.bool false)], args := [d1, d2, d3] }
  | _ => none }
def FnExactSupportsWrongFalsely : Prop := fnExactSupportsRow.holds Try.pinned (OpenSpec.ofChange fnExactSupportsWrong)

/-- 'laws.FnExactWidestPair': WHATEVER THE INPUT: true; the input reads as it did. -/
def fnExactWidestPairSpec : ChangeSpec := { name := "fnExactWidestPair", fn := fun _ => fun
  | [d] => { results := [.lit (.bool true)], args := [d] }
  | _ => none }
def fnExactWidestPairRow : OpenClaim := { program := "ytplccidmedkfaaa", sum := "42a3c8ed97e4f0b8b2cb232c0aea55eced70c1a5a2323ef02f7e06f97b0dc01b", func := "loop.example/g03208/laws.FnExactWidestPair", spec := "fnExactWidestPair", unfollowed := true, recurses := true, apart := false }
def FnExactWidestPairSaid : Prop := fnExactWidestPairRow.holds Try.pinned (OpenSpec.ofChange fnExactWidestPairSpec)

/-- ITS FALSE NEIGHBOUR: 'it returns false'. Refute it at one input. -/
def fnExactWidestPairWrong : ChangeSpec := { name := "fnExactWidestPair", fn := fun _ => fun
  | [d] => { results := [.lit (.bool false)], args := [d] }
  | _ => none }
def FnExactWidestPairWrongFalsely : Prop := fnExactWidestPairRow.holds Try.pinned (OpenSpec.ofChange fnExactWidestPairWrong)

/-- 'laws.FnExactIsOval': WHATEVER THE INPUT: true; the input reads as it did. -/
def fnExactIsOvalSpec : ChangeSpec := { name := "fnExactIsOval", fn := fun _ => fun
  | [d] => { results := [.lit (.bool true)], args := [d] }
  | _ => none }
def fnExactIsOvalRow : OpenClaim := { program := "ytplccidmedkfaaa", sum := "42a3c8ed97e4f0b8b2cb232c0aea55eced70c1a5a2323ef02f7e06f97b0dc01b", func := "loop.example/g03208/laws.FnExactIsOval", spec := "fnExactIsOval", unfollowed := true, recurses := true, apart := false }
def FnExactIsOvalSaid : Prop := fnExactIsOvalRow.holds Try.pinned (OpenSpec.ofChange fnExactIsOvalSpec)

/-- ITS FALSE NEIGHBOUR: 'it returns false'. Refute it at one input. -/
def fnExactIsOvalWrong : ChangeSpec := { name := "fnExactIsOval", fn := fun _ => fun
  | [d] => { results := [.lit (.bool false)], args := [d] }
  | _ => none }
def FnExactIsOvalWrongFalsely : Prop := fnExactIsOvalRow.holds Try.pinned (OpenSpec.ofChange fnExactIsOvalWrong)

/- THE SECOND FORM. 'bulk': how many values and letters a reading holds, each counted each time it is reached (what is shared counts as often as it is met; a slice's spare places count too). A statement '..UptoSaid' is the law's where the arguments, and the package variables that the reading takes, are together of bulk at most 1048576: NARROWER than '..Said'. Prove '..Said' where nothing that the law and all that it calls make is longer than what came in: it says more and counts as full. Else prove '..UptoSaid'. A law counts once. -/
mutual
def uptoBulk {H : Type} : DataW H → Nat
  | .lit (.string bytes) => bytes.length + 1
  | .lit _ => 1
  | .nil => 1
  | .ptr d => uptoBulk d + 1
  | .slice elems spare => uptoBulkAll elems + uptoBulkAll spare + 1
  | .agg parts => uptoBulkAll parts + 1
  | .iface _ d => uptoBulk d + 1
  | .map entries => uptoBulkEntries entries + 1
  | .held _ => 1
def uptoBulkAll {H : Type} : List (DataW H) → Nat
  | [] => 0
  | d :: r => uptoBulk d + uptoBulkAll r
def uptoBulkEntries {H : Type} : List (Lit × DataW H) → Nat
  | [] => 0
  | x :: r => uptoBulkEntry x + uptoBulkEntries r
def uptoBulkEntry {H : Type} : Lit × DataW H → Nat
  | (.string bytes, d) => bytes.length + uptoBulk d + 1
  | (_, d) => uptoBulk d + 1
 end
def uptoSmall : (H : Type) → List (DataW H) → Bool := fun _ ds => decide (uptoBulkAll ds ≤ 1048576)
def OpenSpec.upto (s : _root_.Go.ChangeSpec) : _root_.Go.OpenSpec := { _root_.Go.OpenSpec.ofChange s with cond := some uptoSmall }

/-- 'laws.FnPolygons', WHERE WHAT IT READS IS OF BULK AT MOST 1048576: true; the input reads as it did. -/
def fnPolygonsUptoRow : OpenClaim := { program := "ytplccidmedkfaaa", sum := "42a3c8ed97e4f0b8b2cb232c0aea55eced70c1a5a2323ef02f7e06f97b0dc01b", func := "loop.example/g03208/laws.FnPolygons", spec := "fnPolygons", unfollowed := true, recurses := true, apart := false, narrowed := true }
def FnPolygonsUptoSaid : Prop := fnPolygonsUptoRow.holds Try.pinned (OpenSpec.upto fnPolygonsSpec)

/-- 'laws.FnExactIsConvex', WHERE WHAT IT READS IS OF BULK AT MOST 1048576: true; the input reads as it did. -/
def fnExactIsConvexUptoRow : OpenClaim := { program := "ytplccidmedkfaaa", sum := "42a3c8ed97e4f0b8b2cb232c0aea55eced70c1a5a2323ef02f7e06f97b0dc01b", func := "loop.example/g03208/laws.FnExactIsConvex", spec := "fnExactIsConvex", unfollowed := true, recurses := true, apart := false, narrowed := true }
def FnExactIsConvexUptoSaid : Prop := fnExactIsConvexUptoRow.holds Try.pinned (OpenSpec.upto fnExactIsConvexSpec)

/-- 'laws.FnExactHullOf', WHERE WHAT IT READS IS OF BULK AT MOST 1048576: true; the input reads as it did. -/
def fnExactHullOfUptoRow : OpenClaim := { program := "ytplccidmedkfaaa", sum := "42a3c8ed97e4f0b8b2cb232c0aea55eced70c1a5a2323ef02f7e06f97b0dc01b", func := "loop.example/g03208/laws.FnExactHullOf", spec := "fnExactHullOf", unfollowed := true, recurses := true, apart := false, narrowed := true }
def FnExactHullOfUptoSaid : Prop := fnExactHullOfUptoRow.holds Try.pinned (OpenSpec.upto fnExactHullOfSpec)

/-- 'laws.FnExactHullGap', WHERE WHAT IT READS IS OF BULK AT MOST 1048576: true; the input reads as it did. -/
def fnExactHullGapUptoRow : OpenClaim := { program := "ytplccidmedkfaaa", sum := "42a3c8ed97e4f0b8b2cb232c0aea55eced70c1a5a2323ef02f7e06f97b0dc01b", func := "loop.example/g03208/laws.FnExactHullGap", spec := "fnExactHullGap", unfollowed := true, recurses := true, apart := false, narrowed := true }
def FnExactHullGapUptoSaid : Prop := fnExactHullGapUptoRow.holds Try.pinned (OpenSpec.upto fnExactHullGapSpec)

/-- 'laws.FnExactSideCount', WHERE WHAT IT READS IS OF BULK AT MOST 1048576: true; the input reads as it did. -/
def fnExactSideCountUptoRow : OpenClaim := { program := "ytplccidmedkfaaa", sum := "42a3c8ed97e4f0b8b2cb232c0aea55eced70c1a5a2323ef02f7e06f97b0dc01b", func := "loop.example/g03208/laws.FnExactSideCount", spec := "fnExactSideCount", unfollowed := true, recurses := true, apart := false, narrowed := true }
def FnExactSideCountUptoSaid : Prop := fnExactSideCountUptoRow.holds Try.pinned (OpenSpec.upto fnExactSideCountSpec)

/-- 'laws.FnExactSupports', WHERE WHAT IT READS IS OF BULK AT MOST 1048576: true; the input reads as it did. -/
def fnExactSupportsUptoRow : OpenClaim := { program := "ytplccidmedkfaaa", sum := "42a3c8ed97e4f0b8b2cb232c0aea55eced70c1a5a2323ef02f7e06f97b0dc01b", func := "loop.example/g03208/laws.FnExactSupports", spec := "fnExactSupports", unfollowed := true, recurses := true, apart := false, narrowed := true }
def FnExactSupportsUptoSaid : Prop := fnExactSupportsUptoRow.holds Try.pinned (OpenSpec.upto fnExactSupportsSpec)

/-- 'laws.FnExactWidestPair', WHERE WHAT IT READS IS OF BULK AT MOST 1048576: true; the input reads as it did. -/
def fnExactWidestPairUptoRow : OpenClaim := { program := "ytplccidmedkfaaa", sum := "42a3c8ed97e4f0b8b2cb232c0aea55eced70c1a5a2323ef02f7e06f97b0dc01b", func := "loop.example/g03208/laws.FnExactWidestPair", spec := "fnExactWidestPair", unfollowed := true, recurses := true, apart := false, narrowed := true }
def FnExactWidestPairUptoSaid : Prop := fnExactWidestPairUptoRow.holds Try.pinned (OpenSpec.upto fnExactWidestPairSpec)

/-- 'laws.FnExactIsOval', WHERE WHAT IT READS IS OF BULK AT MOST 1048576: true; the input reads as it did. -/
def fnExactIsOvalUptoRow : OpenClaim := { program := "ytplccidmedkfaaa", sum := "42a3c8ed97e4f0b8b2cb232c0aea55eced70c1a5a2323ef02f7e06f97b0dc01b", func := "loop.example/g03208/laws.FnExactIsOval", spec := "fnExactIsOval", unfollowed := true, recurses := true, apart := false, narrowed := true }
def FnExactIsOvalUptoSaid : Prop := fnExactIsOvalUptoRow.holds Try.pinned (OpenSpec.upto fnExactIsOvalSpec)

end Rows
end Go.Proofs.Ytplccidmedkfaaa
