/-
  No cell of these rows narrows 'for every input' (looked for: loops, veiled, ifaces, maps, wideKeys, modest, calm, conditions, laid).
  DERIVED. THE GIVEN ROWS OF THIS SEAT. 10 by the template 'for every input the law returns true; each argument reads behind the call as it read before'; 0 by the template 'total and deterministic' (their statements: YtklbambnnkdjlaaTotals.lean).
  GIVEN WITH THE SEED: the statements are not yours to turn. If you find one false, say at which input.
  Laid BY PROGRAM, IN A SANDBOX (cutbox-rows.mjs): the forced cells as the released guide's own fill.sh prints them over the translation 42490de1896bb5bb… (all of the seat's roots in one cut). By AI agents, Wed Nov 11 2026. No macro, syntax, notation, axiom, sorry.
-/
import Derived.Test.YtklbambnnkdjlaaChecked
import GoSem.Claim
import GoSem.ClaimJoined
import GoSem.ClaimMapViews
import Derived.JoinedTies
import Derived.KernelRfl
namespace Go.Proofs.Ytklbambnnkdjlaa
/- THE CELL 'sum', in the pinned program and in every row, IS THE sha256 OF THE DUMP (.gsa) THAT YtklbambnnkdjlaaProg.lean LOADS. Nothing in Lean hashes anything: it is a label: what it is worth is what the hold of that sum in a sandbox is worth. -/
noncomputable def Try.pinned : Pinned := { name := "ytklbambnnkdjlaa", sum := "42490de1896bb5bb789820f01135472d7f38e4f62a899a675868dba21a5a1855", checked := Try.checked }
namespace Rows
def none {H : Type} : Left H := { results := [], args := [] }

/-- 'laws.FnExactPolygonOk': WHATEVER THE INPUT: true; the input reads as it did. -/
def fnExactPolygonOkSpec : ChangeSpec := { name := "fnExactPolygonOk", fn := fun _ => fun
  | [d] => { results := [.lit (.bool true)], args := [d] }
  | _ => none }
def fnExactPolygonOkRow : OpenClaim := { program := "ytklbambnnkdjlaa", sum := "42490de1896bb5bb789820f01135472d7f38e4f62a899a675868dba21a5a1855", func := "loop.example/g03208/laws.FnExactPolygonOk", spec := "fnExactPolygonOk", unfollowed := true, recurses := true, apart := false }
def FnExactPolygonOkSaid : Prop := fnExactPolygonOkRow.holds Try.pinned (OpenSpec.ofChange fnExactPolygonOkSpec)

/-- ITS FALSE NEIGHBOUR: 'it returns false'. Refute it at one input. -/
def fnExactPolygonOkWrong : ChangeSpec := { name := "fnExactPolygonOk", fn := fun _ => fun
  | [d] => { results := [.lit (.bool false)], args := [d] }
  | _ => none }
def FnExactPolygonOkWrongFalsely : Prop := fnExactPolygonOkRow.holds Try.pinned (OpenSpec.ofChange fnExactPolygonOkWrong)

/-- 'laws.FnExactTwiceArea': WHATEVER THE INPUT: true; the input reads as it did. -/
def fnExactTwiceAreaSpec : ChangeSpec := { name := "fnExactTwiceArea", fn := fun _ => fun
  | [d] => { results := [.lit (.bool true)], args := [d] }
  | _ => none }
def fnExactTwiceAreaRow : OpenClaim := { program := "ytklbambnnkdjlaa", sum := "42490de1896bb5bb789820f01135472d7f38e4f62a899a675868dba21a5a1855", func := "loop.example/g03208/laws.FnExactTwiceArea", spec := "fnExactTwiceArea", unfollowed := true, recurses := true, apart := false }
def FnExactTwiceAreaSaid : Prop := fnExactTwiceAreaRow.holds Try.pinned (OpenSpec.ofChange fnExactTwiceAreaSpec)

/-- ITS FALSE NEIGHBOUR: 'it returns false'. Refute it at one input. -/
def fnExactTwiceAreaWrong : ChangeSpec := { name := "fnExactTwiceArea", fn := fun _ => fun
  | [d] => { results := [.lit (.bool false)], args := [d] }
  | _ => none }
def FnExactTwiceAreaWrongFalsely : Prop := fnExactTwiceAreaRow.holds Try.pinned (OpenSpec.ofChange fnExactTwiceAreaWrong)

/-- 'laws.FnExactRimPoints': WHATEVER THE INPUT: true; the input reads as it did. -/
def fnExactRimPointsSpec : ChangeSpec := { name := "fnExactRimPoints", fn := fun _ => fun
  | [d] => { results := [.lit (.bool true)], args := [d] }
  | _ => none }
def fnExactRimPointsRow : OpenClaim := { program := "ytklbambnnkdjlaa", sum := "42490de1896bb5bb789820f01135472d7f38e4f62a899a675868dba21a5a1855", func := "loop.example/g03208/laws.FnExactRimPoints", spec := "fnExactRimPoints", unfollowed := true, recurses := true, apart := false }
def FnExactRimPointsSaid : Prop := fnExactRimPointsRow.holds Try.pinned (OpenSpec.ofChange fnExactRimPointsSpec)

/-- ITS FALSE NEIGHBOUR: 'it returns false'. Refute it at one input. -/
def fnExactRimPointsWrong : ChangeSpec := { name := "fnExactRimPoints", fn := fun _ => fun
  | [d] => { results := [.lit (.bool false)], args := [d] }
  | _ => none }
def FnExactRimPointsWrongFalsely : Prop := fnExactRimPointsRow.holds Try.pinned (OpenSpec.ofChange fnExactRimPointsWrong)

/-- 'laws.FnExactIsInside': WHATEVER THE INPUT: true; the input reads as it did. -/
def fnExactIsInsideSpec : ChangeSpec := { name := "fnExactIsInside", fn := fun _ => fun
  | [d1, d2] => { results := [.lit (.bool true)], args := [d1, d2] }
  | _ => none }
def fnExactIsInsideRow : OpenClaim := { program := "ytklbambnnkdjlaa", sum := "42490de1896bb5bb789820f01135472d7f38e4f62a899a675868dba21a5a1855", func := "loop.example/g03208/laws.FnExactIsInside", spec := "fnExactIsInside", unfollowed := true, recurses := true, apart := false }
def FnExactIsInsideSaid : Prop := fnExactIsInsideRow.holds Try.pinned (OpenSpec.ofChange fnExactIsInsideSpec)

/-- ITS FALSE NEIGHBOUR: 'it returns false'. Refute it at one input. -/
def fnExactIsInsideWrong : ChangeSpec := { name := "fnExactIsInside", fn := fun _ => fun
  | [d1, d2] => { results := [.lit (.bool false)], args := [d1, d2] }
  | _ => none }
def FnExactIsInsideWrongFalsely : Prop := fnExactIsInsideRow.holds Try.pinned (OpenSpec.ofChange fnExactIsInsideWrong)

/-- 'laws.FnExactInnerPoints': WHATEVER THE INPUT: true; the input reads as it did. -/
def fnExactInnerPointsSpec : ChangeSpec := { name := "fnExactInnerPoints", fn := fun _ => fun
  | [d] => { results := [.lit (.bool true)], args := [d] }
  | _ => none }
def fnExactInnerPointsRow : OpenClaim := { program := "ytklbambnnkdjlaa", sum := "42490de1896bb5bb789820f01135472d7f38e4f62a899a675868dba21a5a1855", func := "loop.example/g03208/laws.FnExactInnerPoints", spec := "fnExactInnerPoints", unfollowed := true, recurses := true, apart := false }
def FnExactInnerPointsSaid : Prop := fnExactInnerPointsRow.holds Try.pinned (OpenSpec.ofChange fnExactInnerPointsSpec)

/-- ITS FALSE NEIGHBOUR: 'it returns false'. Refute it at one input. -/
def fnExactInnerPointsWrong : ChangeSpec := { name := "fnExactInnerPoints", fn := fun _ => fun
  | [d] => { results := [.lit (.bool false)], args := [d] }
  | _ => none }
def FnExactInnerPointsWrongFalsely : Prop := fnExactInnerPointsRow.holds Try.pinned (OpenSpec.ofChange fnExactInnerPointsWrong)

/-- 'laws.FnExactTurnPolygon': WHATEVER THE INPUT: true; the input reads as it did. -/
def fnExactTurnPolygonSpec : ChangeSpec := { name := "fnExactTurnPolygon", fn := fun _ => fun
  | [d] => { results := [.lit (.bool true)], args := [d] }
  | _ => none }
def fnExactTurnPolygonRow : OpenClaim := { program := "ytklbambnnkdjlaa", sum := "42490de1896bb5bb789820f01135472d7f38e4f62a899a675868dba21a5a1855", func := "loop.example/g03208/laws.FnExactTurnPolygon", spec := "fnExactTurnPolygon", unfollowed := true, recurses := true, apart := false }
def FnExactTurnPolygonSaid : Prop := fnExactTurnPolygonRow.holds Try.pinned (OpenSpec.ofChange fnExactTurnPolygonSpec)

/-- ITS FALSE NEIGHBOUR: 'it returns false'. Refute it at one input. -/
def fnExactTurnPolygonWrong : ChangeSpec := { name := "fnExactTurnPolygon", fn := fun _ => fun
  | [d] => { results := [.lit (.bool false)], args := [d] }
  | _ => none }
def FnExactTurnPolygonWrongFalsely : Prop := fnExactTurnPolygonRow.holds Try.pinned (OpenSpec.ofChange fnExactTurnPolygonWrong)

/-- 'laws.FnExactStartAt': WHATEVER THE INPUT: true; the input reads as it did. -/
def fnExactStartAtSpec : ChangeSpec := { name := "fnExactStartAt", fn := fun _ => fun
  | [d1, d2] => { results := [.lit (.bool true)], args := [d1, d2] }
  | _ => none }
def fnExactStartAtRow : OpenClaim := { program := "ytklbambnnkdjlaa", sum := "42490de1896bb5bb789820f01135472d7f38e4f62a899a675868dba21a5a1855", func := "loop.example/g03208/laws.FnExactStartAt", spec := "fnExactStartAt", unfollowed := true, recurses := true, apart := false }
def FnExactStartAtSaid : Prop := fnExactStartAtRow.holds Try.pinned (OpenSpec.ofChange fnExactStartAtSpec)

/-- ITS FALSE NEIGHBOUR: 'it returns false'. Refute it at one input. -/
def fnExactStartAtWrong : ChangeSpec := { name := "fnExactStartAt", fn := fun _ => fun
  | [d1, d2] => { results := [.lit (.bool false)], args := [d1, d2] }
  | _ => none }
def FnExactStartAtWrongFalsely : Prop := fnExactStartAtRow.holds Try.pinned (OpenSpec.ofChange fnExactStartAtWrong)

/-- 'laws.FnExactStraightened': WHATEVER THE INPUT: true; the input reads as it did. -/
def fnExactStraightenedSpec : ChangeSpec := { name := "fnExactStraightened", fn := fun _ => fun
  | [d] => { results := [.lit (.bool true)], args := [d] }
  | _ => none }
def fnExactStraightenedRow : OpenClaim := { program := "ytklbambnnkdjlaa", sum := "42490de1896bb5bb789820f01135472d7f38e4f62a899a675868dba21a5a1855", func := "loop.example/g03208/laws.FnExactStraightened", spec := "fnExactStraightened", unfollowed := true, recurses := true, apart := false }
def FnExactStraightenedSaid : Prop := fnExactStraightenedRow.holds Try.pinned (OpenSpec.ofChange fnExactStraightenedSpec)

/-- ITS FALSE NEIGHBOUR: 'it returns false'. Refute it at one input. -/
def fnExactStraightenedWrong : ChangeSpec := { name := "fnExactStraightened", fn := fun _ => fun
  | [d] => { results := [.lit (.bool false)], args := [d] }
  | _ => none }
def FnExactStraightenedWrongFalsely : Prop := fnExactStraightenedRow.holds Try.pinned (OpenSpec.ofChange fnExactStraightenedWrong)

/-- 'laws.FnExactSamePolygon': WHATEVER THE INPUT: true; the input reads as it did. -/
def fnExactSamePolygonSpec : ChangeSpec := { name := "fnExactSamePolygon", fn := fun _ => fun
  | [d1, d2] => { results := [.lit (.bool true)], args := [d1, d2] }
  | _ => none }
def fnExactSamePolygonRow : OpenClaim := { program := "ytklbambnnkdjlaa", sum := "42490de1896bb5bb789820f01135472d7f38e4f62a899a675868dba21a5a1855", func := "loop.example/g03208/laws.FnExactSamePolygon", spec := "fnExactSamePolygon", unfollowed := true, recurses := true, apart := false }
def FnExactSamePolygonSaid : Prop := fnExactSamePolygonRow.holds Try.pinned (OpenSpec.ofChange fnExactSamePolygonSpec)

/-- ITS FALSE NEIGHBOUR: 'it returns false'. Refute it at one input. -/
def fnExactSamePolygonWrong : ChangeSpec := { name := "fnExactSamePolygon", fn := fun _ => fun
  | [d1, d2] => { results := [.lit (.bool false)], args := [d1, d2] }
  | _ => none }
def FnExactSamePolygonWrongFalsely : Prop := fnExactSamePolygonRow.holds Try.pinned (OpenSpec.ofChange fnExactSamePolygonWrong)

/-- 'laws.FnExactBoxOf': WHATEVER THE INPUT: true; the input reads as it did. -/
def fnExactBoxOfSpec : ChangeSpec := { name := "fnExactBoxOf", fn := fun _ => fun
  | [d] => { results := [.lit (.bool true)], args := [d] }
  | _ => none }
def fnExactBoxOfRow : OpenClaim := { program := "ytklbambnnkdjlaa", sum := "42490de1896bb5bb789820f01135472d7f38e4f62a899a675868dba21a5a1855", func := "loop.example/g03208/laws.FnExactBoxOf", spec := "fnExactBoxOf", unfollowed := true, recurses := true, apart := false }
def FnExactBoxOfSaid : Prop := fnExactBoxOfRow.holds Try.pinned (OpenSpec.ofChange fnExactBoxOfSpec)

/-- ITS FALSE NEIGHBOUR: 'it returns false'. Refute it at one input. -/
def fnExactBoxOfWrong : ChangeSpec := { name := "fnExactBoxOf", fn := fun _ => fun
  | [d] => { results := [.lit (.bool false)], args := [d] }
  | _ => none }
def FnExactBoxOfWrongFalsely : Prop := fnExactBoxOfRow.holds Try.pinned (OpenSpec.ofChange fnExactBoxOfWrong)

/- THE SECOND FORM. 'bulk': how many values and letters a reading holds, each counted each time it is reached (what is shared counts as often as it is met; a slice's spare places count too). A statement '..UptoSaid' is the law's where the arguments, and the package variables that the reading takes, are together of bulk at most 1048576: NARROWER than '..Said'. Prove '..Said' where nothing that the law and all that it calls make is longer than what came in: it says more and counts as full. Else prove '..UptoSaid'. A law counts once. -/
mutual
def uptoBulk {H : Type} : DataW H → Nat
  | .lit (.string bytes) => bytes.length + 1
  | .lit _ => 1
  | .nil => 1
  | .ptr d => uptoBulk d + 1
  | .slice elems spare => uptoBulkAll elems + uptoBulkAll spare + 1
  | .agg parts => uptoBulkAll parts + 1
  | .iface _ d => uptoBulk d + 1
  | .map entries => uptoBulkEntries entries + 1
  | .held _ => 1
def uptoBulkAll {H : Type} : List (DataW H) → Nat
  | [] => 0
  | d :: r => uptoBulk d + uptoBulkAll r
def uptoBulkEntries {H : Type} : List (Lit × DataW H) → Nat
  | [] => 0
  | x :: r => uptoBulkEntry x + uptoBulkEntries r
def uptoBulkEntry {H : Type} : Lit × DataW H → Nat
  | (.string bytes, d) => bytes.length + uptoBulk d + 1
  | (_, d) => uptoBulk d + 1
 end
def uptoSmall : (H : Type) → List (DataW H) → Bool := fun _ ds => decide (uptoBulkAll ds ≤ 1048576)
def OpenSpec.upto (s : _root_.Go.ChangeSpec) : _root_.Go.OpenSpec := { _root_.Go.OpenSpec.ofChange s with cond := some uptoSmall }

/-- 'laws.FnExactPolygonOk', WHERE WHAT IT READS IS OF BULK AT MOST 1048576: true; the input reads as it did. -/
def fnExactPolygonOkUptoRow : OpenClaim := { program := "ytklbambnnkdjlaa", sum := "42490de1896bb5bb789820f01135472d7f38e4f62a899a675868dba21a5a1855", func := "loop.example/g03208/laws.FnExactPolygonOk", spec := "fnExactPolygonOk", unfollowed := true, recurses := true, apart := false, narrowed := true }
def FnExactPolygonOkUptoSaid : Prop := fnExactPolygonOkUptoRow.holds Try.pinned (OpenSpec.upto fnExactPolygonOkSpec)

/-- 'laws.FnExactTwiceArea', WHERE WHAT IT READS IS OF BULK AT MOST 1048576: true; the input reads as it did. -/
def fnExactTwiceAreaUptoRow : OpenClaim := { program := "ytklbambnnkdjlaa", sum := "42490de1896bb5bb789820f01135472d7f38e4f62a899a675868dba21a5a1855", func := "loop.example/g03208/laws.FnExactTwiceArea", spec := "fnExactTwiceArea", unfollowed := true, recurses := true, apart := false, narrowed := true }
def FnExactTwiceAreaUptoSaid : Prop := fnExactTwiceAreaUptoRow.holds Try.pinned (OpenSpec.upto fnExactTwiceAreaSpec)

/-- 'laws.FnExactRimPoints', WHERE WHAT IT READS IS OF BULK AT MOST 1048576: true; the input reads as it did. -/
def fnExactRimPointsUptoRow : OpenClaim := { program := "ytklbambnnkdjlaa", sum := "42490de1896bb5bb789820f01135472d7f38e4f62a899a675868dba21a5a1855", func := "loop.example/g03208/laws.FnExactRimPoints", spec := "fnExactRimPoints", unfollowed := true, recurses := true, apart := false, narrowed := true }
def FnExactRimPointsUptoSaid : Prop := fnExactRimPointsUptoRow.holds Try.pinned (OpenSpec.upto fnExactRimPointsSpec)

/-- 'laws.FnExactIsInside', WHERE WHAT IT READS IS OF BULK AT MOST 1048576: true; the input reads as it did. -/
def fnExactIsInsideUptoRow : OpenClaim := { program := "ytklbambnnkdjlaa", sum := "42490de1896bb5bb789820f01135472d7f38e4f62a899a675868dba21a5a1855", func := "loop.example/g03208/laws.FnExactIsInside", spec := "fnExactIsInside", unfollowed := true, recurses := true, apart := false, narrowed := true }
def FnExactIsInsideUptoSaid : Prop := fnExactIsInsideUptoRow.holds Try.pinned (OpenSpec.upto fnExactIsInsideSpec)

/-- 'laws.FnExactInnerPoints', WHERE WHAT IT READS IS OF BULK AT MOST 1048576: true; the input reads as it did. -/
def fnExactInnerPointsUptoRow : OpenClaim := { program := "ytklbambnnkdjlaa", sum := "42490de1896bb5bb789820f01135472d7f38e4f62a899a675868dba21a5a1855", func := "loop.example/g03208/laws.FnExactInnerPoints", spec := "fnExactInnerPoints", unfollowed := true, recurses := true, apart := false, narrowed := true }
def FnExactInnerPointsUptoSaid : Prop := fnExactInnerPointsUptoRow.holds Try.pinned (OpenSpec.upto fnExactInnerPointsSpec)

/-- 'laws.FnExactTurnPolygon', WHERE WHAT IT READS IS OF BULK AT MOST 1048576: true; the input reads as it did. -/
def fnExactTurnPolygonUptoRow : OpenClaim := { program := "ytklbambnnkdjlaa", sum := "42490de1896bb5bb789820f01135472d7f38e4f62a899a675868dba21a5a1855", func := "loop.example/g03208/laws.FnExactTurnPolygon", spec := "fnExactTurnPolygon", unfollowed := true, recurses := true, apart := false, narrowed := true }
def FnExactTurnPolygonUptoSaid : Prop := fnExactTurnPolygonUptoRow.holds Try.pinned (OpenSpec.upto fnExactTurnPolygonSpec)

/-- 'laws.FnExactStartAt', WHERE WHAT IT READS IS OF BULK AT MOST 1048576: true; the input reads as it did. -/
def fnExactStartAtUptoRow : OpenClaim := { program := "ytklbambnnkdjlaa", sum := "42490de1896bb5bb789820f01135472d7f38e4f62a899a675868dba21a5a1855", func := "loop.example/g03208/laws.FnExactStartAt", spec := "fnExactStartAt", unfollowed := true, recurses := true, apart := false, narrowed := true }
def FnExactStartAtUptoSaid : Prop := fnExactStartAtUptoRow.holds Try.pinned (OpenSpec.upto fnExactStartAtSpec)

/-- 'laws.FnExactStraightened', WHERE WHAT IT READS IS OF BULK AT MOST 1048576: true; the input reads as it did. -/
def fnExactStraightenedUptoRow : OpenClaim := { program := "ytklbambnnkdjlaa", sum := "42490de1896bb5bb789820f01135472d7f38e4f62a899a675868dba21a5a1855", func := "loop.example/g03208/laws.FnExactStraightened", spec := "fnExactStraightened", unfollowed := true, recurses := true, apart := false, narrowed := true }
def FnExactStraightenedUptoSaid : Prop := fnExactStraightenedUptoRow.holds Try.pinned (OpenSpec.upto fnExactStraightenedSpec)

/-- 'laws.FnExactSamePolygon', WHERE WHAT IT READS IS OF BULK AT MOST 1048576: true; the input reads as it did. -/
def fnExactSamePolygonUptoRow : OpenClaim := { program := "ytklbambnnkdjlaa", sum := "42490de1896bb5bb789820f01135472d7f38e4f62a899a675868dba21a5a1855", func := "loop.example/g03208/laws.FnExactSamePolygon", spec := "fnExactSamePolygon", unfollowed := true, recurses := true, apart := false, narrowed := true }
def FnExactSamePolygonUptoSaid : Prop := fnExactSamePolygonUptoRow.holds Try.pinned (OpenSpec.upto fnExactSamePolygonSpec)

/-- 'laws.FnExactBoxOf', WHERE WHAT IT READS IS OF BULK AT MOST 1048576: true; the input reads as it did. -/
def fnExactBoxOfUptoRow : OpenClaim := { program := "ytklbambnnkdjlaa", sum := "42490de1896bb5bb789820f01135472d7f38e4f62a899a675868dba21a5a1855", func := "loop.example/g03208/laws.FnExactBoxOf", spec := "fnExactBoxOf", unfollowed := true, recurses := true, apart := false, narrowed := true }
def FnExactBoxOfUptoSaid : Prop := fnExactBoxOfUptoRow.holds Try.pinned (OpenSpec.upto fnExactBoxOfSpec)

end Rows
end Go.Proofs.Ytklbambnnkdjlaa
