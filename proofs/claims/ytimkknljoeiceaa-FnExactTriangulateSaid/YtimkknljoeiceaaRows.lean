/-
  No cell of these rows narrows 'for every input' (looked for: loops, veiled, ifaces, maps, wideKeys, modest, calm, conditions, laid).
  DERIVED. THE GIVEN ROWS OF THIS SEAT. 12 by the template 'for every input the law returns true; each argument reads behind the call as it read before'; 0 by the template 'total and deterministic' (their statements: YtimkknljoeiceaaTotals.lean).
  GIVEN WITH THE SEED: the statements are not yours to turn. If you find one false, say at which input.
  Laid BY PROGRAM, IN A SANDBOX (cutbox-rows.mjs): the forced cells as the released guide's own fill.sh prints them over the translation b9d275e215188432… (all of the seat's roots in one cut). By AI agents, Wed Nov 11 2026. No macro, syntax, notation, axiom, sorry.
-/
import Derived.Test.YtimkknljoeiceaaChecked
import GoSem.Claim
import GoSem.ClaimJoined
import GoSem.ClaimMapViews
import Derived.JoinedTies
import Derived.KernelRfl
namespace Go.Proofs.Ytimkknljoeiceaa
/- THE CELL 'sum', in the pinned program and in every row, IS THE sha256 OF THE DUMP (.gsa) THAT YtimkknljoeiceaaProg.lean LOADS. Nothing in Lean hashes anything: it is a label: what it is worth is what the hold of that sum in a sandbox is worth. -/
noncomputable def Try.pinned : Pinned := { name := "ytimkknljoeiceaa", sum := "b9d275e21518843247813378bac24670b92841433563f2eaec2554dd4475eba7", checked := Try.checked }
namespace Rows
def none {H : Type} : Left H := { results := [], args := [] }

/-- 'laws.FnExactTriangulate': WHATEVER THE INPUT: true; the input reads as it did. -/
def fnExactTriangulateSpec : ChangeSpec := { name := "fnExactTriangulate", fn := fun _ => fun
  | [d] => { results := [.lit (.bool true)], args := [d] }
  | _ => none }
def fnExactTriangulateRow : OpenClaim := { program := "ytimkknljoeiceaa", sum := "b9d275e21518843247813378bac24670b92841433563f2eaec2554dd4475eba7", func := "loop.example/g03208/laws.FnExactTriangulate", spec := "fnExactTriangulate", unfollowed := true, recurses := true, plainKeys := false, apart := false }
def FnExactTriangulateSaid : Prop := fnExactTriangulateRow.holds Try.pinned (OpenSpec.ofChange fnExactTriangulateSpec)

/-- ITS FALSE NEIGHBOUR: 'it returns false'. Refute it at one input. -/
def fnExactTriangulateWrong : ChangeSpec := { name := "fnExactTriangulate", fn := fun _ => fun
  | [d] => { results := [.lit (.bool false)], args := [d] }
  | _ => none }
def FnExactTriangulateWrongFalsely : Prop := fnExactTriangulateRow.holds Try.pinned (OpenSpec.ofChange fnExactTriangulateWrong)

/-- 'laws.FnExactShapeOk': WHATEVER THE INPUT: true; the input reads as it did. -/
def fnExactShapeOkSpec : ChangeSpec := { name := "fnExactShapeOk", fn := fun _ => fun
  | [d1, d2, d3] => { results := [.lit (.bool true)], args := [d1, d2, d3] }
  | _ => none }
def fnExactShapeOkRow : OpenClaim := { program := "ytimkknljoeiceaa", sum := "b9d275e21518843247813378bac24670b92841433563f2eaec2554dd4475eba7", func := "loop.example/g03208/laws.FnExactShapeOk", spec := "fnExactShapeOk", plainKeys := false, apart := false }
def FnExactShapeOkSaid : Prop := fnExactShapeOkRow.holds Try.pinned (OpenSpec.ofChange fnExactShapeOkSpec)

/-- ITS FALSE NEIGHBOUR: 'it returns false'. Refute it at one input. -/
def fnExactShapeOkWrong : ChangeSpec := { name := "fnExactShapeOk", fn := fun _ => fun
  | [d1, d2, d3] => { results := [.lit (.bool false)], args := [d1, d2, d3] }
  | _ => none }
def FnExactShapeOkWrongFalsely : Prop := fnExactShapeOkRow.holds Try.pinned (OpenSpec.ofChange fnExactShapeOkWrong)

/-- 'laws.FnExactCellCount': WHATEVER THE INPUT: true; the input reads as it did. -/
def fnExactCellCountSpec : ChangeSpec := { name := "fnExactCellCount", fn := fun _ => fun
  | [d1, d2, d3] => { results := [.lit (.bool true)], args := [d1, d2, d3] }
  | _ => none }
def fnExactCellCountRow : OpenClaim := { program := "ytimkknljoeiceaa", sum := "b9d275e21518843247813378bac24670b92841433563f2eaec2554dd4475eba7", func := "loop.example/g03208/laws.FnExactCellCount", spec := "fnExactCellCount", plainKeys := false, apart := false }
def FnExactCellCountSaid : Prop := fnExactCellCountRow.holds Try.pinned (OpenSpec.ofChange fnExactCellCountSpec)

/-- ITS FALSE NEIGHBOUR: 'it returns false'. Refute it at one input. -/
def fnExactCellCountWrong : ChangeSpec := { name := "fnExactCellCount", fn := fun _ => fun
  | [d1, d2, d3] => { results := [.lit (.bool false)], args := [d1, d2, d3] }
  | _ => none }
def FnExactCellCountWrongFalsely : Prop := fnExactCellCountRow.holds Try.pinned (OpenSpec.ofChange fnExactCellCountWrong)

/-- 'laws.FnExactPartsOf': WHATEVER THE INPUT: true; the input reads as it did. -/
def fnExactPartsOfSpec : ChangeSpec := { name := "fnExactPartsOf", fn := fun _ => fun
  | [d1, d2, d3] => { results := [.lit (.bool true)], args := [d1, d2, d3] }
  | _ => none }
def fnExactPartsOfRow : OpenClaim := { program := "ytimkknljoeiceaa", sum := "b9d275e21518843247813378bac24670b92841433563f2eaec2554dd4475eba7", func := "loop.example/g03208/laws.FnExactPartsOf", spec := "fnExactPartsOf", recurses := true, plainKeys := false, apart := false }
def FnExactPartsOfSaid : Prop := fnExactPartsOfRow.holds Try.pinned (OpenSpec.ofChange fnExactPartsOfSpec)

/-- ITS FALSE NEIGHBOUR: 'it returns false'. Refute it at one input. -/
def fnExactPartsOfWrong : ChangeSpec := { name := "fnExactPartsOf", fn := fun _ => fun
  | [d1, d2, d3] => { results := [.lit (.bool false)], args := [d1, d2, d3] }
  | _ => none }
def FnExactPartsOfWrongFalsely : Prop := fnExactPartsOfRow.holds Try.pinned (OpenSpec.ofChange fnExactPartsOfWrong)

/-- 'laws.FnExactIsWhole': WHATEVER THE INPUT: true; the input reads as it did. -/
def fnExactIsWholeSpec : ChangeSpec := { name := "fnExactIsWhole", fn := fun _ => fun
  | [d1, d2, d3] => { results := [.lit (.bool true)], args := [d1, d2, d3] }
  | _ => none }
def fnExactIsWholeRow : OpenClaim := { program := "ytimkknljoeiceaa", sum := "b9d275e21518843247813378bac24670b92841433563f2eaec2554dd4475eba7", func := "loop.example/g03208/laws.FnExactIsWhole", spec := "fnExactIsWhole", recurses := true, plainKeys := false, apart := false }
def FnExactIsWholeSaid : Prop := fnExactIsWholeRow.holds Try.pinned (OpenSpec.ofChange fnExactIsWholeSpec)

/-- ITS FALSE NEIGHBOUR: 'it returns false'. Refute it at one input. -/
def fnExactIsWholeWrong : ChangeSpec := { name := "fnExactIsWhole", fn := fun _ => fun
  | [d1, d2, d3] => { results := [.lit (.bool false)], args := [d1, d2, d3] }
  | _ => none }
def FnExactIsWholeWrongFalsely : Prop := fnExactIsWholeRow.holds Try.pinned (OpenSpec.ofChange fnExactIsWholeWrong)

/-- 'laws.FnExactCornerOf': WHATEVER THE INPUT: true; the input reads as it did. -/
def fnExactCornerOfSpec : ChangeSpec := { name := "fnExactCornerOf", fn := fun _ => fun
  | [d1, d2, d3] => { results := [.lit (.bool true)], args := [d1, d2, d3] }
  | _ => none }
def fnExactCornerOfRow : OpenClaim := { program := "ytimkknljoeiceaa", sum := "b9d275e21518843247813378bac24670b92841433563f2eaec2554dd4475eba7", func := "loop.example/g03208/laws.FnExactCornerOf", spec := "fnExactCornerOf", unfollowed := true, recurses := true, plainKeys := false, apart := false }
def FnExactCornerOfSaid : Prop := fnExactCornerOfRow.holds Try.pinned (OpenSpec.ofChange fnExactCornerOfSpec)

/-- ITS FALSE NEIGHBOUR: 'it returns false'. Refute it at one input. -/
def fnExactCornerOfWrong : ChangeSpec := { name := "fnExactCornerOf", fn := fun _ => fun
  | [d1, d2, d3] => { results := [.lit (.bool false)], args := [d1, d2, d3] }
  | _ => none }
def FnExactCornerOfWrongFalsely : Prop := fnExactCornerOfRow.holds Try.pinned (OpenSpec.ofChange fnExactCornerOfWrong)

/-- 'laws.FnExactMovedShape': WHATEVER THE INPUT: true; the input reads as it did. -/
def fnExactMovedShapeSpec : ChangeSpec := { name := "fnExactMovedShape", fn := fun _ => fun
  | [d1, d2, d3, d4] => { results := [.lit (.bool true)], args := [d1, d2, d3, d4] }
  | _ => none }
def fnExactMovedShapeRow : OpenClaim := { program := "ytimkknljoeiceaa", sum := "b9d275e21518843247813378bac24670b92841433563f2eaec2554dd4475eba7", func := "loop.example/g03208/laws.FnExactMovedShape", spec := "fnExactMovedShape", unfollowed := true, recurses := true, plainKeys := false, apart := false }
def FnExactMovedShapeSaid : Prop := fnExactMovedShapeRow.holds Try.pinned (OpenSpec.ofChange fnExactMovedShapeSpec)

/-- ITS FALSE NEIGHBOUR: 'it returns false'. Refute it at one input. -/
def fnExactMovedShapeWrong : ChangeSpec := { name := "fnExactMovedShape", fn := fun _ => fun
  | [d1, d2, d3, d4] => { results := [.lit (.bool false)], args := [d1, d2, d3, d4] }
  | _ => none }
def FnExactMovedShapeWrongFalsely : Prop := fnExactMovedShapeRow.holds Try.pinned (OpenSpec.ofChange fnExactMovedShapeWrong)

/-- 'laws.FnExactNameOfShape': WHATEVER THE INPUT: true; the input reads as it did. -/
def fnExactNameOfShapeSpec : ChangeSpec := { name := "fnExactNameOfShape", fn := fun _ => fun
  | [d1, d2, d3] => { results := [.lit (.bool true)], args := [d1, d2, d3] }
  | _ => none }
def fnExactNameOfShapeRow : OpenClaim := { program := "ytimkknljoeiceaa", sum := "b9d275e21518843247813378bac24670b92841433563f2eaec2554dd4475eba7", func := "loop.example/g03208/laws.FnExactNameOfShape", spec := "fnExactNameOfShape", unfollowed := true, recurses := true, plainKeys := false, apart := false }
def FnExactNameOfShapeSaid : Prop := fnExactNameOfShapeRow.holds Try.pinned (OpenSpec.ofChange fnExactNameOfShapeSpec)

/-- ITS FALSE NEIGHBOUR: 'it returns false'. Refute it at one input. -/
def fnExactNameOfShapeWrong : ChangeSpec := { name := "fnExactNameOfShape", fn := fun _ => fun
  | [d1, d2, d3] => { results := [.lit (.bool false)], args := [d1, d2, d3] }
  | _ => none }
def FnExactNameOfShapeWrongFalsely : Prop := fnExactNameOfShapeRow.holds Try.pinned (OpenSpec.ofChange fnExactNameOfShapeWrong)

/-- 'laws.FnExactFormatShape': WHATEVER THE INPUT: true; the input reads as it did. -/
def fnExactFormatShapeSpec : ChangeSpec := { name := "fnExactFormatShape", fn := fun _ => fun
  | [d1, d2, d3] => { results := [.lit (.bool true)], args := [d1, d2, d3] }
  | _ => none }
def fnExactFormatShapeRow : OpenClaim := { program := "ytimkknljoeiceaa", sum := "b9d275e21518843247813378bac24670b92841433563f2eaec2554dd4475eba7", func := "loop.example/g03208/laws.FnExactFormatShape", spec := "fnExactFormatShape", inPlace := ["internal/abi.NoEscape"], plainKeys := false, apart := false }
def FnExactFormatShapeSaid : Prop := fnExactFormatShapeRow.holds Try.pinned (OpenSpec.ofChange fnExactFormatShapeSpec)

/-- ITS FALSE NEIGHBOUR: 'it returns false'. Refute it at one input. -/
def fnExactFormatShapeWrong : ChangeSpec := { name := "fnExactFormatShape", fn := fun _ => fun
  | [d1, d2, d3] => { results := [.lit (.bool false)], args := [d1, d2, d3] }
  | _ => none }
def FnExactFormatShapeWrongFalsely : Prop := fnExactFormatShapeRow.holds Try.pinned (OpenSpec.ofChange fnExactFormatShapeWrong)

/-- 'laws.FnExactParseShape': WHATEVER THE INPUT: true; the input reads as it did. -/
def fnExactParseShapeSpec : ChangeSpec := { name := "fnExactParseShape", fn := fun _ => fun
  | [d] => { results := [.lit (.bool true)], args := [d] }
  | _ => none }
def fnExactParseShapeRow : OpenClaim := { program := "ytimkknljoeiceaa", sum := "b9d275e21518843247813378bac24670b92841433563f2eaec2554dd4475eba7", func := "loop.example/g03208/laws.FnExactParseShape", spec := "fnExactParseShape", inPlace := ["internal/abi.NoEscape"], plainKeys := false, apart := false }
def FnExactParseShapeSaid : Prop := fnExactParseShapeRow.holds Try.pinned (OpenSpec.ofChange fnExactParseShapeSpec)

/-- ITS FALSE NEIGHBOUR: 'it returns false'. Refute it at one input. -/
def fnExactParseShapeWrong : ChangeSpec := { name := "fnExactParseShape", fn := fun _ => fun
  | [d] => { results := [.lit (.bool false)], args := [d] }
  | _ => none }
def FnExactParseShapeWrongFalsely : Prop := fnExactParseShapeRow.holds Try.pinned (OpenSpec.ofChange fnExactParseShapeWrong)

/-- 'laws.FnExactRimOf': WHATEVER THE INPUT: true; the input reads as it did. -/
def fnExactRimOfSpec : ChangeSpec := { name := "fnExactRimOf", fn := fun _ => fun
  | [d1, d2, d3] => { results := [.lit (.bool true)], args := [d1, d2, d3] }
  | _ => none }
def fnExactRimOfRow : OpenClaim := { program := "ytimkknljoeiceaa", sum := "b9d275e21518843247813378bac24670b92841433563f2eaec2554dd4475eba7", func := "loop.example/g03208/laws.FnExactRimOf", spec := "fnExactRimOf", plainKeys := false, apart := false }
def FnExactRimOfSaid : Prop := fnExactRimOfRow.holds Try.pinned (OpenSpec.ofChange fnExactRimOfSpec)

/-- ITS FALSE NEIGHBOUR: 'it returns false'. Refute it at one input. -/
def fnExactRimOfWrong : ChangeSpec := { name := "fnExactRimOf", fn := fun _ => fun
  | [d1, d2, d3] => { results := [.lit (.bool false)], args := [d1, d2, d3] }
  | _ => none }
def FnExactRimOfWrongFalsely : Prop := fnExactRimOfRow.holds Try.pinned (OpenSpec.ofChange fnExactRimOfWrong)

/-- 'laws.FnHulls': WHATEVER THE INPUT: true; the input reads as it did. -/
def fnHullsSpec : ChangeSpec := { name := "fnHulls", fn := fun _ => fun
  | [d] => { results := [.lit (.bool true)], args := [d] }
  | _ => none }
def fnHullsRow : OpenClaim := { program := "ytimkknljoeiceaa", sum := "b9d275e21518843247813378bac24670b92841433563f2eaec2554dd4475eba7", func := "loop.example/g03208/laws.FnHulls", spec := "fnHulls", unfollowed := true, recurses := true, plainKeys := false, apart := false }
def FnHullsSaid : Prop := fnHullsRow.holds Try.pinned (OpenSpec.ofChange fnHullsSpec)

/-- ITS FALSE NEIGHBOUR: 'it returns false'. Refute it at one input. -/
def fnHullsWrong : ChangeSpec := { name := "fnHulls", fn := fun _ => fun
  | [d] => { results := [.lit (.bool false)], args := [d] }
  | _ => none }
def FnHullsWrongFalsely : Prop := fnHullsRow.holds Try.pinned (OpenSpec.ofChange fnHullsWrong)

/- THE SECOND FORM. 'bulk': how many values and letters a reading holds, each counted each time it is reached (what is shared counts as often as it is met; a slice's spare places count too). A statement '..UptoSaid' is the law's where the arguments, and the package variables that the reading takes, are together of bulk at most 1048576: NARROWER than '..Said'. Prove '..Said' where nothing that the law and all that it calls make is longer than what came in: it says more and counts as full. Else prove '..UptoSaid'. A law counts once. -/
mutual
def uptoBulk {H : Type} : DataW H → Nat
  | .lit (.string bytes) => bytes.length + 1
  | .lit _ => 1
  | .nil => 1
  | .ptr d => uptoBulk d + 1
  | .slice elems spare => uptoBulkAll elems + uptoBulkAll spare + 1
  | .agg parts => uptoBulkAll parts + 1
  | .iface _ d => uptoBulk d + 1
  | .map entries => uptoBulkEntries entries + 1
  | .held _ => 1
def uptoBulkAll {H : Type} : List (DataW H) → Nat
  | [] => 0
  | d :: r => uptoBulk d + uptoBulkAll r
def uptoBulkEntries {H : Type} : List (Lit × DataW H) → Nat
  | [] => 0
  | x :: r => uptoBulkEntry x + uptoBulkEntries r
def uptoBulkEntry {H : Type} : Lit × DataW H → Nat
  | (.string bytes, d) => bytes.length + uptoBulk d + 1
  | (_, d) => uptoBulk d + 1
 end
def uptoSmall : (H : Type) → List (DataW H) → Bool := fun _ ds => decide (uptoBulkAll ds ≤ 1048576)
def OpenSpec.upto (s : _root_.Go.ChangeSpec) : _root_.Go.OpenSpec := { _root_.Go.OpenSpec.ofChange s with cond := some uptoSmall }

/-- 'laws.FnExactTriangulate', WHERE WHAT IT READS IS OF BULK AT MOST 1048576: true; the input reads as it did. -/
def fnExactTriangulateUptoRow : OpenClaim := { program := "ytimkknljoeiceaa", sum := "b9d275e21518843247813378bac24670b92841433563f2eaec2554dd4475eba7", func := "loop.example/g03208/laws.FnExactTriangulate", spec := "fnExactTriangulate", unfollowed := true, recurses := true, plainKeys := false, apart := false, narrowed := true }
def FnExactTriangulateUptoSaid : Prop := fnExactTriangulateUptoRow.holds Try.pinned (OpenSpec.upto fnExactTriangulateSpec)

/-- 'laws.FnExactShapeOk', WHERE WHAT IT READS IS OF BULK AT MOST 1048576: true; the input reads as it did. -/
def fnExactShapeOkUptoRow : OpenClaim := { program := "ytimkknljoeiceaa", sum := "b9d275e21518843247813378bac24670b92841433563f2eaec2554dd4475eba7", func := "loop.example/g03208/laws.FnExactShapeOk", spec := "fnExactShapeOk", plainKeys := false, apart := false, narrowed := true }
def FnExactShapeOkUptoSaid : Prop := fnExactShapeOkUptoRow.holds Try.pinned (OpenSpec.upto fnExactShapeOkSpec)

/-- 'laws.FnExactCellCount', WHERE WHAT IT READS IS OF BULK AT MOST 1048576: true; the input reads as it did. -/
def fnExactCellCountUptoRow : OpenClaim := { program := "ytimkknljoeiceaa", sum := "b9d275e21518843247813378bac24670b92841433563f2eaec2554dd4475eba7", func := "loop.example/g03208/laws.FnExactCellCount", spec := "fnExactCellCount", plainKeys := false, apart := false, narrowed := true }
def FnExactCellCountUptoSaid : Prop := fnExactCellCountUptoRow.holds Try.pinned (OpenSpec.upto fnExactCellCountSpec)

/-- 'laws.FnExactPartsOf', WHERE WHAT IT READS IS OF BULK AT MOST 1048576: true; the input reads as it did. -/
def fnExactPartsOfUptoRow : OpenClaim := { program := "ytimkknljoeiceaa", sum := "b9d275e21518843247813378bac24670b92841433563f2eaec2554dd4475eba7", func := "loop.example/g03208/laws.FnExactPartsOf", spec := "fnExactPartsOf", recurses := true, plainKeys := false, apart := false, narrowed := true }
def FnExactPartsOfUptoSaid : Prop := fnExactPartsOfUptoRow.holds Try.pinned (OpenSpec.upto fnExactPartsOfSpec)

/-- 'laws.FnExactIsWhole', WHERE WHAT IT READS IS OF BULK AT MOST 1048576: true; the input reads as it did. -/
def fnExactIsWholeUptoRow : OpenClaim := { program := "ytimkknljoeiceaa", sum := "b9d275e21518843247813378bac24670b92841433563f2eaec2554dd4475eba7", func := "loop.example/g03208/laws.FnExactIsWhole", spec := "fnExactIsWhole", recurses := true, plainKeys := false, apart := false, narrowed := true }
def FnExactIsWholeUptoSaid : Prop := fnExactIsWholeUptoRow.holds Try.pinned (OpenSpec.upto fnExactIsWholeSpec)

/-- 'laws.FnExactCornerOf', WHERE WHAT IT READS IS OF BULK AT MOST 1048576: true; the input reads as it did. -/
def fnExactCornerOfUptoRow : OpenClaim := { program := "ytimkknljoeiceaa", sum := "b9d275e21518843247813378bac24670b92841433563f2eaec2554dd4475eba7", func := "loop.example/g03208/laws.FnExactCornerOf", spec := "fnExactCornerOf", unfollowed := true, recurses := true, plainKeys := false, apart := false, narrowed := true }
def FnExactCornerOfUptoSaid : Prop := fnExactCornerOfUptoRow.holds Try.pinned (OpenSpec.upto fnExactCornerOfSpec)

/-- 'laws.FnExactMovedShape', WHERE WHAT IT READS IS OF BULK AT MOST 1048576: true; the input reads as it did. -/
def fnExactMovedShapeUptoRow : OpenClaim := { program := "ytimkknljoeiceaa", sum := "b9d275e21518843247813378bac24670b92841433563f2eaec2554dd4475eba7", func := "loop.example/g03208/laws.FnExactMovedShape", spec := "fnExactMovedShape", unfollowed := true, recurses := true, plainKeys := false, apart := false, narrowed := true }
def FnExactMovedShapeUptoSaid : Prop := fnExactMovedShapeUptoRow.holds Try.pinned (OpenSpec.upto fnExactMovedShapeSpec)

/-- 'laws.FnExactNameOfShape', WHERE WHAT IT READS IS OF BULK AT MOST 1048576: true; the input reads as it did. -/
def fnExactNameOfShapeUptoRow : OpenClaim := { program := "ytimkknljoeiceaa", sum := "b9d275e21518843247813378bac24670b92841433563f2eaec2554dd4475eba7", func := "loop.example/g03208/laws.FnExactNameOfShape", spec := "fnExactNameOfShape", unfollowed := true, recurses := true, plainKeys := false, apart := false, narrowed := true }
def FnExactNameOfShapeUptoSaid : Prop := fnExactNameOfShapeUptoRow.holds Try.pinned (OpenSpec.upto fnExactNameOfShapeSpec)

/-- 'laws.FnExactFormatShape', WHERE WHAT IT READS IS OF BULK AT MOST 1048576: true; the input reads as it did. -/
def fnExactFormatShapeUptoRow : OpenClaim := { program := "ytimkknljoeiceaa", sum := "b9d275e21518843247813378bac24670b92841433563f2eaec2554dd4475eba7", func := "loop.example/g03208/laws.FnExactFormatShape", spec := "fnExactFormatShape", inPlace := ["internal/abi.NoEscape"], plainKeys := false, apart := false, narrowed := true }
def FnExactFormatShapeUptoSaid : Prop := fnExactFormatShapeUptoRow.holds Try.pinned (OpenSpec.upto fnExactFormatShapeSpec)

/-- 'laws.FnExactParseShape', WHERE WHAT IT READS IS OF BULK AT MOST 1048576: true; the input reads as it did. -/
def fnExactParseShapeUptoRow : OpenClaim := { program := "ytimkknljoeiceaa", sum := "b9d275e21518843247813378bac24670b92841433563f2eaec2554dd4475eba7", func := "loop.example/g03208/laws.FnExactParseShape", spec := "fnExactParseShape", inPlace := ["internal/abi.NoEscape"], plainKeys := false, apart := false, narrowed := true }
def FnExactParseShapeUptoSaid : Prop := fnExactParseShapeUptoRow.holds Try.pinned (OpenSpec.upto fnExactParseShapeSpec)

/-- 'laws.FnExactRimOf', WHERE WHAT IT READS IS OF BULK AT MOST 1048576: true; the input reads as it did. -/
def fnExactRimOfUptoRow : OpenClaim := { program := "ytimkknljoeiceaa", sum := "b9d275e21518843247813378bac24670b92841433563f2eaec2554dd4475eba7", func := "loop.example/g03208/laws.FnExactRimOf", spec := "fnExactRimOf", plainKeys := false, apart := false, narrowed := true }
def FnExactRimOfUptoSaid : Prop := fnExactRimOfUptoRow.holds Try.pinned (OpenSpec.upto fnExactRimOfSpec)

/-- 'laws.FnHulls', WHERE WHAT IT READS IS OF BULK AT MOST 1048576: true; the input reads as it did. -/
def fnHullsUptoRow : OpenClaim := { program := "ytimkknljoeiceaa", sum := "b9d275e21518843247813378bac24670b92841433563f2eaec2554dd4475eba7", func := "loop.example/g03208/laws.FnHulls", spec := "fnHulls", unfollowed := true, recurses := true, plainKeys := false, apart := false, narrowed := true }
def FnHullsUptoSaid : Prop := fnHullsUptoRow.holds Try.pinned (OpenSpec.upto fnHullsSpec)

end Rows
end Go.Proofs.Ytimkknljoeiceaa
