/-
  DERIVED. GIVEN WITH THE SEED: THE CARDS: each row of YtnkehfhedjdhaaaDoorRows.lean that lists a variable, with what it lists TIED to the program's text (the seventh form; the later family's looks); each row that meets fmt, with fmt's text TOLD by the authors' own Lean function (tested against real Go, not proved from fmt's source: count such statements apart). THE CARD IS WHAT COUNTS. Prove the row's statement (the work); the ties are given (YtnkehfhedjdhaaaDoorTie.lean); close each card by the builder's one call (the guide's Derived/Test/ToyasCard.lean, 'card_holds'). Laid BY PROGRAM, IN A SANDBOX (cutbox-door.mjs). By AI agents, Wed Nov 11 2026. No macro, syntax, notation, axiom, sorry.
-/
import Derived.Test.YtnkehfhedjdhaaaDoorRows
import GoSem.ClaimSeven
namespace Go.Proofs.YtnkehfhedjdhaaaDoor
namespace Rows

/-- THE TIED CARD OF 'laws.FnPieces'. -/
def fnPiecesCard : Claim7 := { stood := { row := fnPiecesRow, standIns := [], harness := (true, "04bf6eb1cd41894a259363a9ef1211b2c595a4cb28f8efd8b786bc4eea112d69"), looks := false }, kinds := [], alts := [], laidByText := true, laidKinds := [.data, .data], laidTests := true, laidLooks := .later }
def FnPiecesCardSaid : Prop := Claim7.holds Tryd.pinned (.plain (OpenSpec.ofChange fnPiecesSpec)) fnPiecesCard

/-- THE TIED CARD OF 'laws.FnExactCutOf'. -/
def fnExactCutOfCard : Claim7 := { stood := { row := fnExactCutOfRow, standIns := [], harness := (true, "04bf6eb1cd41894a259363a9ef1211b2c595a4cb28f8efd8b786bc4eea112d69"), looks := false }, kinds := [], alts := [], laidByText := true, laidKinds := [.data, .data], laidTests := true, laidLooks := .later }
def FnExactCutOfCardSaid : Prop := Claim7.holds Tryd.pinned (.plain (OpenSpec.ofChange fnExactCutOfSpec)) fnExactCutOfCard

/-- THE TIED CARD OF 'laws.FnExactJoinedCut'. -/
def fnExactJoinedCutCard : Claim7 := { stood := { row := fnExactJoinedCutRow, standIns := [], harness := (true, "04bf6eb1cd41894a259363a9ef1211b2c595a4cb28f8efd8b786bc4eea112d69"), looks := false }, kinds := [], alts := [], laidByText := true, laidKinds := [.data, .data], laidTests := true, laidLooks := .later }
def FnExactJoinedCutCardSaid : Prop := Claim7.holds Tryd.pinned (.plain (OpenSpec.ofChange fnExactJoinedCutSpec)) fnExactJoinedCutCard

/-- THE SECOND FORM's CARD OF 'laws.FnPieces'. -/
def fnPiecesUptoCard : Claim7 := { stood := { row := fnPiecesUptoRow, standIns := [], harness := (true, "04bf6eb1cd41894a259363a9ef1211b2c595a4cb28f8efd8b786bc4eea112d69"), looks := false }, kinds := [], alts := [], laidByText := true, laidKinds := [.data, .data], laidTests := true, laidLooks := .later }
def FnPiecesUptoCardSaid : Prop := Claim7.holds Tryd.pinned (.plain (OpenSpec.upto fnPiecesSpec)) fnPiecesUptoCard

/-- THE SECOND FORM's CARD OF 'laws.FnExactCutOf'. -/
def fnExactCutOfUptoCard : Claim7 := { stood := { row := fnExactCutOfUptoRow, standIns := [], harness := (true, "04bf6eb1cd41894a259363a9ef1211b2c595a4cb28f8efd8b786bc4eea112d69"), looks := false }, kinds := [], alts := [], laidByText := true, laidKinds := [.data, .data], laidTests := true, laidLooks := .later }
def FnExactCutOfUptoCardSaid : Prop := Claim7.holds Tryd.pinned (.plain (OpenSpec.upto fnExactCutOfSpec)) fnExactCutOfUptoCard

/-- THE SECOND FORM's CARD OF 'laws.FnExactJoinedCut'. -/
def fnExactJoinedCutUptoCard : Claim7 := { stood := { row := fnExactJoinedCutUptoRow, standIns := [], harness := (true, "04bf6eb1cd41894a259363a9ef1211b2c595a4cb28f8efd8b786bc4eea112d69"), looks := false }, kinds := [], alts := [], laidByText := true, laidKinds := [.data, .data], laidTests := true, laidLooks := .later }
def FnExactJoinedCutUptoCardSaid : Prop := Claim7.holds Tryd.pinned (.plain (OpenSpec.upto fnExactJoinedCutSpec)) fnExactJoinedCutUptoCard
end Rows
end Go.Proofs.YtnkehfhedjdhaaaDoor
