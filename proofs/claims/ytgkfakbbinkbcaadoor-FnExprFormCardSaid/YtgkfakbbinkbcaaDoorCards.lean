/-
  DERIVED. GIVEN WITH THE SEED: THE CARDS: each row of YtgkfakbbinkbcaaDoorRows.lean that lists a variable, with what it lists TIED to the program's text (the seventh form; the later family's looks); each row that meets fmt, with fmt's text TOLD by the authors' own Lean function (tested against real Go, not proved from fmt's source: count such statements apart). THE CARD IS WHAT COUNTS. Prove the row's statement (the work); the ties are given (YtgkfakbbinkbcaaDoorTie.lean); close each card by the builder's one call (the guide's Derived/Test/ToyasCard.lean, 'card_holds'). Laid BY PROGRAM, IN A SANDBOX (cutbox-door.mjs). By AI agents, Wed Nov 11 2026. No macro, syntax, notation, axiom, sorry.
-/
import Derived.Test.YtgkfakbbinkbcaaDoorRows
import GoSem.ClaimSeven
namespace Go.Proofs.YtgkfakbbinkbcaaDoor
namespace Rows

/-- THE TIED CARD OF 'laws.FnParts'. -/
def fnPartsCard : Claim7 := { stood := { row := fnPartsRow, standIns := [], harness := (true, "f012b08070c3288e92076ea804be945768a7f2a17de3baf7b2adfbf297f3288f"), looks := true }, kinds := [], alts := [], laidByText := true, laidKinds := [.data], laidTests := true, laidLooks := .later }
def FnPartsCardSaid : Prop := Claim7.holds Tryd.pinned (.plain (OpenSpec.ofChange fnPartsSpec)) fnPartsCard

/-- THE TIED CARD OF 'laws.FnSameExpr'. -/
def fnSameExprCard : Claim7 := { stood := { row := fnSameExprRow, standIns := [], harness := (true, "f012b08070c3288e92076ea804be945768a7f2a17de3baf7b2adfbf297f3288f"), looks := true }, kinds := [], alts := [], laidByText := true, laidKinds := [.data, .data, .data, .sentinel, .sentinel, .data, .data, .data], laidTests := true, laidLooks := .later }
def FnSameExprCardSaid : Prop := Claim7.holds Tryd.pinned (.plain (OpenSpec.ofChange fnSameExprSpec)) fnSameExprCard

/-- THE TIED CARD OF 'laws.FnVars'. -/
def fnVarsCard : Claim7 := { stood := { row := fnVarsRow, standIns := [], harness := (true, "f012b08070c3288e92076ea804be945768a7f2a17de3baf7b2adfbf297f3288f"), looks := true }, kinds := [], alts := [], laidByText := true, laidKinds := [.data], laidTests := true, laidLooks := .later }
def FnVarsCardSaid : Prop := Claim7.holds Tryd.pinned (.plain (OpenSpec.ofChange fnVarsSpec)) fnVarsCard

/-- THE TIED CARD OF 'laws.FnPutVar'. -/
def fnPutVarCard : Claim7 := { stood := { row := fnPutVarRow, standIns := [], harness := (true, "f012b08070c3288e92076ea804be945768a7f2a17de3baf7b2adfbf297f3288f"), looks := true }, kinds := [], alts := [], laidByText := true, laidKinds := [.data, .data, .data], laidTests := true, laidLooks := .later }
def FnPutVarCardSaid : Prop := Claim7.holds Tryd.pinned (.plain (OpenSpec.ofChange fnPutVarSpec)) fnPutVarCard

/-- THE TIED CARD OF 'laws.FnCalls'. -/
def fnCallsCard : Claim7 := { stood := { row := fnCallsRow, standIns := [], harness := (true, "f012b08070c3288e92076ea804be945768a7f2a17de3baf7b2adfbf297f3288f"), looks := true }, kinds := [], alts := [], laidByText := true, laidKinds := [.data], laidTests := true, laidLooks := .later }
def FnCallsCardSaid : Prop := Claim7.holds Tryd.pinned (.plain (OpenSpec.ofChange fnCallsSpec)) fnCallsCard

/-- THE TIED CARD OF 'laws.FnExprForm'. -/
def fnExprFormCard : Claim7 := { stood := { row := fnExprFormRow, standIns := [], harness := (true, "f012b08070c3288e92076ea804be945768a7f2a17de3baf7b2adfbf297f3288f"), looks := true }, kinds := [], alts := [], laidByText := true, laidKinds := [.data, .data, .data, .sentinel, .sentinel, .data, .data, .data], laidTests := true, laidLooks := .later }
def FnExprFormCardSaid : Prop := Claim7.holds Tryd.pinned (.plain (OpenSpec.ofChange fnExprFormSpec)) fnExprFormCard

/-- THE TIED CARD OF 'laws.FnExactExprValid'. -/
def fnExactExprValidCard : Claim7 := { stood := { row := fnExactExprValidRow, standIns := [], harness := (true, "f012b08070c3288e92076ea804be945768a7f2a17de3baf7b2adfbf297f3288f"), looks := true }, kinds := [], alts := [], laidByText := true, laidKinds := [.data], laidTests := true, laidLooks := .later }
def FnExactExprValidCardSaid : Prop := Claim7.holds Tryd.pinned (.plain (OpenSpec.ofChange fnExactExprValidSpec)) fnExactExprValidCard

/-- THE TIED CARD OF 'laws.FnExactExprParts'. -/
def fnExactExprPartsCard : Claim7 := { stood := { row := fnExactExprPartsRow, standIns := [], harness := (true, "f012b08070c3288e92076ea804be945768a7f2a17de3baf7b2adfbf297f3288f"), looks := true }, kinds := [], alts := [], laidByText := true, laidKinds := [.data], laidTests := true, laidLooks := .later }
def FnExactExprPartsCardSaid : Prop := Claim7.holds Tryd.pinned (.plain (OpenSpec.ofChange fnExactExprPartsSpec)) fnExactExprPartsCard

/-- THE SECOND FORM's CARD OF 'laws.FnParts'. -/
def fnPartsUptoCard : Claim7 := { stood := { row := fnPartsUptoRow, standIns := [], harness := (true, "f012b08070c3288e92076ea804be945768a7f2a17de3baf7b2adfbf297f3288f"), looks := true }, kinds := [], alts := [], laidByText := true, laidKinds := [.data], laidTests := true, laidLooks := .later }
def FnPartsUptoCardSaid : Prop := Claim7.holds Tryd.pinned (.plain (OpenSpec.upto fnPartsSpec)) fnPartsUptoCard

/-- THE SECOND FORM's CARD OF 'laws.FnSameExpr'. -/
def fnSameExprUptoCard : Claim7 := { stood := { row := fnSameExprUptoRow, standIns := [], harness := (true, "f012b08070c3288e92076ea804be945768a7f2a17de3baf7b2adfbf297f3288f"), looks := true }, kinds := [], alts := [], laidByText := true, laidKinds := [.data, .data, .data, .sentinel, .sentinel, .data, .data, .data], laidTests := true, laidLooks := .later }
def FnSameExprUptoCardSaid : Prop := Claim7.holds Tryd.pinned (.plain (OpenSpec.upto fnSameExprSpec)) fnSameExprUptoCard

/-- THE SECOND FORM's CARD OF 'laws.FnVars'. -/
def fnVarsUptoCard : Claim7 := { stood := { row := fnVarsUptoRow, standIns := [], harness := (true, "f012b08070c3288e92076ea804be945768a7f2a17de3baf7b2adfbf297f3288f"), looks := true }, kinds := [], alts := [], laidByText := true, laidKinds := [.data], laidTests := true, laidLooks := .later }
def FnVarsUptoCardSaid : Prop := Claim7.holds Tryd.pinned (.plain (OpenSpec.upto fnVarsSpec)) fnVarsUptoCard

/-- THE SECOND FORM's CARD OF 'laws.FnPutVar'. -/
def fnPutVarUptoCard : Claim7 := { stood := { row := fnPutVarUptoRow, standIns := [], harness := (true, "f012b08070c3288e92076ea804be945768a7f2a17de3baf7b2adfbf297f3288f"), looks := true }, kinds := [], alts := [], laidByText := true, laidKinds := [.data, .data, .data], laidTests := true, laidLooks := .later }
def FnPutVarUptoCardSaid : Prop := Claim7.holds Tryd.pinned (.plain (OpenSpec.upto fnPutVarSpec)) fnPutVarUptoCard

/-- THE SECOND FORM's CARD OF 'laws.FnCalls'. -/
def fnCallsUptoCard : Claim7 := { stood := { row := fnCallsUptoRow, standIns := [], harness := (true, "f012b08070c3288e92076ea804be945768a7f2a17de3baf7b2adfbf297f3288f"), looks := true }, kinds := [], alts := [], laidByText := true, laidKinds := [.data], laidTests := true, laidLooks := .later }
def FnCallsUptoCardSaid : Prop := Claim7.holds Tryd.pinned (.plain (OpenSpec.upto fnCallsSpec)) fnCallsUptoCard

/-- THE SECOND FORM's CARD OF 'laws.FnExprForm'. -/
def fnExprFormUptoCard : Claim7 := { stood := { row := fnExprFormUptoRow, standIns := [], harness := (true, "f012b08070c3288e92076ea804be945768a7f2a17de3baf7b2adfbf297f3288f"), looks := true }, kinds := [], alts := [], laidByText := true, laidKinds := [.data, .data, .data, .sentinel, .sentinel, .data, .data, .data], laidTests := true, laidLooks := .later }
def FnExprFormUptoCardSaid : Prop := Claim7.holds Tryd.pinned (.plain (OpenSpec.upto fnExprFormSpec)) fnExprFormUptoCard

/-- THE SECOND FORM's CARD OF 'laws.FnExactExprValid'. -/
def fnExactExprValidUptoCard : Claim7 := { stood := { row := fnExactExprValidUptoRow, standIns := [], harness := (true, "f012b08070c3288e92076ea804be945768a7f2a17de3baf7b2adfbf297f3288f"), looks := true }, kinds := [], alts := [], laidByText := true, laidKinds := [.data], laidTests := true, laidLooks := .later }
def FnExactExprValidUptoCardSaid : Prop := Claim7.holds Tryd.pinned (.plain (OpenSpec.upto fnExactExprValidSpec)) fnExactExprValidUptoCard

/-- THE SECOND FORM's CARD OF 'laws.FnExactExprParts'. -/
def fnExactExprPartsUptoCard : Claim7 := { stood := { row := fnExactExprPartsUptoRow, standIns := [], harness := (true, "f012b08070c3288e92076ea804be945768a7f2a17de3baf7b2adfbf297f3288f"), looks := true }, kinds := [], alts := [], laidByText := true, laidKinds := [.data], laidTests := true, laidLooks := .later }
def FnExactExprPartsUptoCardSaid : Prop := Claim7.holds Tryd.pinned (.plain (OpenSpec.upto fnExactExprPartsSpec)) fnExactExprPartsUptoCard
end Rows
end Go.Proofs.YtgkfakbbinkbcaaDoor
