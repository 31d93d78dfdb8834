/-
  DERIVED. GIVEN WITH THE SEED: THE CARDS: each row of YtljdbjfbcjigaaaGreatDoorRows.lean that lists a variable, with what it lists TIED to the program's text (the seventh form; the later family's looks); each row that meets fmt, with fmt's text TOLD by the authors' own Lean function (tested against real Go, not proved from fmt's source: count such statements apart). THE CARD IS WHAT COUNTS. Prove the row's statement (the work); the ties are given (YtljdbjfbcjigaaaGreatDoorTie.lean); close each card by the builder's one call (the guide's Derived/Test/ToyasCard.lean, 'card_holds'). Laid BY PROGRAM, IN A SANDBOX (cutbox-door.mjs). By AI agents, Wed Nov 11 2026. No macro, syntax, notation, axiom, sorry.
-/
import Derived.Test.YtljdbjfbcjigaaaGreatDoorRows
import GoSem.ClaimSeven
namespace Go.Proofs.YtljdbjfbcjigaaaGreatDoor
namespace Rows

/-- THE TIED CARD OF 'laws.FnExactFoldExpr'. -/
def fnExactFoldExprCard : Claim7 := { stood := { row := fnExactFoldExprRow, standIns := [], harness := (true, "dc6ef33f3597347ef34a93e2f093de82dea3aea17f7ab931ddff1c4987fbed22"), looks := true }, kinds := [], alts := [], laidByText := true, laidKinds := [.data, .data], laidTests := true, laidLooks := .later }
def FnExactFoldExprCardSaid : Prop := Claim7.holds Tryz.pinned (.plain (OpenSpec.ofChange fnExactFoldExprSpec)) fnExactFoldExprCard

/-- THE TIED CARD OF 'laws.FnExactInputsFor'. -/
def fnExactInputsForCard : Claim7 := { stood := { row := fnExactInputsForRow, standIns := [], harness := (true, "dc6ef33f3597347ef34a93e2f093de82dea3aea17f7ab931ddff1c4987fbed22"), looks := true }, kinds := [], alts := [], laidByText := true, laidKinds := [.handle, .data, .data, .data, .data], laidTests := true, laidLooks := .later }
def FnExactInputsForCardSaid : Prop := Claim7.holds Tryz.pinned (.plain (OpenSpec.ofChange fnExactInputsForSpec)) fnExactInputsForCard

/-- THE TIED CARD OF 'laws.FnSameExpr'. -/
def fnSameExprCard : Claim7 := { stood := { row := fnSameExprRow, standIns := [], harness := (true, "dc6ef33f3597347ef34a93e2f093de82dea3aea17f7ab931ddff1c4987fbed22"), looks := true }, kinds := [], alts := [], laidByText := true, laidKinds := [.data, .data, .data, .sentinel, .sentinel, .data, .data, .data], laidTests := true, laidLooks := .later }
def FnSameExprCardSaid : Prop := Claim7.holds Tryz.pinned (.plain (OpenSpec.ofChange fnSameExprSpec)) fnSameExprCard

/-- THE TIED CARD OF 'laws.FnOpsBind'. -/
def fnOpsBindCard : Claim7 := { stood := { row := fnOpsBindRow, standIns := [], harness := (true, "dc6ef33f3597347ef34a93e2f093de82dea3aea17f7ab931ddff1c4987fbed22"), looks := true }, kinds := [], alts := [], laidByText := true, laidKinds := [.data, .data, .data, .sentinel, .sentinel, .data, .data, .data], laidTests := true, laidLooks := .later }
def FnOpsBindCardSaid : Prop := Claim7.holds Tryz.pinned (.plain (OpenSpec.ofChange fnOpsBindSpec)) fnOpsBindCard

/-- THE TIED CARD OF 'laws.FnExactProgramText'. -/
def fnExactProgramTextCard : Claim7 := { stood := { row := fnExactProgramTextRow, standIns := [], harness := (true, "dc6ef33f3597347ef34a93e2f093de82dea3aea17f7ab931ddff1c4987fbed22"), looks := true }, kinds := [], alts := [], laidByText := true, laidKinds := [.data, .data, .data, .sentinel, .sentinel, .data, .data, .data, .data], laidTests := true, laidLooks := .later }
def FnExactProgramTextCardSaid : Prop := Claim7.holds Tryz.pinned (.plain (OpenSpec.ofChange fnExactProgramTextSpec)) fnExactProgramTextCard

/-- THE SECOND FORM's CARD OF 'laws.FnExactFoldExpr'. -/
def fnExactFoldExprUptoCard : Claim7 := { stood := { row := fnExactFoldExprUptoRow, standIns := [], harness := (true, "dc6ef33f3597347ef34a93e2f093de82dea3aea17f7ab931ddff1c4987fbed22"), looks := true }, kinds := [], alts := [], laidByText := true, laidKinds := [.data, .data], laidTests := true, laidLooks := .later }
def FnExactFoldExprUptoCardSaid : Prop := Claim7.holds Tryz.pinned (.plain (OpenSpec.upto fnExactFoldExprSpec)) fnExactFoldExprUptoCard

/-- THE SECOND FORM's CARD OF 'laws.FnExactInputsFor'. -/
def fnExactInputsForUptoCard : Claim7 := { stood := { row := fnExactInputsForUptoRow, standIns := [], harness := (true, "dc6ef33f3597347ef34a93e2f093de82dea3aea17f7ab931ddff1c4987fbed22"), looks := true }, kinds := [], alts := [], laidByText := true, laidKinds := [.handle, .data, .data, .data, .data], laidTests := true, laidLooks := .later }
def FnExactInputsForUptoCardSaid : Prop := Claim7.holds Tryz.pinned (.plain (OpenSpec.upto fnExactInputsForSpec)) fnExactInputsForUptoCard

/-- THE SECOND FORM's CARD OF 'laws.FnSameExpr'. -/
def fnSameExprUptoCard : Claim7 := { stood := { row := fnSameExprUptoRow, standIns := [], harness := (true, "dc6ef33f3597347ef34a93e2f093de82dea3aea17f7ab931ddff1c4987fbed22"), looks := true }, kinds := [], alts := [], laidByText := true, laidKinds := [.data, .data, .data, .sentinel, .sentinel, .data, .data, .data], laidTests := true, laidLooks := .later }
def FnSameExprUptoCardSaid : Prop := Claim7.holds Tryz.pinned (.plain (OpenSpec.upto fnSameExprSpec)) fnSameExprUptoCard

/-- THE SECOND FORM's CARD OF 'laws.FnOpsBind'. -/
def fnOpsBindUptoCard : Claim7 := { stood := { row := fnOpsBindUptoRow, standIns := [], harness := (true, "dc6ef33f3597347ef34a93e2f093de82dea3aea17f7ab931ddff1c4987fbed22"), looks := true }, kinds := [], alts := [], laidByText := true, laidKinds := [.data, .data, .data, .sentinel, .sentinel, .data, .data, .data], laidTests := true, laidLooks := .later }
def FnOpsBindUptoCardSaid : Prop := Claim7.holds Tryz.pinned (.plain (OpenSpec.upto fnOpsBindSpec)) fnOpsBindUptoCard

/-- THE SECOND FORM's CARD OF 'laws.FnExactProgramText'. -/
def fnExactProgramTextUptoCard : Claim7 := { stood := { row := fnExactProgramTextUptoRow, standIns := [], harness := (true, "dc6ef33f3597347ef34a93e2f093de82dea3aea17f7ab931ddff1c4987fbed22"), looks := true }, kinds := [], alts := [], laidByText := true, laidKinds := [.data, .data, .data, .sentinel, .sentinel, .data, .data, .data, .data], laidTests := true, laidLooks := .later }
def FnExactProgramTextUptoCardSaid : Prop := Claim7.holds Tryz.pinned (.plain (OpenSpec.upto fnExactProgramTextSpec)) fnExactProgramTextUptoCard
end Rows
end Go.Proofs.YtljdbjfbcjigaaaGreatDoor
