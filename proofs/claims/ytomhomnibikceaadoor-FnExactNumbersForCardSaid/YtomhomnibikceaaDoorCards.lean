/-
  DERIVED. GIVEN WITH THE SEED: THE CARDS: each row of YtomhomnibikceaaDoorRows.lean that lists a variable, with what it lists TIED to the program's text (the seventh form; the later family's looks); each row that meets fmt, with fmt's text TOLD by the authors' own Lean function (tested against real Go, not proved from fmt's source: count such statements apart). THE CARD IS WHAT COUNTS. Prove the row's statement (the work); the ties are given (YtomhomnibikceaaDoorTie.lean); close each card by the builder's one call (the guide's Derived/Test/ToyasCard.lean, 'card_holds'). Laid BY PROGRAM, IN A SANDBOX (cutbox-door.mjs). By AI agents, Wed Nov 11 2026. No macro, syntax, notation, axiom, sorry.
-/
import Derived.Test.YtomhomnibikceaaDoorRows
import GoSem.ClaimSeven
namespace Go.Proofs.YtomhomnibikceaaDoor
namespace Rows

/-- THE TIED CARD OF 'laws.FnExactNumbersFor'. -/
def fnExactNumbersForCard : Claim7 := { stood := { row := fnExactNumbersForRow, standIns := [], harness := (true, "1a0cfad09528ca5fcc841d77becd6dcc03be2d351e4dc4e3a8a1bddfdef82f46"), looks := false }, kinds := [], alts := [], laidByText := true, laidKinds := [.data, .data], laidTests := true, laidLooks := .later }
def FnExactNumbersForCardSaid : Prop := Claim7.holds Tryd.pinned (.plain (OpenSpec.ofChange fnExactNumbersForSpec)) fnExactNumbersForCard

/-- THE TIED CARD OF 'laws.FnExactUnitText'. -/
def fnExactUnitTextCard : Claim7 := { stood := { row := fnExactUnitTextRow, standIns := [], harness := (true, "1a0cfad09528ca5fcc841d77becd6dcc03be2d351e4dc4e3a8a1bddfdef82f46"), looks := false }, kinds := [], alts := [], laidByText := true, laidKinds := [.data, .data, .data, .data, .data], laidTests := true, laidLooks := .later }
def FnExactUnitTextCardSaid : Prop := Claim7.holds Tryd.pinned (.plain (OpenSpec.ofChange fnExactUnitTextSpec)) fnExactUnitTextCard

/-- THE TIED CARD OF 'laws.FnExactTightUnit'. -/
def fnExactTightUnitCard : Claim7 := { stood := { row := fnExactTightUnitRow, standIns := [], harness := (true, "1a0cfad09528ca5fcc841d77becd6dcc03be2d351e4dc4e3a8a1bddfdef82f46"), looks := false }, kinds := [], alts := [], laidByText := true, laidKinds := [.data, .data], laidTests := true, laidLooks := .later }
def FnExactTightUnitCardSaid : Prop := Claim7.holds Tryd.pinned (.plain (OpenSpec.ofChange fnExactTightUnitSpec)) fnExactTightUnitCard

/-- THE SECOND FORM's CARD OF 'laws.FnExactNumbersFor'. -/
def fnExactNumbersForUptoCard : Claim7 := { stood := { row := fnExactNumbersForUptoRow, standIns := [], harness := (true, "1a0cfad09528ca5fcc841d77becd6dcc03be2d351e4dc4e3a8a1bddfdef82f46"), looks := false }, kinds := [], alts := [], laidByText := true, laidKinds := [.data, .data], laidTests := true, laidLooks := .later }
def FnExactNumbersForUptoCardSaid : Prop := Claim7.holds Tryd.pinned (.plain (OpenSpec.upto fnExactNumbersForSpec)) fnExactNumbersForUptoCard

/-- THE SECOND FORM's CARD OF 'laws.FnExactUnitText'. -/
def fnExactUnitTextUptoCard : Claim7 := { stood := { row := fnExactUnitTextUptoRow, standIns := [], harness := (true, "1a0cfad09528ca5fcc841d77becd6dcc03be2d351e4dc4e3a8a1bddfdef82f46"), looks := false }, kinds := [], alts := [], laidByText := true, laidKinds := [.data, .data, .data, .data, .data], laidTests := true, laidLooks := .later }
def FnExactUnitTextUptoCardSaid : Prop := Claim7.holds Tryd.pinned (.plain (OpenSpec.upto fnExactUnitTextSpec)) fnExactUnitTextUptoCard

/-- THE SECOND FORM's CARD OF 'laws.FnExactTightUnit'. -/
def fnExactTightUnitUptoCard : Claim7 := { stood := { row := fnExactTightUnitUptoRow, standIns := [], harness := (true, "1a0cfad09528ca5fcc841d77becd6dcc03be2d351e4dc4e3a8a1bddfdef82f46"), looks := false }, kinds := [], alts := [], laidByText := true, laidKinds := [.data, .data], laidTests := true, laidLooks := .later }
def FnExactTightUnitUptoCardSaid : Prop := Claim7.holds Tryd.pinned (.plain (OpenSpec.upto fnExactTightUnitSpec)) fnExactTightUnitUptoCard
end Rows
end Go.Proofs.YtomhomnibikceaaDoor
