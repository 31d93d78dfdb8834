/-
  DERIVED. GIVEN WITH THE SEED: THE CARDS: each row of YtkgfamagienfpaaDoorRows.lean that lists a variable, with what it lists TIED to the program's text (the seventh form; the later family's looks); each row that meets fmt, with fmt's text TOLD by the authors' own Lean function (tested against real Go, not proved from fmt's source: count such statements apart). THE CARD IS WHAT COUNTS. Prove the row's statement (the work); the ties are given (YtkgfamagienfpaaDoorTie.lean); close each card by the builder's one call (the guide's Derived/Test/ToyasCard.lean, 'card_holds'). Laid BY PROGRAM, IN A SANDBOX (cutbox-door.mjs). By AI agents, Wed Nov 11 2026. No macro, syntax, notation, axiom, sorry.
-/
import Derived.Test.YtkgfamagienfpaaDoorRows
import GoSem.ClaimSeven
namespace Go.Proofs.YtkgfamagienfpaaDoor
namespace Rows

/-- THE TIED CARD OF 'laws.FnExactStmtValid'. -/
def fnExactStmtValidCard : Claim7 := { stood := { row := fnExactStmtValidRow, standIns := [], harness := (true, "599a686a4c454d23f97ded9e17269fb825f90a56ab91ab1a574fce1154ee7dc1"), looks := false }, kinds := [], alts := [], laidByText := true, laidKinds := [.data, .data, .data, .data], laidTests := true, laidLooks := .later }
def FnExactStmtValidCardSaid : Prop := Claim7.holds Tryd.pinned (.plain (OpenSpec.ofChange fnExactStmtValidSpec)) fnExactStmtValidCard

/-- THE TIED CARD OF 'laws.FnExactProgramValid'. -/
def fnExactProgramValidCard : Claim7 := { stood := { row := fnExactProgramValidRow, standIns := [], harness := (true, "599a686a4c454d23f97ded9e17269fb825f90a56ab91ab1a574fce1154ee7dc1"), looks := false }, kinds := [], alts := [], laidByText := true, laidKinds := [.data, .data, .data, .data], laidTests := true, laidLooks := .later }
def FnExactProgramValidCardSaid : Prop := Claim7.holds Tryd.pinned (.plain (OpenSpec.ofChange fnExactProgramValidSpec)) fnExactProgramValidCard

/-- THE TIED CARD OF 'laws.FnExactStmtCount'. -/
def fnExactStmtCountCard : Claim7 := { stood := { row := fnExactStmtCountRow, standIns := [], harness := (true, "599a686a4c454d23f97ded9e17269fb825f90a56ab91ab1a574fce1154ee7dc1"), looks := false }, kinds := [], alts := [], laidByText := true, laidKinds := [.data, .data, .data, .data], laidTests := true, laidLooks := .later }
def FnExactStmtCountCardSaid : Prop := Claim7.holds Tryd.pinned (.plain (OpenSpec.ofChange fnExactStmtCountSpec)) fnExactStmtCountCard

/-- THE TIED CARD OF 'laws.FnExactNestOf'. -/
def fnExactNestOfCard : Claim7 := { stood := { row := fnExactNestOfRow, standIns := [], harness := (true, "599a686a4c454d23f97ded9e17269fb825f90a56ab91ab1a574fce1154ee7dc1"), looks := false }, kinds := [], alts := [], laidByText := true, laidKinds := [.data, .data, .data, .data], laidTests := true, laidLooks := .later }
def FnExactNestOfCardSaid : Prop := Claim7.holds Tryd.pinned (.plain (OpenSpec.ofChange fnExactNestOfSpec)) fnExactNestOfCard

/-- THE TIED CARD OF 'laws.FnStmtForm'. -/
def fnStmtFormCard : Claim7 := { stood := { row := fnStmtFormRow, standIns := [], harness := (true, "599a686a4c454d23f97ded9e17269fb825f90a56ab91ab1a574fce1154ee7dc1"), looks := false }, kinds := [], alts := [], laidByText := true, laidKinds := [.data, .data, .data, .data], laidTests := true, laidLooks := .later }
def FnStmtFormCardSaid : Prop := Claim7.holds Tryd.pinned (.plain (OpenSpec.ofChange fnStmtFormSpec)) fnStmtFormCard

/-- THE TIED CARD OF 'laws.FnStmtCount'. -/
def fnStmtCountCard : Claim7 := { stood := { row := fnStmtCountRow, standIns := [], harness := (true, "599a686a4c454d23f97ded9e17269fb825f90a56ab91ab1a574fce1154ee7dc1"), looks := false }, kinds := [], alts := [], laidByText := true, laidKinds := [.data, .data, .data, .data], laidTests := true, laidLooks := .later }
def FnStmtCountCardSaid : Prop := Claim7.holds Tryd.pinned (.plain (OpenSpec.ofChange fnStmtCountSpec)) fnStmtCountCard

/-- THE TIED CARD OF 'laws.FnFnAt'. -/
def fnFnAtCard : Claim7 := { stood := { row := fnFnAtRow, standIns := [], harness := (true, "599a686a4c454d23f97ded9e17269fb825f90a56ab91ab1a574fce1154ee7dc1"), looks := false }, kinds := [], alts := [], laidByText := true, laidKinds := [.data, .data, .data, .data], laidTests := true, laidLooks := .later }
def FnFnAtCardSaid : Prop := Claim7.holds Tryd.pinned (.plain (OpenSpec.ofChange fnFnAtSpec)) fnFnAtCard

/-- THE SECOND FORM's CARD OF 'laws.FnExactStmtValid'. -/
def fnExactStmtValidUptoCard : Claim7 := { stood := { row := fnExactStmtValidUptoRow, standIns := [], harness := (true, "599a686a4c454d23f97ded9e17269fb825f90a56ab91ab1a574fce1154ee7dc1"), looks := false }, kinds := [], alts := [], laidByText := true, laidKinds := [.data, .data, .data, .data], laidTests := true, laidLooks := .later }
def FnExactStmtValidUptoCardSaid : Prop := Claim7.holds Tryd.pinned (.plain (OpenSpec.upto fnExactStmtValidSpec)) fnExactStmtValidUptoCard

/-- THE SECOND FORM's CARD OF 'laws.FnExactProgramValid'. -/
def fnExactProgramValidUptoCard : Claim7 := { stood := { row := fnExactProgramValidUptoRow, standIns := [], harness := (true, "599a686a4c454d23f97ded9e17269fb825f90a56ab91ab1a574fce1154ee7dc1"), looks := false }, kinds := [], alts := [], laidByText := true, laidKinds := [.data, .data, .data, .data], laidTests := true, laidLooks := .later }
def FnExactProgramValidUptoCardSaid : Prop := Claim7.holds Tryd.pinned (.plain (OpenSpec.upto fnExactProgramValidSpec)) fnExactProgramValidUptoCard

/-- THE SECOND FORM's CARD OF 'laws.FnExactStmtCount'. -/
def fnExactStmtCountUptoCard : Claim7 := { stood := { row := fnExactStmtCountUptoRow, standIns := [], harness := (true, "599a686a4c454d23f97ded9e17269fb825f90a56ab91ab1a574fce1154ee7dc1"), looks := false }, kinds := [], alts := [], laidByText := true, laidKinds := [.data, .data, .data, .data], laidTests := true, laidLooks := .later }
def FnExactStmtCountUptoCardSaid : Prop := Claim7.holds Tryd.pinned (.plain (OpenSpec.upto fnExactStmtCountSpec)) fnExactStmtCountUptoCard

/-- THE SECOND FORM's CARD OF 'laws.FnExactNestOf'. -/
def fnExactNestOfUptoCard : Claim7 := { stood := { row := fnExactNestOfUptoRow, standIns := [], harness := (true, "599a686a4c454d23f97ded9e17269fb825f90a56ab91ab1a574fce1154ee7dc1"), looks := false }, kinds := [], alts := [], laidByText := true, laidKinds := [.data, .data, .data, .data], laidTests := true, laidLooks := .later }
def FnExactNestOfUptoCardSaid : Prop := Claim7.holds Tryd.pinned (.plain (OpenSpec.upto fnExactNestOfSpec)) fnExactNestOfUptoCard

/-- THE SECOND FORM's CARD OF 'laws.FnStmtForm'. -/
def fnStmtFormUptoCard : Claim7 := { stood := { row := fnStmtFormUptoRow, standIns := [], harness := (true, "599a686a4c454d23f97ded9e17269fb825f90a56ab91ab1a574fce1154ee7dc1"), looks := false }, kinds := [], alts := [], laidByText := true, laidKinds := [.data, .data, .data, .data], laidTests := true, laidLooks := .later }
def FnStmtFormUptoCardSaid : Prop := Claim7.holds Tryd.pinned (.plain (OpenSpec.upto fnStmtFormSpec)) fnStmtFormUptoCard

/-- THE SECOND FORM's CARD OF 'laws.FnStmtCount'. -/
def fnStmtCountUptoCard : Claim7 := { stood := { row := fnStmtCountUptoRow, standIns := [], harness := (true, "599a686a4c454d23f97ded9e17269fb825f90a56ab91ab1a574fce1154ee7dc1"), looks := false }, kinds := [], alts := [], laidByText := true, laidKinds := [.data, .data, .data, .data], laidTests := true, laidLooks := .later }
def FnStmtCountUptoCardSaid : Prop := Claim7.holds Tryd.pinned (.plain (OpenSpec.upto fnStmtCountSpec)) fnStmtCountUptoCard

/-- THE SECOND FORM's CARD OF 'laws.FnFnAt'. -/
def fnFnAtUptoCard : Claim7 := { stood := { row := fnFnAtUptoRow, standIns := [], harness := (true, "599a686a4c454d23f97ded9e17269fb825f90a56ab91ab1a574fce1154ee7dc1"), looks := false }, kinds := [], alts := [], laidByText := true, laidKinds := [.data, .data, .data, .data], laidTests := true, laidLooks := .later }
def FnFnAtUptoCardSaid : Prop := Claim7.holds Tryd.pinned (.plain (OpenSpec.upto fnFnAtSpec)) fnFnAtUptoCard
end Rows
end Go.Proofs.YtkgfamagienfpaaDoor
