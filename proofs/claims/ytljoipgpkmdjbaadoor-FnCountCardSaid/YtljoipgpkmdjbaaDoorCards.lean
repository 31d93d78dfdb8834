/-
  DERIVED. GIVEN WITH THE SEED: THE CARDS: each row of YtljoipgpkmdjbaaDoorRows.lean that lists a variable, with what it lists TIED to the program's text (the seventh form; the later family's looks); each row that meets fmt, with fmt's text TOLD by the authors' own Lean function (tested against real Go, not proved from fmt's source: count such statements apart). THE CARD IS WHAT COUNTS. Prove the row's statement (the work); the ties are given (YtljoipgpkmdjbaaDoorTie.lean); close each card by the builder's one call (the guide's Derived/Test/ToyasCard.lean, 'card_holds'). Laid BY PROGRAM, IN A SANDBOX (cutbox-door.mjs). By AI agents, Wed Nov 11 2026. No macro, syntax, notation, axiom, sorry.
-/
import Derived.Test.YtljoipgpkmdjbaaDoorRows
import GoSem.ClaimSeven
namespace Go.Proofs.YtljoipgpkmdjbaaDoor
namespace Rows

/-- THE TIED CARD OF 'laws.FnCount'. -/
def fnCountCard : Claim7 := { stood := { row := fnCountRow, standIns := [], harness := (true, "2bba924be3f1fd83b3a95e7a1da0e27c70c5b989cc32e1879c4ec0d7ceb1b85c"), looks := true }, kinds := [], alts := [], laidByText := true, laidKinds := [.data, .data, .data, .sentinel, .sentinel, .data, .data], laidTests := true, laidLooks := .later }
def FnCountCardSaid : Prop := Claim7.holds Tryd.pinned (.plain (OpenSpec.ofChange fnCountSpec)) fnCountCard

/-- THE TIED CARD OF 'laws.FnTight'. -/
def fnTightCard : Claim7 := { stood := { row := fnTightRow, standIns := [], harness := (true, "2bba924be3f1fd83b3a95e7a1da0e27c70c5b989cc32e1879c4ec0d7ceb1b85c"), looks := true }, kinds := [], alts := [], laidByText := true, laidKinds := [.data, .data, .data, .sentinel, .sentinel, .data, .data], laidTests := true, laidLooks := .later }
def FnTightCardSaid : Prop := Claim7.holds Tryd.pinned (.plain (OpenSpec.ofChange fnTightSpec)) fnTightCard

/-- THE TIED CARD OF 'laws.FnStmtCount'. -/
def fnStmtCountCard : Claim7 := { stood := { row := fnStmtCountRow, standIns := [], harness := (true, "2bba924be3f1fd83b3a95e7a1da0e27c70c5b989cc32e1879c4ec0d7ceb1b85c"), looks := true }, kinds := [], alts := [], laidByText := true, laidKinds := [.data, .data, .data, .data], laidTests := true, laidLooks := .later }
def FnStmtCountCardSaid : Prop := Claim7.holds Tryd.pinned (.plain (OpenSpec.ofChange fnStmtCountSpec)) fnStmtCountCard

/-- THE TIED CARD OF 'laws.FnStmtForm'. -/
def fnStmtFormCard : Claim7 := { stood := { row := fnStmtFormRow, standIns := [], harness := (true, "2bba924be3f1fd83b3a95e7a1da0e27c70c5b989cc32e1879c4ec0d7ceb1b85c"), looks := true }, kinds := [], alts := [], laidByText := true, laidKinds := [.data, .data, .data, .data], laidTests := true, laidLooks := .later }
def FnStmtFormCardSaid : Prop := Claim7.holds Tryd.pinned (.plain (OpenSpec.ofChange fnStmtFormSpec)) fnStmtFormCard

/-- THE TIED CARD OF 'laws.FnFnAt'. -/
def fnFnAtCard : Claim7 := { stood := { row := fnFnAtRow, standIns := [], harness := (true, "2bba924be3f1fd83b3a95e7a1da0e27c70c5b989cc32e1879c4ec0d7ceb1b85c"), looks := true }, kinds := [], alts := [], laidByText := true, laidKinds := [.data, .data, .data, .data], laidTests := true, laidLooks := .later }
def FnFnAtCardSaid : Prop := Claim7.holds Tryd.pinned (.plain (OpenSpec.ofChange fnFnAtSpec)) fnFnAtCard

/-- THE SECOND FORM's CARD OF 'laws.FnCount'. -/
def fnCountUptoCard : Claim7 := { stood := { row := fnCountUptoRow, standIns := [], harness := (true, "2bba924be3f1fd83b3a95e7a1da0e27c70c5b989cc32e1879c4ec0d7ceb1b85c"), looks := true }, kinds := [], alts := [], laidByText := true, laidKinds := [.data, .data, .data, .sentinel, .sentinel, .data, .data], laidTests := true, laidLooks := .later }
def FnCountUptoCardSaid : Prop := Claim7.holds Tryd.pinned (.plain (OpenSpec.upto fnCountSpec)) fnCountUptoCard

/-- THE SECOND FORM's CARD OF 'laws.FnTight'. -/
def fnTightUptoCard : Claim7 := { stood := { row := fnTightUptoRow, standIns := [], harness := (true, "2bba924be3f1fd83b3a95e7a1da0e27c70c5b989cc32e1879c4ec0d7ceb1b85c"), looks := true }, kinds := [], alts := [], laidByText := true, laidKinds := [.data, .data, .data, .sentinel, .sentinel, .data, .data], laidTests := true, laidLooks := .later }
def FnTightUptoCardSaid : Prop := Claim7.holds Tryd.pinned (.plain (OpenSpec.upto fnTightSpec)) fnTightUptoCard

/-- THE SECOND FORM's CARD OF 'laws.FnStmtCount'. -/
def fnStmtCountUptoCard : Claim7 := { stood := { row := fnStmtCountUptoRow, standIns := [], harness := (true, "2bba924be3f1fd83b3a95e7a1da0e27c70c5b989cc32e1879c4ec0d7ceb1b85c"), looks := true }, kinds := [], alts := [], laidByText := true, laidKinds := [.data, .data, .data, .data], laidTests := true, laidLooks := .later }
def FnStmtCountUptoCardSaid : Prop := Claim7.holds Tryd.pinned (.plain (OpenSpec.upto fnStmtCountSpec)) fnStmtCountUptoCard

/-- THE SECOND FORM's CARD OF 'laws.FnStmtForm'. -/
def fnStmtFormUptoCard : Claim7 := { stood := { row := fnStmtFormUptoRow, standIns := [], harness := (true, "2bba924be3f1fd83b3a95e7a1da0e27c70c5b989cc32e1879c4ec0d7ceb1b85c"), looks := true }, kinds := [], alts := [], laidByText := true, laidKinds := [.data, .data, .data, .data], laidTests := true, laidLooks := .later }
def FnStmtFormUptoCardSaid : Prop := Claim7.holds Tryd.pinned (.plain (OpenSpec.upto fnStmtFormSpec)) fnStmtFormUptoCard

/-- THE SECOND FORM's CARD OF 'laws.FnFnAt'. -/
def fnFnAtUptoCard : Claim7 := { stood := { row := fnFnAtUptoRow, standIns := [], harness := (true, "2bba924be3f1fd83b3a95e7a1da0e27c70c5b989cc32e1879c4ec0d7ceb1b85c"), looks := true }, kinds := [], alts := [], laidByText := true, laidKinds := [.data, .data, .data, .data], laidTests := true, laidLooks := .later }
def FnFnAtUptoCardSaid : Prop := Claim7.holds Tryd.pinned (.plain (OpenSpec.upto fnFnAtSpec)) fnFnAtUptoCard
end Rows
end Go.Proofs.YtljoipgpkmdjbaaDoor
