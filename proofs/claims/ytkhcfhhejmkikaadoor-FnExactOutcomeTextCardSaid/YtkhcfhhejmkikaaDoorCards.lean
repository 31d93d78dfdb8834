/-
  DERIVED. GIVEN WITH THE SEED: THE CARDS: each row of YtkhcfhhejmkikaaDoorRows.lean that lists a variable, with what it lists TIED to the program's text (the seventh form; the later family's looks); each row that meets fmt, with fmt's text TOLD by the authors' own Lean function (tested against real Go, not proved from fmt's source: count such statements apart). THE CARD IS WHAT COUNTS. Prove the row's statement (the work); the ties are given (YtkhcfhhejmkikaaDoorTie.lean); close each card by the builder's one call (the guide's Derived/Test/ToyasCard.lean, 'card_holds'). Laid BY PROGRAM, IN A SANDBOX (cutbox-door.mjs). By AI agents, Wed Nov 11 2026. No macro, syntax, notation, axiom, sorry.
-/
import Derived.Test.YtkhcfhhejmkikaaDoorRows
import GoSem.ClaimSeven
namespace Go.Proofs.YtkhcfhhejmkikaaDoor
namespace Rows

/-- THE TIED CARD OF 'laws.FnExactOutcomeText'. -/
def fnExactOutcomeTextCard : Claim7 := { stood := { row := fnExactOutcomeTextRow, standIns := [], harness := (true, "6798f346260806bd289d613c12ee1dfb268e2425dbb16ddaaba78da5decde046"), looks := false }, kinds := [], alts := [], laidByText := true, laidKinds := [.data, .data, .data], laidTests := true, laidLooks := .later }
def FnExactOutcomeTextCardSaid : Prop := Claim7.holds Tryd.pinned (.plain (OpenSpec.ofChange fnExactOutcomeTextSpec)) fnExactOutcomeTextCard

/-- THE TIED CARD OF 'laws.FnOutcomes'. -/
def fnOutcomesCard : Claim7 := { stood := { row := fnOutcomesRow, standIns := [], harness := (true, "6798f346260806bd289d613c12ee1dfb268e2425dbb16ddaaba78da5decde046"), looks := false }, kinds := [], alts := [], laidByText := true, laidKinds := [.data, .data, .data], laidTests := true, laidLooks := .later }
def FnOutcomesCardSaid : Prop := Claim7.holds Tryd.pinned (.plain (OpenSpec.ofChange fnOutcomesSpec)) fnOutcomesCard

/-- THE TIED CARD OF 'laws.FnStmtCount'. -/
def fnStmtCountCard : Claim7 := { stood := { row := fnStmtCountRow, standIns := [], harness := (true, "6798f346260806bd289d613c12ee1dfb268e2425dbb16ddaaba78da5decde046"), looks := false }, kinds := [], alts := [], laidByText := true, laidKinds := [.data, .data, .data, .data], laidTests := true, laidLooks := .later }
def FnStmtCountCardSaid : Prop := Claim7.holds Tryd.pinned (.plain (OpenSpec.ofChange fnStmtCountSpec)) fnStmtCountCard

/-- THE TIED CARD OF 'laws.FnStmtForm'. -/
def fnStmtFormCard : Claim7 := { stood := { row := fnStmtFormRow, standIns := [], harness := (true, "6798f346260806bd289d613c12ee1dfb268e2425dbb16ddaaba78da5decde046"), looks := false }, kinds := [], alts := [], laidByText := true, laidKinds := [.data, .data, .data, .data], laidTests := true, laidLooks := .later }
def FnStmtFormCardSaid : Prop := Claim7.holds Tryd.pinned (.plain (OpenSpec.ofChange fnStmtFormSpec)) fnStmtFormCard

/-- THE SECOND FORM's CARD OF 'laws.FnExactOutcomeText'. -/
def fnExactOutcomeTextUptoCard : Claim7 := { stood := { row := fnExactOutcomeTextUptoRow, standIns := [], harness := (true, "6798f346260806bd289d613c12ee1dfb268e2425dbb16ddaaba78da5decde046"), looks := false }, kinds := [], alts := [], laidByText := true, laidKinds := [.data, .data, .data], laidTests := true, laidLooks := .later }
def FnExactOutcomeTextUptoCardSaid : Prop := Claim7.holds Tryd.pinned (.plain (OpenSpec.upto fnExactOutcomeTextSpec)) fnExactOutcomeTextUptoCard

/-- THE SECOND FORM's CARD OF 'laws.FnOutcomes'. -/
def fnOutcomesUptoCard : Claim7 := { stood := { row := fnOutcomesUptoRow, standIns := [], harness := (true, "6798f346260806bd289d613c12ee1dfb268e2425dbb16ddaaba78da5decde046"), looks := false }, kinds := [], alts := [], laidByText := true, laidKinds := [.data, .data, .data], laidTests := true, laidLooks := .later }
def FnOutcomesUptoCardSaid : Prop := Claim7.holds Tryd.pinned (.plain (OpenSpec.upto fnOutcomesSpec)) fnOutcomesUptoCard

/-- THE SECOND FORM's CARD OF 'laws.FnStmtCount'. -/
def fnStmtCountUptoCard : Claim7 := { stood := { row := fnStmtCountUptoRow, standIns := [], harness := (true, "6798f346260806bd289d613c12ee1dfb268e2425dbb16ddaaba78da5decde046"), looks := false }, kinds := [], alts := [], laidByText := true, laidKinds := [.data, .data, .data, .data], laidTests := true, laidLooks := .later }
def FnStmtCountUptoCardSaid : Prop := Claim7.holds Tryd.pinned (.plain (OpenSpec.upto fnStmtCountSpec)) fnStmtCountUptoCard

/-- THE SECOND FORM's CARD OF 'laws.FnStmtForm'. -/
def fnStmtFormUptoCard : Claim7 := { stood := { row := fnStmtFormUptoRow, standIns := [], harness := (true, "6798f346260806bd289d613c12ee1dfb268e2425dbb16ddaaba78da5decde046"), looks := false }, kinds := [], alts := [], laidByText := true, laidKinds := [.data, .data, .data, .data], laidTests := true, laidLooks := .later }
def FnStmtFormUptoCardSaid : Prop := Claim7.holds Tryd.pinned (.plain (OpenSpec.upto fnStmtFormSpec)) fnStmtFormUptoCard
end Rows
end Go.Proofs.YtkhcfhhejmkikaaDoor
