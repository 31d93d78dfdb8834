/-
  DERIVED. GIVEN WITH THE SEED: THE CARDS: each row of YtjiimcbfniknoaaDoorRows.lean that lists a variable, with what it lists TIED to the program's text (the seventh form; the later family's looks); each row that meets fmt, with fmt's text TOLD by the authors' own Lean function (tested against real Go, not proved from fmt's source: count such statements apart). THE CARD IS WHAT COUNTS. Prove the row's statement (the work); the ties are given (YtjiimcbfniknoaaDoorTie.lean); close each card by the builder's one call (the guide's Derived/Test/ToyasCard.lean, 'card_holds'). Laid BY PROGRAM, IN A SANDBOX (cutbox-door.mjs). By AI agents, Wed Nov 11 2026. No macro, syntax, notation, axiom, sorry.
-/
import Derived.Test.YtjiimcbfniknoaaDoorRows
import GoSem.ClaimSeven
namespace Go.Proofs.YtjiimcbfniknoaaDoor
namespace Rows

/-- THE TIED CARD OF 'laws.FnExactMadeBy'. -/
def fnExactMadeByCard : Claim7 := { stood := { row := fnExactMadeByRow, standIns := [], harness := (true, "9ce18fabe98f756a45ea3cb12d992a1ffa7a647a71fdcbb97f3129ff54f7d510"), looks := false }, kinds := [], alts := [], laidByText := true, laidKinds := [.data], laidTests := true, laidLooks := .later }
def FnExactMadeByCardSaid : Prop := Claim7.holds Tryd.pinned (.plain (OpenSpec.ofChange fnExactMadeBySpec)) fnExactMadeByCard

/-- THE TIED CARD OF 'laws.FnExactUnitValid'. -/
def fnExactUnitValidCard : Claim7 := { stood := { row := fnExactUnitValidRow, standIns := [], harness := (true, "9ce18fabe98f756a45ea3cb12d992a1ffa7a647a71fdcbb97f3129ff54f7d510"), looks := false }, kinds := [], alts := [], laidByText := true, laidKinds := [.data, .data], laidTests := true, laidLooks := .later }
def FnExactUnitValidCardSaid : Prop := Claim7.holds Tryd.pinned (.plain (OpenSpec.ofChange fnExactUnitValidSpec)) fnExactUnitValidCard

/-- THE TIED CARD OF 'laws.FnExactInsCount'. -/
def fnExactInsCountCard : Claim7 := { stood := { row := fnExactInsCountRow, standIns := [], harness := (true, "9ce18fabe98f756a45ea3cb12d992a1ffa7a647a71fdcbb97f3129ff54f7d510"), looks := false }, kinds := [], alts := [], laidByText := true, laidKinds := [.data, .data], laidTests := true, laidLooks := .later }
def FnExactInsCountCardSaid : Prop := Claim7.holds Tryd.pinned (.plain (OpenSpec.ofChange fnExactInsCountSpec)) fnExactInsCountCard

/-- THE TIED CARD OF 'laws.FnExactUnitText'. -/
def fnExactUnitTextCard : Claim7 := { stood := { row := fnExactUnitTextRow, standIns := [], harness := (true, "9ce18fabe98f756a45ea3cb12d992a1ffa7a647a71fdcbb97f3129ff54f7d510"), looks := false }, kinds := [], alts := [], laidByText := true, laidKinds := [.data, .data, .data, .data, .data], laidTests := true, laidLooks := .later }
def FnExactUnitTextCardSaid : Prop := Claim7.holds Tryd.pinned (.plain (OpenSpec.ofChange fnExactUnitTextSpec)) fnExactUnitTextCard

/-- THE TIED CARD OF 'laws.FnExactTightUnit'. -/
def fnExactTightUnitCard : Claim7 := { stood := { row := fnExactTightUnitRow, standIns := [], harness := (true, "9ce18fabe98f756a45ea3cb12d992a1ffa7a647a71fdcbb97f3129ff54f7d510"), looks := false }, kinds := [], alts := [], laidByText := true, laidKinds := [.data, .data], laidTests := true, laidLooks := .later }
def FnExactTightUnitCardSaid : Prop := Claim7.holds Tryd.pinned (.plain (OpenSpec.ofChange fnExactTightUnitSpec)) fnExactTightUnitCard

/-- THE SECOND FORM's CARD OF 'laws.FnExactMadeBy'. -/
def fnExactMadeByUptoCard : Claim7 := { stood := { row := fnExactMadeByUptoRow, standIns := [], harness := (true, "9ce18fabe98f756a45ea3cb12d992a1ffa7a647a71fdcbb97f3129ff54f7d510"), looks := false }, kinds := [], alts := [], laidByText := true, laidKinds := [.data], laidTests := true, laidLooks := .later }
def FnExactMadeByUptoCardSaid : Prop := Claim7.holds Tryd.pinned (.plain (OpenSpec.upto fnExactMadeBySpec)) fnExactMadeByUptoCard

/-- THE SECOND FORM's CARD OF 'laws.FnExactUnitValid'. -/
def fnExactUnitValidUptoCard : Claim7 := { stood := { row := fnExactUnitValidUptoRow, standIns := [], harness := (true, "9ce18fabe98f756a45ea3cb12d992a1ffa7a647a71fdcbb97f3129ff54f7d510"), looks := false }, kinds := [], alts := [], laidByText := true, laidKinds := [.data, .data], laidTests := true, laidLooks := .later }
def FnExactUnitValidUptoCardSaid : Prop := Claim7.holds Tryd.pinned (.plain (OpenSpec.upto fnExactUnitValidSpec)) fnExactUnitValidUptoCard

/-- THE SECOND FORM's CARD OF 'laws.FnExactInsCount'. -/
def fnExactInsCountUptoCard : Claim7 := { stood := { row := fnExactInsCountUptoRow, standIns := [], harness := (true, "9ce18fabe98f756a45ea3cb12d992a1ffa7a647a71fdcbb97f3129ff54f7d510"), looks := false }, kinds := [], alts := [], laidByText := true, laidKinds := [.data, .data], laidTests := true, laidLooks := .later }
def FnExactInsCountUptoCardSaid : Prop := Claim7.holds Tryd.pinned (.plain (OpenSpec.upto fnExactInsCountSpec)) fnExactInsCountUptoCard

/-- THE SECOND FORM's CARD OF 'laws.FnExactUnitText'. -/
def fnExactUnitTextUptoCard : Claim7 := { stood := { row := fnExactUnitTextUptoRow, standIns := [], harness := (true, "9ce18fabe98f756a45ea3cb12d992a1ffa7a647a71fdcbb97f3129ff54f7d510"), looks := false }, kinds := [], alts := [], laidByText := true, laidKinds := [.data, .data, .data, .data, .data], laidTests := true, laidLooks := .later }
def FnExactUnitTextUptoCardSaid : Prop := Claim7.holds Tryd.pinned (.plain (OpenSpec.upto fnExactUnitTextSpec)) fnExactUnitTextUptoCard

/-- THE SECOND FORM's CARD OF 'laws.FnExactTightUnit'. -/
def fnExactTightUnitUptoCard : Claim7 := { stood := { row := fnExactTightUnitUptoRow, standIns := [], harness := (true, "9ce18fabe98f756a45ea3cb12d992a1ffa7a647a71fdcbb97f3129ff54f7d510"), looks := false }, kinds := [], alts := [], laidByText := true, laidKinds := [.data, .data], laidTests := true, laidLooks := .later }
def FnExactTightUnitUptoCardSaid : Prop := Claim7.holds Tryd.pinned (.plain (OpenSpec.upto fnExactTightUnitSpec)) fnExactTightUnitUptoCard
end Rows
end Go.Proofs.YtjiimcbfniknoaaDoor
