/-
  DERIVED. GIVEN WITH THE SEED: THE PROGRAM's TIES (one call each: nine closed facts by the kernel) AND EACH ROW's TIE, after the 31st guide's Derived/Test/Toyas{Tie, Card}.lean. No idea stands in it: it is a product of the set-up. Laid BY PROGRAM, IN A SANDBOX (cutbox-door.mjs). By AI agents, Wed Nov 11 2026. No macro, syntax, notation, axiom, sorry.
-/
import Derived.Test.YtkgfamagienfpaaDoorRows
import Derived.LaidByTextLater
import Derived.SevenTiedAt
import Derived.LaidSub
import Derived.LaidOnce
namespace Go.Proofs.YtkgfamagienfpaaDoor
open Go
set_option maxRecDepth 100000
theorem seatTie1 : Tryd.prog.laidByTextLater [("loop.example/wholeway/impl.byteKinds", Rows.laid_loop_example_wholeway_impl_byteKinds), ("loop.example/wholeway/impl.keyTable", Rows.laid_loop_example_wholeway_impl_keyTable), ("loop.example/wholeway/impl.signedOps", Rows.laid_loop_example_wholeway_impl_signedOps), ("loop.example/wholeway/impl.stmtForms", Rows.laid_loop_example_wholeway_impl_stmtForms)] [.data, .data, .data, .data] true :=
  Program.laidByTextLater_by_one 47 8 129 (by kernel_rfl) (by kernel_rfl) (by kernel_rfl) (by kernel_rfl) (by kernel_rfl) (by kernel_rfl) (fun _ _ => by kernel_rfl)
theorem noOwnUnsafe : Tryd.pinned.checked.prog.headLifts.contains "ownunsafe" = false := by kernel_rfl
theorem tie : Tryd.prog.laidByTextLater [("loop.example/wholeway/impl.byteKinds", Rows.laid_loop_example_wholeway_impl_byteKinds), ("loop.example/wholeway/impl.keyTable", Rows.laid_loop_example_wholeway_impl_keyTable), ("loop.example/wholeway/impl.signedOps", Rows.laid_loop_example_wholeway_impl_signedOps), ("loop.example/wholeway/impl.stmtForms", Rows.laid_loop_example_wholeway_impl_stmtForms)] [.data, .data, .data, .data] true :=
  Program.laidByTextLater.sub seatTie1 ["loop.example/wholeway/impl.byteKinds", "loop.example/wholeway/impl.keyTable", "loop.example/wholeway/impl.signedOps", "loop.example/wholeway/impl.stmtForms"] (by kernel_rfl) (by kernel_rfl)
theorem fnExactStmtValid_row_tie : Rows.fnExactStmtValidRow.laidByTextAt .later Tryd.pinned [.data, .data, .data, .data] true :=
  OpenClaim.laidByTextAt_later rfl rfl tie noOwnUnsafe
theorem fnExactProgramValid_row_tie : Rows.fnExactProgramValidRow.laidByTextAt .later Tryd.pinned [.data, .data, .data, .data] true :=
  OpenClaim.laidByTextAt_later rfl rfl tie noOwnUnsafe
theorem fnExactStmtCount_row_tie : Rows.fnExactStmtCountRow.laidByTextAt .later Tryd.pinned [.data, .data, .data, .data] true :=
  OpenClaim.laidByTextAt_later rfl rfl tie noOwnUnsafe
theorem fnExactNestOf_row_tie : Rows.fnExactNestOfRow.laidByTextAt .later Tryd.pinned [.data, .data, .data, .data] true :=
  OpenClaim.laidByTextAt_later rfl rfl tie noOwnUnsafe
theorem fnStmtForm_row_tie : Rows.fnStmtFormRow.laidByTextAt .later Tryd.pinned [.data, .data, .data, .data] true :=
  OpenClaim.laidByTextAt_later rfl rfl tie noOwnUnsafe
theorem fnStmtCount_row_tie : Rows.fnStmtCountRow.laidByTextAt .later Tryd.pinned [.data, .data, .data, .data] true :=
  OpenClaim.laidByTextAt_later rfl rfl tie noOwnUnsafe
theorem fnFnAt_row_tie : Rows.fnFnAtRow.laidByTextAt .later Tryd.pinned [.data, .data, .data, .data] true :=
  OpenClaim.laidByTextAt_later rfl rfl tie noOwnUnsafe
theorem fnExactStmtValidUpto_row_tie : Rows.fnExactStmtValidUptoRow.laidByTextAt .later Tryd.pinned [.data, .data, .data, .data] true :=
  OpenClaim.laidByTextAt_later rfl rfl tie noOwnUnsafe
theorem fnExactProgramValidUpto_row_tie : Rows.fnExactProgramValidUptoRow.laidByTextAt .later Tryd.pinned [.data, .data, .data, .data] true :=
  OpenClaim.laidByTextAt_later rfl rfl tie noOwnUnsafe
theorem fnExactStmtCountUpto_row_tie : Rows.fnExactStmtCountUptoRow.laidByTextAt .later Tryd.pinned [.data, .data, .data, .data] true :=
  OpenClaim.laidByTextAt_later rfl rfl tie noOwnUnsafe
theorem fnExactNestOfUpto_row_tie : Rows.fnExactNestOfUptoRow.laidByTextAt .later Tryd.pinned [.data, .data, .data, .data] true :=
  OpenClaim.laidByTextAt_later rfl rfl tie noOwnUnsafe
theorem fnStmtFormUpto_row_tie : Rows.fnStmtFormUptoRow.laidByTextAt .later Tryd.pinned [.data, .data, .data, .data] true :=
  OpenClaim.laidByTextAt_later rfl rfl tie noOwnUnsafe
theorem fnStmtCountUpto_row_tie : Rows.fnStmtCountUptoRow.laidByTextAt .later Tryd.pinned [.data, .data, .data, .data] true :=
  OpenClaim.laidByTextAt_later rfl rfl tie noOwnUnsafe
theorem fnFnAtUpto_row_tie : Rows.fnFnAtUptoRow.laidByTextAt .later Tryd.pinned [.data, .data, .data, .data] true :=
  OpenClaim.laidByTextAt_later rfl rfl tie noOwnUnsafe
end Go.Proofs.YtkgfamagienfpaaDoor
