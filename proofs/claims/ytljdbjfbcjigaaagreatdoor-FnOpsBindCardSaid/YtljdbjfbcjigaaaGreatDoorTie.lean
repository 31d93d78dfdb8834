/-
  DERIVED. GIVEN WITH THE SEED: THE PROGRAM's TIES (one call each: nine closed facts by the kernel) AND EACH ROW's TIE, after the 31st guide's Derived/Test/Toyas{Tie, Card}.lean. No idea stands in it: it is a product of the set-up. Laid BY PROGRAM, IN A SANDBOX (cutbox-door.mjs). By AI agents, Wed Nov 11 2026. No macro, syntax, notation, axiom, sorry.
-/
import Derived.Test.YtljdbjfbcjigaaaGreatDoorRows
import Derived.LaidByTextLater
import Derived.SevenTiedAt
import Derived.LaidSub
import Derived.LaidOnce
namespace Go.Proofs.YtljdbjfbcjigaaaGreatDoor
open Go
set_option maxRecDepth 100000
theorem seatTie1 : Tryz.prog.laidByTextLater [("errors.errorType", Rows.laid_errors_errorType), ("loop.example/wholeway/impl.byteKinds", Rows.laid_loop_example_wholeway_impl_byteKinds), ("loop.example/wholeway/impl.keyTable", Rows.laid_loop_example_wholeway_impl_keyTable), ("loop.example/wholeway/impl.signedOps", Rows.laid_loop_example_wholeway_impl_signedOps), ("loop.example/wholeway/impl.stmtForms", Rows.laid_loop_example_wholeway_impl_stmtForms), ("loop.example/wholeway/impl.idleForms", Rows.laid_loop_example_wholeway_impl_idleForms)] [.handle, .data, .data, .data, .data, .data] true :=
  Program.laidByTextLater_by_one 118 8 129 (by kernel_rfl) (by kernel_rfl) (by kernel_rfl) (by kernel_rfl) (by kernel_rfl) (by kernel_rfl) (fun _ _ => by kernel_rfl)
theorem seatTie2 : Tryz.prog.laidByTextLater [("math/bits.deBruijn32tab", Rows.laid_math_bits_deBruijn32tab), ("math/bits.deBruijn64tab", Rows.laid_math_bits_deBruijn64tab), ("internal/strconv.uint64pow10", Rows.laid_internal_strconv_uint64pow10), ("strconv.ErrRange", Rows.laid_strconv_ErrRange), ("strconv.ErrSyntax", Rows.laid_strconv_ErrSyntax), ("loop.example/wholeway/impl.byteKinds", Rows.laid_loop_example_wholeway_impl_byteKinds), ("loop.example/wholeway/impl.keyTable", Rows.laid_loop_example_wholeway_impl_keyTable), ("loop.example/wholeway/impl.signedOps", Rows.laid_loop_example_wholeway_impl_signedOps)] [.data, .data, .data, .sentinel, .sentinel, .data, .data, .data] true :=
  Program.laidByTextLater_by_one 118 8 129 (by kernel_rfl) (by kernel_rfl) (by kernel_rfl) (by kernel_rfl) (by kernel_rfl) (by kernel_rfl) (fun _ _ => by kernel_rfl)
theorem seatTie3 : Tryz.prog.laidByTextLater [("math/bits.deBruijn32tab", Rows.laid_math_bits_deBruijn32tab), ("math/bits.deBruijn64tab", Rows.laid_math_bits_deBruijn64tab), ("internal/strconv.uint64pow10", Rows.laid_internal_strconv_uint64pow10), ("strconv.ErrRange", Rows.laid_strconv_ErrRange), ("strconv.ErrSyntax", Rows.laid_strconv_ErrSyntax), ("loop.example/wholeway/impl.byteKinds", Rows.laid_loop_example_wholeway_impl_byteKinds), ("loop.example/wholeway/impl.keyTable", Rows.laid_loop_example_wholeway_impl_keyTable), ("loop.example/wholeway/impl.signedOps", Rows.laid_loop_example_wholeway_impl_signedOps), ("loop.example/wholeway/impl.stmtForms", Rows.laid_loop_example_wholeway_impl_stmtForms)] [.data, .data, .data, .sentinel, .sentinel, .data, .data, .data, .data] true :=
  Program.laidByTextLater_by_one 118 8 129 (by kernel_rfl) (by kernel_rfl) (by kernel_rfl) (by kernel_rfl) (by kernel_rfl) (by kernel_rfl) (fun _ _ => by kernel_rfl)
theorem noOwnUnsafe : Tryz.pinned.checked.prog.headLifts.contains "ownunsafe" = false := by kernel_rfl
theorem tie : Tryz.prog.laidByTextLater [("loop.example/wholeway/impl.signedOps", Rows.laid_loop_example_wholeway_impl_signedOps), ("loop.example/wholeway/impl.idleForms", Rows.laid_loop_example_wholeway_impl_idleForms)] [.data, .data] true :=
  Program.laidByTextLater.sub seatTie1 ["loop.example/wholeway/impl.signedOps", "loop.example/wholeway/impl.idleForms"] (by kernel_rfl) (by kernel_rfl)
theorem fnExactFoldExpr_row_tie : Rows.fnExactFoldExprRow.laidByTextAt .later Tryz.pinned [.data, .data] true :=
  OpenClaim.laidByTextAt_later rfl rfl tie noOwnUnsafe
theorem tie2 : Tryz.prog.laidByTextLater [("errors.errorType", Rows.laid_errors_errorType), ("loop.example/wholeway/impl.byteKinds", Rows.laid_loop_example_wholeway_impl_byteKinds), ("loop.example/wholeway/impl.keyTable", Rows.laid_loop_example_wholeway_impl_keyTable), ("loop.example/wholeway/impl.signedOps", Rows.laid_loop_example_wholeway_impl_signedOps), ("loop.example/wholeway/impl.stmtForms", Rows.laid_loop_example_wholeway_impl_stmtForms)] [.handle, .data, .data, .data, .data] true :=
  Program.laidByTextLater.sub seatTie1 ["errors.errorType", "loop.example/wholeway/impl.byteKinds", "loop.example/wholeway/impl.keyTable", "loop.example/wholeway/impl.signedOps", "loop.example/wholeway/impl.stmtForms"] (by kernel_rfl) (by kernel_rfl)
theorem fnExactInputsFor_row_tie : Rows.fnExactInputsForRow.laidByTextAt .later Tryz.pinned [.handle, .data, .data, .data, .data] true :=
  OpenClaim.laidByTextAt_later rfl rfl tie2 noOwnUnsafe
theorem tie3 : Tryz.prog.laidByTextLater [("math/bits.deBruijn32tab", Rows.laid_math_bits_deBruijn32tab), ("math/bits.deBruijn64tab", Rows.laid_math_bits_deBruijn64tab), ("internal/strconv.uint64pow10", Rows.laid_internal_strconv_uint64pow10), ("strconv.ErrRange", Rows.laid_strconv_ErrRange), ("strconv.ErrSyntax", Rows.laid_strconv_ErrSyntax), ("loop.example/wholeway/impl.byteKinds", Rows.laid_loop_example_wholeway_impl_byteKinds), ("loop.example/wholeway/impl.keyTable", Rows.laid_loop_example_wholeway_impl_keyTable), ("loop.example/wholeway/impl.signedOps", Rows.laid_loop_example_wholeway_impl_signedOps)] [.data, .data, .data, .sentinel, .sentinel, .data, .data, .data] true :=
  Program.laidByTextLater.sub seatTie2 ["math/bits.deBruijn32tab", "math/bits.deBruijn64tab", "internal/strconv.uint64pow10", "strconv.ErrRange", "strconv.ErrSyntax", "loop.example/wholeway/impl.byteKinds", "loop.example/wholeway/impl.keyTable", "loop.example/wholeway/impl.signedOps"] (by kernel_rfl) (by kernel_rfl)
theorem fnSameExpr_row_tie : Rows.fnSameExprRow.laidByTextAt .later Tryz.pinned [.data, .data, .data, .sentinel, .sentinel, .data, .data, .data] true :=
  OpenClaim.laidByTextAt_later rfl rfl tie3 noOwnUnsafe
theorem fnOpsBind_row_tie : Rows.fnOpsBindRow.laidByTextAt .later Tryz.pinned [.data, .data, .data, .sentinel, .sentinel, .data, .data, .data] true :=
  OpenClaim.laidByTextAt_later rfl rfl tie3 noOwnUnsafe
theorem tie4 : Tryz.prog.laidByTextLater [("math/bits.deBruijn32tab", Rows.laid_math_bits_deBruijn32tab), ("math/bits.deBruijn64tab", Rows.laid_math_bits_deBruijn64tab), ("internal/strconv.uint64pow10", Rows.laid_internal_strconv_uint64pow10), ("strconv.ErrRange", Rows.laid_strconv_ErrRange), ("strconv.ErrSyntax", Rows.laid_strconv_ErrSyntax), ("loop.example/wholeway/impl.byteKinds", Rows.laid_loop_example_wholeway_impl_byteKinds), ("loop.example/wholeway/impl.keyTable", Rows.laid_loop_example_wholeway_impl_keyTable), ("loop.example/wholeway/impl.signedOps", Rows.laid_loop_example_wholeway_impl_signedOps), ("loop.example/wholeway/impl.stmtForms", Rows.laid_loop_example_wholeway_impl_stmtForms)] [.data, .data, .data, .sentinel, .sentinel, .data, .data, .data, .data] true :=
  Program.laidByTextLater.sub seatTie3 ["math/bits.deBruijn32tab", "math/bits.deBruijn64tab", "internal/strconv.uint64pow10", "strconv.ErrRange", "strconv.ErrSyntax", "loop.example/wholeway/impl.byteKinds", "loop.example/wholeway/impl.keyTable", "loop.example/wholeway/impl.signedOps", "loop.example/wholeway/impl.stmtForms"] (by kernel_rfl) (by kernel_rfl)
theorem fnExactProgramText_row_tie : Rows.fnExactProgramTextRow.laidByTextAt .later Tryz.pinned [.data, .data, .data, .sentinel, .sentinel, .data, .data, .data, .data] true :=
  OpenClaim.laidByTextAt_later rfl rfl tie4 noOwnUnsafe
theorem fnExactFoldExprUpto_row_tie : Rows.fnExactFoldExprUptoRow.laidByTextAt .later Tryz.pinned [.data, .data] true :=
  OpenClaim.laidByTextAt_later rfl rfl tie noOwnUnsafe
theorem fnExactInputsForUpto_row_tie : Rows.fnExactInputsForUptoRow.laidByTextAt .later Tryz.pinned [.handle, .data, .data, .data, .data] true :=
  OpenClaim.laidByTextAt_later rfl rfl tie2 noOwnUnsafe
theorem fnSameExprUpto_row_tie : Rows.fnSameExprUptoRow.laidByTextAt .later Tryz.pinned [.data, .data, .data, .sentinel, .sentinel, .data, .data, .data] true :=
  OpenClaim.laidByTextAt_later rfl rfl tie3 noOwnUnsafe
theorem fnOpsBindUpto_row_tie : Rows.fnOpsBindUptoRow.laidByTextAt .later Tryz.pinned [.data, .data, .data, .sentinel, .sentinel, .data, .data, .data] true :=
  OpenClaim.laidByTextAt_later rfl rfl tie3 noOwnUnsafe
theorem fnExactProgramTextUpto_row_tie : Rows.fnExactProgramTextUptoRow.laidByTextAt .later Tryz.pinned [.data, .data, .data, .sentinel, .sentinel, .data, .data, .data, .data] true :=
  OpenClaim.laidByTextAt_later rfl rfl tie4 noOwnUnsafe
end Go.Proofs.YtljdbjfbcjigaaaGreatDoor
