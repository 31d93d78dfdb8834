/-
  DERIVED. GIVEN WITH THE SEED: THE PROGRAM's TIES (one call each: nine closed facts by the kernel) AND EACH ROW's TIE, after the 31st guide's Derived/Test/Toyas{Tie, Card}.lean. No idea stands in it: it is a product of the set-up. Laid BY PROGRAM, IN A SANDBOX (cutbox-door.mjs). By AI agents, Wed Nov 11 2026. No macro, syntax, notation, axiom, sorry.
-/
import Derived.Test.YtkhcfhhejmkikaaDoorRows
import Derived.LaidByTextLater
import Derived.SevenTiedAt
import Derived.LaidSub
import Derived.LaidOnce
namespace Go.Proofs.YtkhcfhhejmkikaaDoor
open Go
set_option maxRecDepth 100000
theorem seatTie1 : Tryd.prog.laidByTextLater [("math/bits.deBruijn32tab", Rows.laid_math_bits_deBruijn32tab), ("math/bits.deBruijn64tab", Rows.laid_math_bits_deBruijn64tab), ("internal/strconv.uint64pow10", Rows.laid_internal_strconv_uint64pow10)] [.data, .data, .data] true :=
  Program.laidByTextLater_by_one 62 8 129 (by kernel_rfl) (by kernel_rfl) (by kernel_rfl) (by kernel_rfl) (by kernel_rfl) (by kernel_rfl) (fun _ _ => by kernel_rfl)
theorem seatTie2 : Tryd.prog.laidByTextLater [("loop.example/wholeway/impl.byteKinds", Rows.laid_loop_example_wholeway_impl_byteKinds), ("loop.example/wholeway/impl.keyTable", Rows.laid_loop_example_wholeway_impl_keyTable), ("loop.example/wholeway/impl.signedOps", Rows.laid_loop_example_wholeway_impl_signedOps), ("loop.example/wholeway/impl.stmtForms", Rows.laid_loop_example_wholeway_impl_stmtForms)] [.data, .data, .data, .data] true :=
  Program.laidByTextLater_by_one 62 8 129 (by kernel_rfl) (by kernel_rfl) (by kernel_rfl) (by kernel_rfl) (by kernel_rfl) (by kernel_rfl) (fun _ _ => by kernel_rfl)
theorem noOwnUnsafe : Tryd.pinned.checked.prog.headLifts.contains "ownunsafe" = false := by kernel_rfl
theorem tie : Tryd.prog.laidByTextLater [("math/bits.deBruijn32tab", Rows.laid_math_bits_deBruijn32tab), ("math/bits.deBruijn64tab", Rows.laid_math_bits_deBruijn64tab), ("internal/strconv.uint64pow10", Rows.laid_internal_strconv_uint64pow10)] [.data, .data, .data] true :=
  Program.laidByTextLater.sub seatTie1 ["math/bits.deBruijn32tab", "math/bits.deBruijn64tab", "internal/strconv.uint64pow10"] (by kernel_rfl) (by kernel_rfl)
theorem fnExactOutcomeText_row_tie : Rows.fnExactOutcomeTextRow.laidByTextAt .later Tryd.pinned [.data, .data, .data] true :=
  OpenClaim.laidByTextAt_later rfl rfl tie noOwnUnsafe
theorem fnOutcomes_row_tie : Rows.fnOutcomesRow.laidByTextAt .later Tryd.pinned [.data, .data, .data] true :=
  OpenClaim.laidByTextAt_later rfl rfl tie noOwnUnsafe
theorem tie2 : Tryd.prog.laidByTextLater [("loop.example/wholeway/impl.byteKinds", Rows.laid_loop_example_wholeway_impl_byteKinds), ("loop.example/wholeway/impl.keyTable", Rows.laid_loop_example_wholeway_impl_keyTable), ("loop.example/wholeway/impl.signedOps", Rows.laid_loop_example_wholeway_impl_signedOps), ("loop.example/wholeway/impl.stmtForms", Rows.laid_loop_example_wholeway_impl_stmtForms)] [.data, .data, .data, .data] true :=
  Program.laidByTextLater.sub seatTie2 ["loop.example/wholeway/impl.byteKinds", "loop.example/wholeway/impl.keyTable", "loop.example/wholeway/impl.signedOps", "loop.example/wholeway/impl.stmtForms"] (by kernel_rfl) (by kernel_rfl)
theorem fnStmtCount_row_tie : Rows.fnStmtCountRow.laidByTextAt .later Tryd.pinned [.data, .data, .data, .data] true :=
  OpenClaim.laidByTextAt_later rfl rfl tie2 noOwnUnsafe
theorem fnStmtForm_row_tie : Rows.fnStmtFormRow.laidByTextAt .later Tryd.pinned [.data, .data, .data, .data] true :=
  OpenClaim.laidByTextAt_later rfl rfl tie2 noOwnUnsafe
theorem fnExactOutcomeTextUpto_row_tie : Rows.fnExactOutcomeTextUptoRow.laidByTextAt .later Tryd.pinned [.data, .data, .data] true :=
  OpenClaim.laidByTextAt_later rfl rfl tie noOwnUnsafe
theorem fnOutcomesUpto_row_tie : Rows.fnOutcomesUptoRow.laidByTextAt .later Tryd.pinned [.data, .data, .data] true :=
  OpenClaim.laidByTextAt_later rfl rfl tie noOwnUnsafe
theorem fnStmtCountUpto_row_tie : Rows.fnStmtCountUptoRow.laidByTextAt .later Tryd.pinned [.data, .data, .data, .data] true :=
  OpenClaim.laidByTextAt_later rfl rfl tie2 noOwnUnsafe
theorem fnStmtFormUpto_row_tie : Rows.fnStmtFormUptoRow.laidByTextAt .later Tryd.pinned [.data, .data, .data, .data] true :=
  OpenClaim.laidByTextAt_later rfl rfl tie2 noOwnUnsafe
end Go.Proofs.YtkhcfhhejmkikaaDoor
