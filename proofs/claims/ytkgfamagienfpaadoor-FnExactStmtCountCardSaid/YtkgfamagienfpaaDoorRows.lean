/-
  NARROWER THAN 'FOR EVERY INPUT', by the rows' own cells (each row's printed sentence says how): FnExactStmtValid: loops, laid · FnExactProgramValid: loops, laid · FnExactStmtCount: loops, laid · FnExactNestOf: loops, laid · FnStmtForm: laid · FnStmtCount: laid · FnFnAt: laid.
  DERIVED. THE GIVEN ROWS OF THIS SEAT. 7 by the template 'for every input the law returns true; each argument reads behind the call as it read before'; 0 by the template 'total and deterministic' (their statements: YtkgfamagienfpaaDoorTotals.lean).
  GIVEN WITH THE SEED: the statements are not yours to turn. If you find one false, say at which input.
  Laid BY PROGRAM, IN A SANDBOX (cutbox-rows.mjs): the forced cells as the released guide's own fill.sh prints them over the translation e852ca0c4b767e0f… (all of the seat's roots in one cut). By AI agents, Wed Nov 11 2026. No macro, syntax, notation, axiom, sorry.
-/
import Derived.Test.YtkgfamagienfpaaDoorChecked
import GoSem.Claim
import GoSem.ClaimJoined
import GoSem.ClaimMapViews
import Derived.JoinedTies
import Derived.KernelRfl
namespace Go.Proofs.YtkgfamagienfpaaDoor
/- THE CELL 'sum', in the pinned program and in every row, IS THE sha256 OF THE DUMP (.gsa) THAT YtkgfamagienfpaaDoorProg.lean LOADS. Nothing in Lean hashes anything: it is a label: what it is worth is what the hold of that sum in a sandbox is worth. -/
noncomputable def Tryd.pinned : Pinned := { name := "ytkgfamagienfpaadoor", sum := "e852ca0c4b767e0f73e41ec37234bb70660cec6abf31cd6346109702167f62a2", checked := Tryd.checked }
namespace Rows
def none {H : Type} : Left H := { results := [], args := [] }

/- WHAT THE LISTED PACKAGE-LEVEL VARIABLES READ AS WHEN THE CALL BEGINS. Each datum BY PROGRAM (the guide's laid-datum.mjs) off the statement by which the dump's own 'gosem.cut.vars' lays the variable. In a bare row this is a premise. The card (YtkgfamagienfpaaDoorCards.lean) ties it to the program's text. -/
def laid_loop_example_wholeway_impl_byteKinds {H : Type} : DataW H := .agg [.lit (.int .i64 0), .lit (.int .i64 0), .lit (.int .i64 0), .lit (.int .i64 0), .lit (.int .i64 0), .lit (.int .i64 0), .lit (.int .i64 0), .lit (.int .i64 0), .lit (.int .i64 0), .lit (.int .i64 0), .lit (.int .i64 5), .lit (.int .i64 0), .lit (.int .i64 0), .lit (.int .i64 0), .lit (.int .i64 0), .lit (.int .i64 0), .lit (.int .i64 0), .lit (.int .i64 0), .lit (.int .i64 0), .lit (.int .i64 0), .lit (.int .i64 0), .lit (.int .i64 0), .lit (.int .i64 0), .lit (.int .i64 0), .lit (.int .i64 0), .lit (.int .i64 0), .lit (.int .i64 0), .lit (.int .i64 0), .lit (.int .i64 0), .lit (.int .i64 0), .lit (.int .i64 0), .lit (.int .i64 0), .lit (.int .i64 5), .lit (.int .i64 3), .lit (.int .i64 0), .lit (.int .i64 0), .lit (.int .i64 0), .lit (.int .i64 3), .lit (.int .i64 3), .lit (.int .i64 0), .lit (.int .i64 3), .lit (.int .i64 3), .lit (.int .i64 3), .lit (.int .i64 3), .lit (.int .i64 3), .lit (.int .i64 3), .lit (.int .i64 0), .lit (.int .i64 3), .lit (.int .i64 2), .lit (.int .i64 2), .lit (.int .i64 2), .lit (.int .i64 2), .lit (.int .i64 2), .lit (.int .i64 2), .lit (.int .i64 2), .lit (.int .i64 2), .lit (.int .i64 2), .lit (.int .i64 2), .lit (.int .i64 0), .lit (.int .i64 3), .lit (.int .i64 3), .lit (.int .i64 3), .lit (.int .i64 0), .lit (.int .i64 0), .lit (.int .i64 3), .lit (.int .i64 0), .lit (.int .i64 0), .lit (.int .i64 0), .lit (.int .i64 0), .lit (.int .i64 0), .lit (.int .i64 0), .lit (.int .i64 0), .lit (.int .i64 0), .lit (.int .i64 0), .lit (.int .i64 0), .lit (.int .i64 0), .lit (.int .i64 0), .lit (.int .i64 0), .lit (.int .i64 0), .lit (.int .i64 0), .lit (.int .i64 0), .lit (.int .i64 0), .lit (.int .i64 0), .lit (.int .i64 0), .lit (.int .i64 0), .lit (.int .i64 0), .lit (.int .i64 0), .lit (.int .i64 0), .lit (.int .i64 0), .lit (.int .i64 0), .lit (.int .i64 0), .lit (.int .i64 0), .lit (.int .i64 0), .lit (.int .i64 0), .lit (.int .i64 0), .lit (.int .i64 0), .lit (.int .i64 0), .lit (.int .i64 1), .lit (.int .i64 1), .lit (.int .i64 1), .lit (.int .i64 1), .lit (.int .i64 1), .lit (.int .i64 1), .lit (.int .i64 1), .lit (.int .i64 1), .lit (.int .i64 1), .lit (.int .i64 1), .lit (.int .i64 1), .lit (.int .i64 1), .lit (.int .i64 1), .lit (.int .i64 1), .lit (.int .i64 1), .lit (.int .i64 1), .lit (.int .i64 1), .lit (.int .i64 1), .lit (.int .i64 1), .lit (.int .i64 1), .lit (.int .i64 1), .lit (.int .i64 1), .lit (.int .i64 1), .lit (.int .i64 1), .lit (.int .i64 1), .lit (.int .i64 1), .lit (.int .i64 3), .lit (.int .i64 0), .lit (.int .i64 3), .lit (.int .i64 0), .lit (.int .i64 0)]
def laid_loop_example_wholeway_impl_keyTable {H : Type} : DataW H := .agg [.lit (.string [102, 110]), .lit (.string [108, 101, 116]), .lit (.string [115, 97, 121]), .lit (.string [112, 117, 116]), .lit (.string [105, 102]), .lit (.string [101, 108, 115, 101]), .lit (.string [108, 111, 111, 112]), .lit (.string [98, 97, 99, 107]), .lit (.string [100, 111])]
def laid_loop_example_wholeway_impl_signedOps {H : Type} : DataW H := .agg [.agg [.lit (.int .i64 3), .lit (.string [43]), .lit (.int .i64 3)], .agg [.lit (.int .i64 4), .lit (.string [45]), .lit (.int .i64 3)], .agg [.lit (.int .i64 5), .lit (.string [42]), .lit (.int .i64 4)], .agg [.lit (.int .i64 6), .lit (.string [47]), .lit (.int .i64 4)], .agg [.lit (.int .i64 7), .lit (.string [37]), .lit (.int .i64 4)], .agg [.lit (.int .i64 8), .lit (.string [60]), .lit (.int .i64 2)], .agg [.lit (.int .i64 9), .lit (.string [61]), .lit (.int .i64 2)], .agg [.lit (.int .i64 10), .lit (.string [38]), .lit (.int .i64 1)], .agg [.lit (.int .i64 11), .lit (.string [33]), .lit (.int .i64 5)], .agg [.lit (.int .i64 12), .lit (.string [64]), .lit (.int .i64 5)]]
def laid_loop_example_wholeway_impl_stmtForms {H : Type} : DataW H := .agg [.agg [.lit (.int .i64 1), .lit (.string [108, 101, 116]), .lit (.bool true), .lit (.int .i64 1), .lit (.bool false), .lit (.bool false), .lit (.bool false)], .agg [.lit (.int .i64 2), .lit (.string []), .lit (.bool true), .lit (.int .i64 1), .lit (.bool false), .lit (.bool false), .lit (.bool false)], .agg [.lit (.int .i64 3), .lit (.string [115, 97, 121]), .lit (.bool false), .lit (.int .i64 1), .lit (.bool false), .lit (.bool false), .lit (.bool false)], .agg [.lit (.int .i64 4), .lit (.string [112, 117, 116]), .lit (.bool false), .lit (.int .i64 2), .lit (.bool false), .lit (.bool false), .lit (.bool false)], .agg [.lit (.int .i64 5), .lit (.string [105, 102]), .lit (.bool false), .lit (.int .i64 1), .lit (.bool false), .lit (.bool true), .lit (.bool true)], .agg [.lit (.int .i64 6), .lit (.string [108, 111, 111, 112]), .lit (.bool false), .lit (.int .i64 1), .lit (.bool false), .lit (.bool true), .lit (.bool false)], .agg [.lit (.int .i64 7), .lit (.string [98, 97, 99, 107]), .lit (.bool false), .lit (.int .i64 1), .lit (.bool false), .lit (.bool false), .lit (.bool false)], .agg [.lit (.int .i64 8), .lit (.string [100, 111]), .lit (.bool false), .lit (.int .i64 1), .lit (.bool true), .lit (.bool false), .lit (.bool false)]]

/-- 'laws.FnExactStmtValid': WHATEVER THE INPUT: true; the input reads as it did. -/
def fnExactStmtValidSpec : ChangeSpec := { name := "fnExactStmtValid", vars := ["loop.example/wholeway/impl.stmtForms", "loop.example/wholeway/impl.keyTable", "loop.example/wholeway/impl.byteKinds", "loop.example/wholeway/impl.signedOps"], fn := fun _ => fun
  | [d, g1, g2, g3, g4] => { results := [.lit (.bool true)], args := [d], vars := [g1, g2, g3, g4] }
  | _ => none }
def fnExactStmtValidRow : OpenClaim := { program := "ytkgfamagienfpaadoor", sum := "e852ca0c4b767e0f73e41ec37234bb70660cec6abf31cd6346109702167f62a2", func := "loop.example/wholeway/laws.FnExactStmtValid", spec := "fnExactStmtValid", unfollowed := true, recurses := true, named := ["loop.example/wholeway/impl.stmtForms", "loop.example/wholeway/impl.keyTable", "loop.example/wholeway/impl.byteKinds", "loop.example/wholeway/impl.signedOps"], loops := true, apart := false, laid := [("loop.example/wholeway/impl.byteKinds", laid_loop_example_wholeway_impl_byteKinds), ("loop.example/wholeway/impl.keyTable", laid_loop_example_wholeway_impl_keyTable), ("loop.example/wholeway/impl.signedOps", laid_loop_example_wholeway_impl_signedOps), ("loop.example/wholeway/impl.stmtForms", laid_loop_example_wholeway_impl_stmtForms)] }
def FnExactStmtValidSaid : Prop := fnExactStmtValidRow.holds Tryd.pinned (OpenSpec.ofChange fnExactStmtValidSpec)

/-- ITS FALSE NEIGHBOUR: 'it returns false'. Refute it at one input. -/
def fnExactStmtValidWrong : ChangeSpec := { name := "fnExactStmtValid", vars := ["loop.example/wholeway/impl.stmtForms", "loop.example/wholeway/impl.keyTable", "loop.example/wholeway/impl.byteKinds", "loop.example/wholeway/impl.signedOps"], fn := fun _ => fun
  | [d, g1, g2, g3, g4] => { results := [.lit (.bool false)], args := [d], vars := [g1, g2, g3, g4] }
  | _ => none }
def FnExactStmtValidWrongFalsely : Prop := fnExactStmtValidRow.holds Tryd.pinned (OpenSpec.ofChange fnExactStmtValidWrong)

/-- 'laws.FnExactProgramValid': WHATEVER THE INPUT: true; the input reads as it did. -/
def fnExactProgramValidSpec : ChangeSpec := { name := "fnExactProgramValid", vars := ["loop.example/wholeway/impl.keyTable", "loop.example/wholeway/impl.byteKinds", "loop.example/wholeway/impl.stmtForms", "loop.example/wholeway/impl.signedOps"], fn := fun _ => fun
  | [d, g1, g2, g3, g4] => { results := [.lit (.bool true)], args := [d], vars := [g1, g2, g3, g4] }
  | _ => none }
def fnExactProgramValidRow : OpenClaim := { program := "ytkgfamagienfpaadoor", sum := "e852ca0c4b767e0f73e41ec37234bb70660cec6abf31cd6346109702167f62a2", func := "loop.example/wholeway/laws.FnExactProgramValid", spec := "fnExactProgramValid", unfollowed := true, recurses := true, named := ["loop.example/wholeway/impl.keyTable", "loop.example/wholeway/impl.byteKinds", "loop.example/wholeway/impl.stmtForms", "loop.example/wholeway/impl.signedOps"], loops := true, apart := false, laid := [("loop.example/wholeway/impl.byteKinds", laid_loop_example_wholeway_impl_byteKinds), ("loop.example/wholeway/impl.keyTable", laid_loop_example_wholeway_impl_keyTable), ("loop.example/wholeway/impl.signedOps", laid_loop_example_wholeway_impl_signedOps), ("loop.example/wholeway/impl.stmtForms", laid_loop_example_wholeway_impl_stmtForms)] }
def FnExactProgramValidSaid : Prop := fnExactProgramValidRow.holds Tryd.pinned (OpenSpec.ofChange fnExactProgramValidSpec)

/-- ITS FALSE NEIGHBOUR: 'it returns false'. Refute it at one input. -/
def fnExactProgramValidWrong : ChangeSpec := { name := "fnExactProgramValid", vars := ["loop.example/wholeway/impl.keyTable", "loop.example/wholeway/impl.byteKinds", "loop.example/wholeway/impl.stmtForms", "loop.example/wholeway/impl.signedOps"], fn := fun _ => fun
  | [d, g1, g2, g3, g4] => { results := [.lit (.bool false)], args := [d], vars := [g1, g2, g3, g4] }
  | _ => none }
def FnExactProgramValidWrongFalsely : Prop := fnExactProgramValidRow.holds Tryd.pinned (OpenSpec.ofChange fnExactProgramValidWrong)

/-- 'laws.FnExactStmtCount': WHATEVER THE INPUT: true; the input reads as it did. -/
def fnExactStmtCountSpec : ChangeSpec := { name := "fnExactStmtCount", vars := ["loop.example/wholeway/impl.keyTable", "loop.example/wholeway/impl.byteKinds", "loop.example/wholeway/impl.stmtForms", "loop.example/wholeway/impl.signedOps"], fn := fun _ => fun
  | [d, g1, g2, g3, g4] => { results := [.lit (.bool true)], args := [d], vars := [g1, g2, g3, g4] }
  | _ => none }
def fnExactStmtCountRow : OpenClaim := { program := "ytkgfamagienfpaadoor", sum := "e852ca0c4b767e0f73e41ec37234bb70660cec6abf31cd6346109702167f62a2", func := "loop.example/wholeway/laws.FnExactStmtCount", spec := "fnExactStmtCount", unfollowed := true, recurses := true, named := ["loop.example/wholeway/impl.keyTable", "loop.example/wholeway/impl.byteKinds", "loop.example/wholeway/impl.stmtForms", "loop.example/wholeway/impl.signedOps"], loops := true, apart := false, laid := [("loop.example/wholeway/impl.byteKinds", laid_loop_example_wholeway_impl_byteKinds), ("loop.example/wholeway/impl.keyTable", laid_loop_example_wholeway_impl_keyTable), ("loop.example/wholeway/impl.signedOps", laid_loop_example_wholeway_impl_signedOps), ("loop.example/wholeway/impl.stmtForms", laid_loop_example_wholeway_impl_stmtForms)] }
def FnExactStmtCountSaid : Prop := fnExactStmtCountRow.holds Tryd.pinned (OpenSpec.ofChange fnExactStmtCountSpec)

/-- ITS FALSE NEIGHBOUR: 'it returns false'. Refute it at one input. -/
def fnExactStmtCountWrong : ChangeSpec := { name := "fnExactStmtCount", vars := ["loop.example/wholeway/impl.keyTable", "loop.example/wholeway/impl.byteKinds", "loop.example/wholeway/impl.stmtForms", "loop.example/wholeway/impl.signedOps"], fn := fun _ => fun
  | [d, g1, g2, g3, g4] => { results := [.lit (.bool false)], args := [d], vars := [g1, g2, g3, g4] }
  | _ => none }
def FnExactStmtCountWrongFalsely : Prop := fnExactStmtCountRow.holds Tryd.pinned (OpenSpec.ofChange fnExactStmtCountWrong)

/-- 'laws.FnExactNestOf': WHATEVER THE INPUT: true; the input reads as it did. -/
def fnExactNestOfSpec : ChangeSpec := { name := "fnExactNestOf", vars := ["loop.example/wholeway/impl.keyTable", "loop.example/wholeway/impl.byteKinds", "loop.example/wholeway/impl.stmtForms", "loop.example/wholeway/impl.signedOps"], fn := fun _ => fun
  | [d, g1, g2, g3, g4] => { results := [.lit (.bool true)], args := [d], vars := [g1, g2, g3, g4] }
  | _ => none }
def fnExactNestOfRow : OpenClaim := { program := "ytkgfamagienfpaadoor", sum := "e852ca0c4b767e0f73e41ec37234bb70660cec6abf31cd6346109702167f62a2", func := "loop.example/wholeway/laws.FnExactNestOf", spec := "fnExactNestOf", unfollowed := true, recurses := true, named := ["loop.example/wholeway/impl.keyTable", "loop.example/wholeway/impl.byteKinds", "loop.example/wholeway/impl.stmtForms", "loop.example/wholeway/impl.signedOps"], loops := true, apart := false, laid := [("loop.example/wholeway/impl.byteKinds", laid_loop_example_wholeway_impl_byteKinds), ("loop.example/wholeway/impl.keyTable", laid_loop_example_wholeway_impl_keyTable), ("loop.example/wholeway/impl.signedOps", laid_loop_example_wholeway_impl_signedOps), ("loop.example/wholeway/impl.stmtForms", laid_loop_example_wholeway_impl_stmtForms)] }
def FnExactNestOfSaid : Prop := fnExactNestOfRow.holds Tryd.pinned (OpenSpec.ofChange fnExactNestOfSpec)

/-- ITS FALSE NEIGHBOUR: 'it returns false'. Refute it at one input. -/
def fnExactNestOfWrong : ChangeSpec := { name := "fnExactNestOf", vars := ["loop.example/wholeway/impl.keyTable", "loop.example/wholeway/impl.byteKinds", "loop.example/wholeway/impl.stmtForms", "loop.example/wholeway/impl.signedOps"], fn := fun _ => fun
  | [d, g1, g2, g3, g4] => { results := [.lit (.bool false)], args := [d], vars := [g1, g2, g3, g4] }
  | _ => none }
def FnExactNestOfWrongFalsely : Prop := fnExactNestOfRow.holds Tryd.pinned (OpenSpec.ofChange fnExactNestOfWrong)

/-- 'laws.FnStmtForm': WHATEVER THE INPUT: true; the input reads as it did. -/
def fnStmtFormSpec : ChangeSpec := { name := "fnStmtForm", vars := ["loop.example/wholeway/impl.stmtForms", "loop.example/wholeway/impl.keyTable", "loop.example/wholeway/impl.byteKinds", "loop.example/wholeway/impl.signedOps"], fn := fun _ => fun
  | [d, g1, g2, g3, g4] => { results := [.lit (.bool true)], args := [d], vars := [g1, g2, g3, g4] }
  | _ => none }
def fnStmtFormRow : OpenClaim := { program := "ytkgfamagienfpaadoor", sum := "e852ca0c4b767e0f73e41ec37234bb70660cec6abf31cd6346109702167f62a2", func := "loop.example/wholeway/laws.FnStmtForm", spec := "fnStmtForm", unfollowed := true, recurses := true, named := ["loop.example/wholeway/impl.stmtForms", "loop.example/wholeway/impl.keyTable", "loop.example/wholeway/impl.byteKinds", "loop.example/wholeway/impl.signedOps"], apart := false, laid := [("loop.example/wholeway/impl.byteKinds", laid_loop_example_wholeway_impl_byteKinds), ("loop.example/wholeway/impl.keyTable", laid_loop_example_wholeway_impl_keyTable), ("loop.example/wholeway/impl.signedOps", laid_loop_example_wholeway_impl_signedOps), ("loop.example/wholeway/impl.stmtForms", laid_loop_example_wholeway_impl_stmtForms)] }
def FnStmtFormSaid : Prop := fnStmtFormRow.holds Tryd.pinned (OpenSpec.ofChange fnStmtFormSpec)

/-- ITS FALSE NEIGHBOUR: 'it returns false'. Refute it at one input. -/
def fnStmtFormWrong : ChangeSpec := { name := "fnStmtForm", vars := ["loop.example/wholeway/impl.stmtForms", "loop.example/wholeway/impl.keyTable", "loop.example/wholeway/impl.byteKinds", "loop.example/wholeway/impl.signedOps"], fn := fun _ => fun
  | [d, g1, g2, g3, g4] => { results := [.lit (.bool false)], args := [d], vars := [g1, g2, g3, g4] }
  | _ => none }
def FnStmtFormWrongFalsely : Prop := fnStmtFormRow.holds Tryd.pinned (OpenSpec.ofChange fnStmtFormWrong)

/-- 'laws.FnStmtCount': WHATEVER THE INPUT: true; the input reads as it did. -/
def fnStmtCountSpec : ChangeSpec := { name := "fnStmtCount", vars := ["loop.example/wholeway/impl.keyTable", "loop.example/wholeway/impl.byteKinds", "loop.example/wholeway/impl.stmtForms", "loop.example/wholeway/impl.signedOps"], fn := fun _ => fun
  | [d, g1, g2, g3, g4] => { results := [.lit (.bool true)], args := [d], vars := [g1, g2, g3, g4] }
  | _ => none }
def fnStmtCountRow : OpenClaim := { program := "ytkgfamagienfpaadoor", sum := "e852ca0c4b767e0f73e41ec37234bb70660cec6abf31cd6346109702167f62a2", func := "loop.example/wholeway/laws.FnStmtCount", spec := "fnStmtCount", unfollowed := true, recurses := true, named := ["loop.example/wholeway/impl.keyTable", "loop.example/wholeway/impl.byteKinds", "loop.example/wholeway/impl.stmtForms", "loop.example/wholeway/impl.signedOps"], apart := false, laid := [("loop.example/wholeway/impl.byteKinds", laid_loop_example_wholeway_impl_byteKinds), ("loop.example/wholeway/impl.keyTable", laid_loop_example_wholeway_impl_keyTable), ("loop.example/wholeway/impl.signedOps", laid_loop_example_wholeway_impl_signedOps), ("loop.example/wholeway/impl.stmtForms", laid_loop_example_wholeway_impl_stmtForms)] }
def FnStmtCountSaid : Prop := fnStmtCountRow.holds Tryd.pinned (OpenSpec.ofChange fnStmtCountSpec)

/-- ITS FALSE NEIGHBOUR: 'it returns false'. Refute it at one input. -/
def fnStmtCountWrong : ChangeSpec := { name := "fnStmtCount", vars := ["loop.example/wholeway/impl.keyTable", "loop.example/wholeway/impl.byteKinds", "loop.example/wholeway/impl.stmtForms", "loop.example/wholeway/impl.signedOps"], fn := fun _ => fun
  | [d, g1, g2, g3, g4] => { results := [.lit (.bool false)], args := [d], vars := [g1, g2, g3, g4] }
  | _ => none }
def FnStmtCountWrongFalsely : Prop := fnStmtCountRow.holds Tryd.pinned (OpenSpec.ofChange fnStmtCountWrong)

/-- 'laws.FnFnAt': WHATEVER THE INPUT: true; the input reads as it did. -/
def fnFnAtSpec : ChangeSpec := { name := "fnFnAt", vars := ["loop.example/wholeway/impl.keyTable", "loop.example/wholeway/impl.byteKinds", "loop.example/wholeway/impl.stmtForms", "loop.example/wholeway/impl.signedOps"], fn := fun _ => fun
  | [d1, d2, g1, g2, g3, g4] => { results := [.lit (.bool true)], args := [d1, d2], vars := [g1, g2, g3, g4] }
  | _ => none }
def fnFnAtRow : OpenClaim := { program := "ytkgfamagienfpaadoor", sum := "e852ca0c4b767e0f73e41ec37234bb70660cec6abf31cd6346109702167f62a2", func := "loop.example/wholeway/laws.FnFnAt", spec := "fnFnAt", unfollowed := true, recurses := true, named := ["loop.example/wholeway/impl.keyTable", "loop.example/wholeway/impl.byteKinds", "loop.example/wholeway/impl.stmtForms", "loop.example/wholeway/impl.signedOps"], apart := false, laid := [("loop.example/wholeway/impl.byteKinds", laid_loop_example_wholeway_impl_byteKinds), ("loop.example/wholeway/impl.keyTable", laid_loop_example_wholeway_impl_keyTable), ("loop.example/wholeway/impl.signedOps", laid_loop_example_wholeway_impl_signedOps), ("loop.example/wholeway/impl.stmtForms", laid_loop_example_wholeway_impl_stmtForms)] }
def FnFnAtSaid : Prop := fnFnAtRow.holds Tryd.pinned (OpenSpec.ofChange fnFnAtSpec)

/-- ITS FALSE NEIGHBOUR: 'it returns false'. Refute it at one input. -/
def fnFnAtWrong : ChangeSpec := { name := "fnFnAt", vars := ["loop.example/wholeway/impl.keyTable", "loop.example/wholeway/impl.byteKinds", "loop.example/wholeway/impl.stmtForms", "loop.example/wholeway/impl.signedOps"], fn := fun _ => fun
  | [d1, d2, g1, g2, g3, g4] => { results := [.lit (.bool false)], args := [d1, d2], vars := [g1, g2, g3, g4] }
  | _ => none }
def FnFnAtWrongFalsely : Prop := fnFnAtRow.holds Tryd.pinned (OpenSpec.ofChange fnFnAtWrong)

/- THE SECOND FORM. 'bulk': how many values and letters a reading holds, each counted each time it is reached (what is shared counts as often as it is met; a slice's spare places count too). A statement '..UptoSaid' is the law's where the arguments, and the package variables that the reading takes, are together of bulk at most 1048576: NARROWER than '..Said'. Prove '..Said' where nothing that the law and all that it calls make is longer than what came in: it says more and counts as full. Else prove '..UptoSaid'. A law counts once. -/
mutual
def uptoBulk {H : Type} : DataW H → Nat
  | .lit (.string bytes) => bytes.length + 1
  | .lit _ => 1
  | .nil => 1
  | .ptr d => uptoBulk d + 1
  | .slice elems spare => uptoBulkAll elems + uptoBulkAll spare + 1
  | .agg parts => uptoBulkAll parts + 1
  | .iface _ d => uptoBulk d + 1
  | .map entries => uptoBulkEntries entries + 1
  | .held _ => 1
def uptoBulkAll {H : Type} : List (DataW H) → Nat
  | [] => 0
  | d :: r => uptoBulk d + uptoBulkAll r
def uptoBulkEntries {H : Type} : List (Lit × DataW H) → Nat
  | [] => 0
  | x :: r => uptoBulkEntry x + uptoBulkEntries r
def uptoBulkEntry {H : Type} : Lit × DataW H → Nat
  | (.string bytes, d) => bytes.length + uptoBulk d + 1
  | (_, d) => uptoBulk d + 1
 end
def uptoSmall : (H : Type) → List (DataW H) → Bool := fun _ ds => decide (uptoBulkAll ds ≤ 1048576)
def OpenSpec.upto (s : _root_.Go.ChangeSpec) : _root_.Go.OpenSpec := { _root_.Go.OpenSpec.ofChange s with cond := some uptoSmall }

/-- 'laws.FnExactStmtValid', WHERE WHAT IT READS IS OF BULK AT MOST 1048576: true; the input reads as it did. -/
def fnExactStmtValidUptoRow : OpenClaim := { program := "ytkgfamagienfpaadoor", sum := "e852ca0c4b767e0f73e41ec37234bb70660cec6abf31cd6346109702167f62a2", func := "loop.example/wholeway/laws.FnExactStmtValid", spec := "fnExactStmtValid", unfollowed := true, recurses := true, named := ["loop.example/wholeway/impl.stmtForms", "loop.example/wholeway/impl.keyTable", "loop.example/wholeway/impl.byteKinds", "loop.example/wholeway/impl.signedOps"], loops := true, apart := false, laid := [("loop.example/wholeway/impl.byteKinds", laid_loop_example_wholeway_impl_byteKinds), ("loop.example/wholeway/impl.keyTable", laid_loop_example_wholeway_impl_keyTable), ("loop.example/wholeway/impl.signedOps", laid_loop_example_wholeway_impl_signedOps), ("loop.example/wholeway/impl.stmtForms", laid_loop_example_wholeway_impl_stmtForms)], narrowed := true }
def FnExactStmtValidUptoSaid : Prop := fnExactStmtValidUptoRow.holds Tryd.pinned (OpenSpec.upto fnExactStmtValidSpec)

/-- 'laws.FnExactProgramValid', WHERE WHAT IT READS IS OF BULK AT MOST 1048576: true; the input reads as it did. -/
def fnExactProgramValidUptoRow : OpenClaim := { program := "ytkgfamagienfpaadoor", sum := "e852ca0c4b767e0f73e41ec37234bb70660cec6abf31cd6346109702167f62a2", func := "loop.example/wholeway/laws.FnExactProgramValid", spec := "fnExactProgramValid", unfollowed := true, recurses := true, named := ["loop.example/wholeway/impl.keyTable", "loop.example/wholeway/impl.byteKinds", "loop.example/wholeway/impl.stmtForms", "loop.example/wholeway/impl.signedOps"], loops := true, apart := false, laid := [("loop.example/wholeway/impl.byteKinds", laid_loop_example_wholeway_impl_byteKinds), ("loop.example/wholeway/impl.keyTable", laid_loop_example_wholeway_impl_keyTable), ("loop.example/wholeway/impl.signedOps", laid_loop_example_wholeway_impl_signedOps), ("loop.example/wholeway/impl.stmtForms", laid_loop_example_wholeway_impl_stmtForms)], narrowed := true }
def FnExactProgramValidUptoSaid : Prop := fnExactProgramValidUptoRow.holds Tryd.pinned (OpenSpec.upto fnExactProgramValidSpec)

/-- 'laws.FnExactStmtCount', WHERE WHAT IT READS IS OF BULK AT MOST 1048576: true; the input reads as it did. -/
def fnExactStmtCountUptoRow : OpenClaim := { program := "ytkgfamagienfpaadoor", sum := "e852ca0c4b767e0f73e41ec37234bb70660cec6abf31cd6346109702167f62a2", func := "loop.example/wholeway/laws.FnExactStmtCount", spec := "fnExactStmtCount", unfollowed := true, recurses := true, named := ["loop.example/wholeway/impl.keyTable", "loop.example/wholeway/impl.byteKinds", "loop.example/wholeway/impl.stmtForms", "loop.example/wholeway/impl.signedOps"], loops := true, apart := false, laid := [("loop.example/wholeway/impl.byteKinds", laid_loop_example_wholeway_impl_byteKinds), ("loop.example/wholeway/impl.keyTable", laid_loop_example_wholeway_impl_keyTable), ("loop.example/wholeway/impl.signedOps", laid_loop_example_wholeway_impl_signedOps), ("loop.example/wholeway/impl.stmtForms", laid_loop_example_wholeway_impl_stmtForms)], narrowed := true }
def FnExactStmtCountUptoSaid : Prop := fnExactStmtCountUptoRow.holds Tryd.pinned (OpenSpec.upto fnExactStmtCountSpec)

/-- 'laws.FnExactNestOf', WHERE WHAT IT READS IS OF BULK AT MOST 1048576: true; the input reads as it did. -/
def fnExactNestOfUptoRow : OpenClaim := { program := "ytkgfamagienfpaadoor", sum := "e852ca0c4b767e0f73e41ec37234bb70660cec6abf31cd6346109702167f62a2", func := "loop.example/wholeway/laws.FnExactNestOf", spec := "fnExactNestOf", unfollowed := true, recurses := true, named := ["loop.example/wholeway/impl.keyTable", "loop.example/wholeway/impl.byteKinds", "loop.example/wholeway/impl.stmtForms", "loop.example/wholeway/impl.signedOps"], loops := true, apart := false, laid := [("loop.example/wholeway/impl.byteKinds", laid_loop_example_wholeway_impl_byteKinds), ("loop.example/wholeway/impl.keyTable", laid_loop_example_wholeway_impl_keyTable), ("loop.example/wholeway/impl.signedOps", laid_loop_example_wholeway_impl_signedOps), ("loop.example/wholeway/impl.stmtForms", laid_loop_example_wholeway_impl_stmtForms)], narrowed := true }
def FnExactNestOfUptoSaid : Prop := fnExactNestOfUptoRow.holds Tryd.pinned (OpenSpec.upto fnExactNestOfSpec)

/-- 'laws.FnStmtForm', WHERE WHAT IT READS IS OF BULK AT MOST 1048576: true; the input reads as it did. -/
def fnStmtFormUptoRow : OpenClaim := { program := "ytkgfamagienfpaadoor", sum := "e852ca0c4b767e0f73e41ec37234bb70660cec6abf31cd6346109702167f62a2", func := "loop.example/wholeway/laws.FnStmtForm", spec := "fnStmtForm", unfollowed := true, recurses := true, named := ["loop.example/wholeway/impl.stmtForms", "loop.example/wholeway/impl.keyTable", "loop.example/wholeway/impl.byteKinds", "loop.example/wholeway/impl.signedOps"], apart := false, laid := [("loop.example/wholeway/impl.byteKinds", laid_loop_example_wholeway_impl_byteKinds), ("loop.example/wholeway/impl.keyTable", laid_loop_example_wholeway_impl_keyTable), ("loop.example/wholeway/impl.signedOps", laid_loop_example_wholeway_impl_signedOps), ("loop.example/wholeway/impl.stmtForms", laid_loop_example_wholeway_impl_stmtForms)], narrowed := true }
def FnStmtFormUptoSaid : Prop := fnStmtFormUptoRow.holds Tryd.pinned (OpenSpec.upto fnStmtFormSpec)

/-- 'laws.FnStmtCount', WHERE WHAT IT READS IS OF BULK AT MOST 1048576: true; the input reads as it did. -/
def fnStmtCountUptoRow : OpenClaim := { program := "ytkgfamagienfpaadoor", sum := "e852ca0c4b767e0f73e41ec37234bb70660cec6abf31cd6346109702167f62a2", func := "loop.example/wholeway/laws.FnStmtCount", spec := "fnStmtCount", unfollowed := true, recurses := true, named := ["loop.example/wholeway/impl.keyTable", "loop.example/wholeway/impl.byteKinds", "loop.example/wholeway/impl.stmtForms", "loop.example/wholeway/impl.signedOps"], apart := false, laid := [("loop.example/wholeway/impl.byteKinds", laid_loop_example_wholeway_impl_byteKinds), ("loop.example/wholeway/impl.keyTable", laid_loop_example_wholeway_impl_keyTable), ("loop.example/wholeway/impl.signedOps", laid_loop_example_wholeway_impl_signedOps), ("loop.example/wholeway/impl.stmtForms", laid_loop_example_wholeway_impl_stmtForms)], narrowed := true }
def FnStmtCountUptoSaid : Prop := fnStmtCountUptoRow.holds Tryd.pinned (OpenSpec.upto fnStmtCountSpec)

/-- 'laws.FnFnAt', WHERE WHAT IT READS IS OF BULK AT MOST 1048576: true; the input reads as it did. -/
def fnFnAtUptoRow : OpenClaim := { program := "ytkgfamagienfpaadoor", sum := "e852ca0c4b767e0f73e41ec37234bb70660cec6abf31cd6346109702167f62a2", func := "loop.example/wholeway/laws.FnFnAt", spec := "fnFnAt", unfollowed := true, recurses := true, named := ["loop.example/wholeway/impl.keyTable", "loop.example/wholeway/impl.byteKinds", "loop.example/wholeway/impl.stmtForms", "loop.example/wholeway/impl.signedOps"], apart := false, laid := [("loop.example/wholeway/impl.byteKinds", laid_loop_example_wholeway_impl_byteKinds), ("loop.example/wholeway/impl.keyTable", laid_loop_example_wholeway_impl_keyTable), ("loop.example/wholeway/impl.signedOps", laid_loop_example_wholeway_impl_signedOps), ("loop.example/wholeway/impl.stmtForms", laid_loop_example_wholeway_impl_stmtForms)], narrowed := true }
def FnFnAtUptoSaid : Prop := fnFnAtUptoRow.holds Tryd.pinned (OpenSpec.upto fnFnAtSpec)

end Rows
end Go.Proofs.YtkgfamagienfpaaDoor
