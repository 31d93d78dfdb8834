/-
  NARROWER THAN 'FOR EVERY INPUT', by the rows' own cells (each row's printed sentence says how): FnCount: laid · FnTight: laid · FnStmtCount: laid · FnStmtForm: laid · FnFnAt: laid.
  DERIVED. THE GIVEN ROWS OF THIS SEAT. 5 by the template 'for every input the law returns true; each argument reads behind the call as it read before'; 0 by the template 'total and deterministic' (their statements: YtljoipgpkmdjbaaDoorTotals.lean).
  GIVEN WITH THE SEED: the statements are not yours to turn. If you find one false, say at which input.
  Laid BY PROGRAM, IN A SANDBOX (cutbox-rows.mjs): the forced cells as the released guide's own fill.sh prints them over the translation 07e0c59559ba18e0… (all of the seat's roots in one cut). By AI agents, Wed Nov 11 2026. No macro, syntax, notation, axiom, sorry.
-/
import Derived.Test.YtljoipgpkmdjbaaDoorChecked
import GoSem.Claim
import GoSem.ClaimJoined
import GoSem.ClaimMapViews
import Derived.JoinedTies
import Derived.KernelRfl
namespace Go.Proofs.YtljoipgpkmdjbaaDoor
/- THE CELL 'sum', in the pinned program and in every row, IS THE sha256 OF THE DUMP (.gsa) THAT YtljoipgpkmdjbaaDoorProg.lean LOADS. Nothing in Lean hashes anything: it is a label: what it is worth is what the hold of that sum in a sandbox is worth. -/
noncomputable def Tryd.pinned : Pinned := { name := "ytljoipgpkmdjbaadoor", sum := "07e0c59559ba18e01f92218d86c2be2c6566220d18b46d7b7d7386a93d74e8f9", checked := Tryd.checked }
namespace Rows
def none {H : Type} : Left H := { results := [], args := [] }

/- WHAT THE LISTED PACKAGE-LEVEL VARIABLES READ AS WHEN THE CALL BEGINS. Each datum BY PROGRAM (the guide's laid-datum.mjs) off the statement by which the dump's own 'gosem.cut.vars' lays the variable. In a bare row this is a premise. The card (YtljoipgpkmdjbaaDoorCards.lean) ties it to the program's text. -/
def laid_math_bits_deBruijn32tab {H : Type} : DataW H := .agg [.lit (.int .u8 0), .lit (.int .u8 1), .lit (.int .u8 28), .lit (.int .u8 2), .lit (.int .u8 29), .lit (.int .u8 14), .lit (.int .u8 24), .lit (.int .u8 3), .lit (.int .u8 30), .lit (.int .u8 22), .lit (.int .u8 20), .lit (.int .u8 15), .lit (.int .u8 25), .lit (.int .u8 17), .lit (.int .u8 4), .lit (.int .u8 8), .lit (.int .u8 31), .lit (.int .u8 27), .lit (.int .u8 13), .lit (.int .u8 23), .lit (.int .u8 21), .lit (.int .u8 19), .lit (.int .u8 16), .lit (.int .u8 7), .lit (.int .u8 26), .lit (.int .u8 12), .lit (.int .u8 18), .lit (.int .u8 6), .lit (.int .u8 11), .lit (.int .u8 5), .lit (.int .u8 10), .lit (.int .u8 9)]
def laid_math_bits_deBruijn64tab {H : Type} : DataW H := .agg [.lit (.int .u8 0), .lit (.int .u8 1), .lit (.int .u8 56), .lit (.int .u8 2), .lit (.int .u8 57), .lit (.int .u8 49), .lit (.int .u8 28), .lit (.int .u8 3), .lit (.int .u8 61), .lit (.int .u8 58), .lit (.int .u8 42), .lit (.int .u8 50), .lit (.int .u8 38), .lit (.int .u8 29), .lit (.int .u8 17), .lit (.int .u8 4), .lit (.int .u8 62), .lit (.int .u8 47), .lit (.int .u8 59), .lit (.int .u8 36), .lit (.int .u8 45), .lit (.int .u8 43), .lit (.int .u8 51), .lit (.int .u8 22), .lit (.int .u8 53), .lit (.int .u8 39), .lit (.int .u8 33), .lit (.int .u8 30), .lit (.int .u8 24), .lit (.int .u8 18), .lit (.int .u8 12), .lit (.int .u8 5), .lit (.int .u8 63), .lit (.int .u8 55), .lit (.int .u8 48), .lit (.int .u8 27), .lit (.int .u8 60), .lit (.int .u8 41), .lit (.int .u8 37), .lit (.int .u8 16), .lit (.int .u8 46), .lit (.int .u8 35), .lit (.int .u8 44), .lit (.int .u8 21), .lit (.int .u8 52), .lit (.int .u8 32), .lit (.int .u8 23), .lit (.int .u8 11), .lit (.int .u8 54), .lit (.int .u8 26), .lit (.int .u8 40), .lit (.int .u8 15), .lit (.int .u8 34), .lit (.int .u8 20), .lit (.int .u8 31), .lit (.int .u8 10), .lit (.int .u8 25), .lit (.int .u8 14), .lit (.int .u8 19), .lit (.int .u8 9), .lit (.int .u8 13), .lit (.int .u8 8), .lit (.int .u8 7), .lit (.int .u8 6)]
def laid_internal_strconv_uint64pow10 {H : Type} : DataW H := .agg [.lit (.int .u64 1), .lit (.int .u64 10), .lit (.int .u64 100), .lit (.int .u64 1000), .lit (.int .u64 10000), .lit (.int .u64 100000), .lit (.int .u64 1000000), .lit (.int .u64 10000000), .lit (.int .u64 100000000), .lit (.int .u64 1000000000), .lit (.int .u64 10000000000), .lit (.int .u64 100000000000), .lit (.int .u64 1000000000000), .lit (.int .u64 10000000000000), .lit (.int .u64 100000000000000), .lit (.int .u64 1000000000000000), .lit (.int .u64 10000000000000000), .lit (.int .u64 100000000000000000), .lit (.int .u64 1000000000000000000), .lit (.int .u64 10000000000000000000)]
def laid_strconv_ErrRange {H : Type} : DataW H := .iface "*errors.errorString" (.ptr (.agg [.lit (.string [118, 97, 108, 117, 101, 32, 111, 117, 116, 32, 111, 102, 32, 114, 97, 110, 103, 101])]))
def laid_strconv_ErrSyntax {H : Type} : DataW H := .iface "*errors.errorString" (.ptr (.agg [.lit (.string [105, 110, 118, 97, 108, 105, 100, 32, 115, 121, 110, 116, 97, 120])]))
def laid_loop_example_wholeway_impl_byteKinds {H : Type} : DataW H := .agg [.lit (.int .i64 0), .lit (.int .i64 0), .lit (.int .i64 0), .lit (.int .i64 0), .lit (.int .i64 0), .lit (.int .i64 0), .lit (.int .i64 0), .lit (.int .i64 0), .lit (.int .i64 0), .lit (.int .i64 0), .lit (.int .i64 5), .lit (.int .i64 0), .lit (.int .i64 0), .lit (.int .i64 0), .lit (.int .i64 0), .lit (.int .i64 0), .lit (.int .i64 0), .lit (.int .i64 0), .lit (.int .i64 0), .lit (.int .i64 0), .lit (.int .i64 0), .lit (.int .i64 0), .lit (.int .i64 0), .lit (.int .i64 0), .lit (.int .i64 0), .lit (.int .i64 0), .lit (.int .i64 0), .lit (.int .i64 0), .lit (.int .i64 0), .lit (.int .i64 0), .lit (.int .i64 0), .lit (.int .i64 0), .lit (.int .i64 5), .lit (.int .i64 3), .lit (.int .i64 0), .lit (.int .i64 0), .lit (.int .i64 0), .lit (.int .i64 3), .lit (.int .i64 3), .lit (.int .i64 0), .lit (.int .i64 3), .lit (.int .i64 3), .lit (.int .i64 3), .lit (.int .i64 3), .lit (.int .i64 3), .lit (.int .i64 3), .lit (.int .i64 0), .lit (.int .i64 3), .lit (.int .i64 2), .lit (.int .i64 2), .lit (.int .i64 2), .lit (.int .i64 2), .lit (.int .i64 2), .lit (.int .i64 2), .lit (.int .i64 2), .lit (.int .i64 2), .lit (.int .i64 2), .lit (.int .i64 2), .lit (.int .i64 0), .lit (.int .i64 3), .lit (.int .i64 3), .lit (.int .i64 3), .lit (.int .i64 0), .lit (.int .i64 0), .lit (.int .i64 3), .lit (.int .i64 0), .lit (.int .i64 0), .lit (.int .i64 0), .lit (.int .i64 0), .lit (.int .i64 0), .lit (.int .i64 0), .lit (.int .i64 0), .lit (.int .i64 0), .lit (.int .i64 0), .lit (.int .i64 0), .lit (.int .i64 0), .lit (.int .i64 0), .lit (.int .i64 0), .lit (.int .i64 0), .lit (.int .i64 0), .lit (.int .i64 0), .lit (.int .i64 0), .lit (.int .i64 0), .lit (.int .i64 0), .lit (.int .i64 0), .lit (.int .i64 0), .lit (.int .i64 0), .lit (.int .i64 0), .lit (.int .i64 0), .lit (.int .i64 0), .lit (.int .i64 0), .lit (.int .i64 0), .lit (.int .i64 0), .lit (.int .i64 0), .lit (.int .i64 0), .lit (.int .i64 0), .lit (.int .i64 0), .lit (.int .i64 1), .lit (.int .i64 1), .lit (.int .i64 1), .lit (.int .i64 1), .lit (.int .i64 1), .lit (.int .i64 1), .lit (.int .i64 1), .lit (.int .i64 1), .lit (.int .i64 1), .lit (.int .i64 1), .lit (.int .i64 1), .lit (.int .i64 1), .lit (.int .i64 1), .lit (.int .i64 1), .lit (.int .i64 1), .lit (.int .i64 1), .lit (.int .i64 1), .lit (.int .i64 1), .lit (.int .i64 1), .lit (.int .i64 1), .lit (.int .i64 1), .lit (.int .i64 1), .lit (.int .i64 1), .lit (.int .i64 1), .lit (.int .i64 1), .lit (.int .i64 1), .lit (.int .i64 3), .lit (.int .i64 0), .lit (.int .i64 3), .lit (.int .i64 0), .lit (.int .i64 0)]
def laid_loop_example_wholeway_impl_keyTable {H : Type} : DataW H := .agg [.lit (.string [102, 110]), .lit (.string [108, 101, 116]), .lit (.string [115, 97, 121]), .lit (.string [112, 117, 116]), .lit (.string [105, 102]), .lit (.string [101, 108, 115, 101]), .lit (.string [108, 111, 111, 112]), .lit (.string [98, 97, 99, 107]), .lit (.string [100, 111])]
def laid_loop_example_wholeway_impl_signedOps {H : Type} : DataW H := .agg [.agg [.lit (.int .i64 3), .lit (.string [43]), .lit (.int .i64 3)], .agg [.lit (.int .i64 4), .lit (.string [45]), .lit (.int .i64 3)], .agg [.lit (.int .i64 5), .lit (.string [42]), .lit (.int .i64 4)], .agg [.lit (.int .i64 6), .lit (.string [47]), .lit (.int .i64 4)], .agg [.lit (.int .i64 7), .lit (.string [37]), .lit (.int .i64 4)], .agg [.lit (.int .i64 8), .lit (.string [60]), .lit (.int .i64 2)], .agg [.lit (.int .i64 9), .lit (.string [61]), .lit (.int .i64 2)], .agg [.lit (.int .i64 10), .lit (.string [38]), .lit (.int .i64 1)], .agg [.lit (.int .i64 11), .lit (.string [33]), .lit (.int .i64 5)], .agg [.lit (.int .i64 12), .lit (.string [64]), .lit (.int .i64 5)]]
def laid_loop_example_wholeway_impl_stmtForms {H : Type} : DataW H := .agg [.agg [.lit (.int .i64 1), .lit (.string [108, 101, 116]), .lit (.bool true), .lit (.int .i64 1), .lit (.bool false), .lit (.bool false), .lit (.bool false)], .agg [.lit (.int .i64 2), .lit (.string []), .lit (.bool true), .lit (.int .i64 1), .lit (.bool false), .lit (.bool false), .lit (.bool false)], .agg [.lit (.int .i64 3), .lit (.string [115, 97, 121]), .lit (.bool false), .lit (.int .i64 1), .lit (.bool false), .lit (.bool false), .lit (.bool false)], .agg [.lit (.int .i64 4), .lit (.string [112, 117, 116]), .lit (.bool false), .lit (.int .i64 2), .lit (.bool false), .lit (.bool false), .lit (.bool false)], .agg [.lit (.int .i64 5), .lit (.string [105, 102]), .lit (.bool false), .lit (.int .i64 1), .lit (.bool false), .lit (.bool true), .lit (.bool true)], .agg [.lit (.int .i64 6), .lit (.string [108, 111, 111, 112]), .lit (.bool false), .lit (.int .i64 1), .lit (.bool false), .lit (.bool true), .lit (.bool false)], .agg [.lit (.int .i64 7), .lit (.string [98, 97, 99, 107]), .lit (.bool false), .lit (.int .i64 1), .lit (.bool false), .lit (.bool false), .lit (.bool false)], .agg [.lit (.int .i64 8), .lit (.string [100, 111]), .lit (.bool false), .lit (.int .i64 1), .lit (.bool true), .lit (.bool false), .lit (.bool false)]]

/-- 'laws.FnCount': WHATEVER THE INPUT: true; the input reads as it did. -/
def fnCountSpec : ChangeSpec := { name := "fnCount", vars := ["loop.example/wholeway/impl.keyTable", "loop.example/wholeway/impl.byteKinds"], fn := fun _ => fun
  | [d1, d2, g1, g2] => { results := [.lit (.bool true)], args := [d1, d2], vars := [g1, g2] }
  | _ => none }
def fnCountRow : OpenClaim := { program := "ytljoipgpkmdjbaadoor", sum := "07e0c59559ba18e01f92218d86c2be2c6566220d18b46d7b7d7386a93d74e8f9", func := "loop.example/wholeway/laws.FnCount", spec := "fnCount", recurses := true, named := ["loop.example/wholeway/impl.keyTable", "loop.example/wholeway/impl.byteKinds", "strconv.ErrSyntax", "strconv.ErrRange", "internal/strconv.uint64pow10", "math/bits.deBruijn32tab", "math/bits.deBruijn64tab"], apart := false, laid := [("math/bits.deBruijn32tab", laid_math_bits_deBruijn32tab), ("math/bits.deBruijn64tab", laid_math_bits_deBruijn64tab), ("internal/strconv.uint64pow10", laid_internal_strconv_uint64pow10), ("strconv.ErrRange", laid_strconv_ErrRange), ("strconv.ErrSyntax", laid_strconv_ErrSyntax), ("loop.example/wholeway/impl.byteKinds", laid_loop_example_wholeway_impl_byteKinds), ("loop.example/wholeway/impl.keyTable", laid_loop_example_wholeway_impl_keyTable)] }
def FnCountSaid : Prop := fnCountRow.holds Tryd.pinned (OpenSpec.ofChange fnCountSpec)

/-- ITS FALSE NEIGHBOUR: 'it returns false'. Refute it at one input. -/
def fnCountWrong : ChangeSpec := { name := "fnCount", vars := ["loop.example/wholeway/impl.keyTable", "loop.example/wholeway/impl.byteKinds"], fn := fun _ => fun
  | [d1, d2, g1, g2] => { results := [.lit (.bool false)], args := [d1, d2], vars := [g1, g2] }
  | _ => none }
def FnCountWrongFalsely : Prop := fnCountRow.holds Tryd.pinned (OpenSpec.ofChange fnCountWrong)

/-- 'laws.FnTight': WHATEVER THE INPUT: true; the input reads as it did. -/
def fnTightSpec : ChangeSpec := { name := "fnTight", vars := ["loop.example/wholeway/impl.keyTable", "loop.example/wholeway/impl.byteKinds"], fn := fun _ => fun
  | [d, g1, g2] => { results := [.lit (.bool true)], args := [d], vars := [g1, g2] }
  | _ => none }
def fnTightRow : OpenClaim := { program := "ytljoipgpkmdjbaadoor", sum := "07e0c59559ba18e01f92218d86c2be2c6566220d18b46d7b7d7386a93d74e8f9", func := "loop.example/wholeway/laws.FnTight", spec := "fnTight", inPlace := ["internal/abi.NoEscape", "internal/bytealg.MakeNoZero"], unfollowed := true, recurses := true, named := ["loop.example/wholeway/impl.keyTable", "loop.example/wholeway/impl.byteKinds", "strconv.ErrSyntax", "strconv.ErrRange", "internal/strconv.uint64pow10", "math/bits.deBruijn32tab", "math/bits.deBruijn64tab"], apart := false, laid := [("math/bits.deBruijn32tab", laid_math_bits_deBruijn32tab), ("math/bits.deBruijn64tab", laid_math_bits_deBruijn64tab), ("internal/strconv.uint64pow10", laid_internal_strconv_uint64pow10), ("strconv.ErrRange", laid_strconv_ErrRange), ("strconv.ErrSyntax", laid_strconv_ErrSyntax), ("loop.example/wholeway/impl.byteKinds", laid_loop_example_wholeway_impl_byteKinds), ("loop.example/wholeway/impl.keyTable", laid_loop_example_wholeway_impl_keyTable)] }
def FnTightSaid : Prop := fnTightRow.holds Tryd.pinned (OpenSpec.ofChange fnTightSpec)

/-- ITS FALSE NEIGHBOUR: 'it returns false'. Refute it at one input. -/
def fnTightWrong : ChangeSpec := { name := "fnTight", vars := ["loop.example/wholeway/impl.keyTable", "loop.example/wholeway/impl.byteKinds"], fn := fun _ => fun
  | [d, g1, g2] => { results := [.lit (.bool false)], args := [d], vars := [g1, g2] }
  | _ => none }
def FnTightWrongFalsely : Prop := fnTightRow.holds Tryd.pinned (OpenSpec.ofChange fnTightWrong)

/-- 'laws.FnStmtCount': WHATEVER THE INPUT: true; the input reads as it did. -/
def fnStmtCountSpec : ChangeSpec := { name := "fnStmtCount", vars := ["loop.example/wholeway/impl.keyTable", "loop.example/wholeway/impl.byteKinds", "loop.example/wholeway/impl.stmtForms", "loop.example/wholeway/impl.signedOps"], fn := fun _ => fun
  | [d, g1, g2, g3, g4] => { results := [.lit (.bool true)], args := [d], vars := [g1, g2, g3, g4] }
  | _ => none }
def fnStmtCountRow : OpenClaim := { program := "ytljoipgpkmdjbaadoor", sum := "07e0c59559ba18e01f92218d86c2be2c6566220d18b46d7b7d7386a93d74e8f9", func := "loop.example/wholeway/laws.FnStmtCount", spec := "fnStmtCount", unfollowed := true, recurses := true, named := ["loop.example/wholeway/impl.keyTable", "loop.example/wholeway/impl.byteKinds", "loop.example/wholeway/impl.stmtForms", "loop.example/wholeway/impl.signedOps"], apart := false, laid := [("loop.example/wholeway/impl.byteKinds", laid_loop_example_wholeway_impl_byteKinds), ("loop.example/wholeway/impl.keyTable", laid_loop_example_wholeway_impl_keyTable), ("loop.example/wholeway/impl.signedOps", laid_loop_example_wholeway_impl_signedOps), ("loop.example/wholeway/impl.stmtForms", laid_loop_example_wholeway_impl_stmtForms)] }
def FnStmtCountSaid : Prop := fnStmtCountRow.holds Tryd.pinned (OpenSpec.ofChange fnStmtCountSpec)

/-- ITS FALSE NEIGHBOUR: 'it returns false'. Refute it at one input. -/
def fnStmtCountWrong : ChangeSpec := { name := "fnStmtCount", vars := ["loop.example/wholeway/impl.keyTable", "loop.example/wholeway/impl.byteKinds", "loop.example/wholeway/impl.stmtForms", "loop.example/wholeway/impl.signedOps"], fn := fun _ => fun
  | [d, g1, g2, g3, g4] => { results := [.lit (.bool false)], args := [d], vars := [g1, g2, g3, g4] }
  | _ => none }
def FnStmtCountWrongFalsely : Prop := fnStmtCountRow.holds Tryd.pinned (OpenSpec.ofChange fnStmtCountWrong)

/-- 'laws.FnStmtForm': WHATEVER THE INPUT: true; the input reads as it did. -/
def fnStmtFormSpec : ChangeSpec := { name := "fnStmtForm", vars := ["loop.example/wholeway/impl.stmtForms", "loop.example/wholeway/impl.keyTable", "loop.example/wholeway/impl.byteKinds", "loop.example/wholeway/impl.signedOps"], fn := fun _ => fun
  | [d, g1, g2, g3, g4] => { results := [.lit (.bool true)], args := [d], vars := [g1, g2, g3, g4] }
  | _ => none }
def fnStmtFormRow : OpenClaim := { program := "ytljoipgpkmdjbaadoor", sum := "07e0c59559ba18e01f92218d86c2be2c6566220d18b46d7b7d7386a93d74e8f9", func := "loop.example/wholeway/laws.FnStmtForm", spec := "fnStmtForm", unfollowed := true, recurses := true, named := ["loop.example/wholeway/impl.stmtForms", "loop.example/wholeway/impl.keyTable", "loop.example/wholeway/impl.byteKinds", "loop.example/wholeway/impl.signedOps"], apart := false, laid := [("loop.example/wholeway/impl.byteKinds", laid_loop_example_wholeway_impl_byteKinds), ("loop.example/wholeway/impl.keyTable", laid_loop_example_wholeway_impl_keyTable), ("loop.example/wholeway/impl.signedOps", laid_loop_example_wholeway_impl_signedOps), ("loop.example/wholeway/impl.stmtForms", laid_loop_example_wholeway_impl_stmtForms)] }
def FnStmtFormSaid : Prop := fnStmtFormRow.holds Tryd.pinned (OpenSpec.ofChange fnStmtFormSpec)

/-- ITS FALSE NEIGHBOUR: 'it returns false'. Refute it at one input. -/
def fnStmtFormWrong : ChangeSpec := { name := "fnStmtForm", vars := ["loop.example/wholeway/impl.stmtForms", "loop.example/wholeway/impl.keyTable", "loop.example/wholeway/impl.byteKinds", "loop.example/wholeway/impl.signedOps"], fn := fun _ => fun
  | [d, g1, g2, g3, g4] => { results := [.lit (.bool false)], args := [d], vars := [g1, g2, g3, g4] }
  | _ => none }
def FnStmtFormWrongFalsely : Prop := fnStmtFormRow.holds Tryd.pinned (OpenSpec.ofChange fnStmtFormWrong)

/-- 'laws.FnFnAt': WHATEVER THE INPUT: true; the input reads as it did. -/
def fnFnAtSpec : ChangeSpec := { name := "fnFnAt", vars := ["loop.example/wholeway/impl.keyTable", "loop.example/wholeway/impl.byteKinds", "loop.example/wholeway/impl.stmtForms", "loop.example/wholeway/impl.signedOps"], fn := fun _ => fun
  | [d1, d2, g1, g2, g3, g4] => { results := [.lit (.bool true)], args := [d1, d2], vars := [g1, g2, g3, g4] }
  | _ => none }
def fnFnAtRow : OpenClaim := { program := "ytljoipgpkmdjbaadoor", sum := "07e0c59559ba18e01f92218d86c2be2c6566220d18b46d7b7d7386a93d74e8f9", func := "loop.example/wholeway/laws.FnFnAt", spec := "fnFnAt", unfollowed := true, recurses := true, named := ["loop.example/wholeway/impl.keyTable", "loop.example/wholeway/impl.byteKinds", "loop.example/wholeway/impl.stmtForms", "loop.example/wholeway/impl.signedOps"], apart := false, laid := [("loop.example/wholeway/impl.byteKinds", laid_loop_example_wholeway_impl_byteKinds), ("loop.example/wholeway/impl.keyTable", laid_loop_example_wholeway_impl_keyTable), ("loop.example/wholeway/impl.signedOps", laid_loop_example_wholeway_impl_signedOps), ("loop.example/wholeway/impl.stmtForms", laid_loop_example_wholeway_impl_stmtForms)] }
def FnFnAtSaid : Prop := fnFnAtRow.holds Tryd.pinned (OpenSpec.ofChange fnFnAtSpec)

/-- ITS FALSE NEIGHBOUR: 'it returns false'. Refute it at one input. -/
def fnFnAtWrong : ChangeSpec := { name := "fnFnAt", vars := ["loop.example/wholeway/impl.keyTable", "loop.example/wholeway/impl.byteKinds", "loop.example/wholeway/impl.stmtForms", "loop.example/wholeway/impl.signedOps"], fn := fun _ => fun
  | [d1, d2, g1, g2, g3, g4] => { results := [.lit (.bool false)], args := [d1, d2], vars := [g1, g2, g3, g4] }
  | _ => none }
def FnFnAtWrongFalsely : Prop := fnFnAtRow.holds Tryd.pinned (OpenSpec.ofChange fnFnAtWrong)

/- THE SECOND FORM. 'bulk': how many values and letters a reading holds, each counted each time it is reached (what is shared counts as often as it is met; a slice's spare places count too). A statement '..UptoSaid' is the law's where the arguments, and the package variables that the reading takes, are together of bulk at most 1048576: NARROWER than '..Said'. Prove '..Said' where nothing that the law and all that it calls make is longer than what came in: it says more and counts as full. Else prove '..UptoSaid'. A law counts once. -/
mutual
def uptoBulk {H : Type} : DataW H → Nat
  | .lit (.string bytes) => bytes.length + 1
  | .lit _ => 1
  | .nil => 1
  | .ptr d => uptoBulk d + 1
  | .slice elems spare => uptoBulkAll elems + uptoBulkAll spare + 1
  | .agg parts => uptoBulkAll parts + 1
  | .iface _ d => uptoBulk d + 1
  | .map entries => uptoBulkEntries entries + 1
  | .held _ => 1
def uptoBulkAll {H : Type} : List (DataW H) → Nat
  | [] => 0
  | d :: r => uptoBulk d + uptoBulkAll r
def uptoBulkEntries {H : Type} : List (Lit × DataW H) → Nat
  | [] => 0
  | x :: r => uptoBulkEntry x + uptoBulkEntries r
def uptoBulkEntry {H : Type} : Lit × DataW H → Nat
  | (.string bytes, d) => bytes.length + uptoBulk d + 1
  | (_, d) => uptoBulk d + 1
 end
def uptoSmall : (H : Type) → List (DataW H) → Bool := fun _ ds => decide (uptoBulkAll ds ≤ 1048576)
def OpenSpec.upto (s : _root_.Go.ChangeSpec) : _root_.Go.OpenSpec := { _root_.Go.OpenSpec.ofChange s with cond := some uptoSmall }

/-- 'laws.FnCount', WHERE WHAT IT READS IS OF BULK AT MOST 1048576: true; the input reads as it did. -/
def fnCountUptoRow : OpenClaim := { program := "ytljoipgpkmdjbaadoor", sum := "07e0c59559ba18e01f92218d86c2be2c6566220d18b46d7b7d7386a93d74e8f9", func := "loop.example/wholeway/laws.FnCount", spec := "fnCount", recurses := true, named := ["loop.example/wholeway/impl.keyTable", "loop.example/wholeway/impl.byteKinds", "strconv.ErrSyntax", "strconv.ErrRange", "internal/strconv.uint64pow10", "math/bits.deBruijn32tab", "math/bits.deBruijn64tab"], apart := false, laid := [("math/bits.deBruijn32tab", laid_math_bits_deBruijn32tab), ("math/bits.deBruijn64tab", laid_math_bits_deBruijn64tab), ("internal/strconv.uint64pow10", laid_internal_strconv_uint64pow10), ("strconv.ErrRange", laid_strconv_ErrRange), ("strconv.ErrSyntax", laid_strconv_ErrSyntax), ("loop.example/wholeway/impl.byteKinds", laid_loop_example_wholeway_impl_byteKinds), ("loop.example/wholeway/impl.keyTable", laid_loop_example_wholeway_impl_keyTable)], narrowed := true }
def FnCountUptoSaid : Prop := fnCountUptoRow.holds Tryd.pinned (OpenSpec.upto fnCountSpec)

/-- 'laws.FnTight', WHERE WHAT IT READS IS OF BULK AT MOST 1048576: true; the input reads as it did. -/
def fnTightUptoRow : OpenClaim := { program := "ytljoipgpkmdjbaadoor", sum := "07e0c59559ba18e01f92218d86c2be2c6566220d18b46d7b7d7386a93d74e8f9", func := "loop.example/wholeway/laws.FnTight", spec := "fnTight", inPlace := ["internal/abi.NoEscape", "internal/bytealg.MakeNoZero"], unfollowed := true, recurses := true, named := ["loop.example/wholeway/impl.keyTable", "loop.example/wholeway/impl.byteKinds", "strconv.ErrSyntax", "strconv.ErrRange", "internal/strconv.uint64pow10", "math/bits.deBruijn32tab", "math/bits.deBruijn64tab"], apart := false, laid := [("math/bits.deBruijn32tab", laid_math_bits_deBruijn32tab), ("math/bits.deBruijn64tab", laid_math_bits_deBruijn64tab), ("internal/strconv.uint64pow10", laid_internal_strconv_uint64pow10), ("strconv.ErrRange", laid_strconv_ErrRange), ("strconv.ErrSyntax", laid_strconv_ErrSyntax), ("loop.example/wholeway/impl.byteKinds", laid_loop_example_wholeway_impl_byteKinds), ("loop.example/wholeway/impl.keyTable", laid_loop_example_wholeway_impl_keyTable)], narrowed := true }
def FnTightUptoSaid : Prop := fnTightUptoRow.holds Tryd.pinned (OpenSpec.upto fnTightSpec)

/-- 'laws.FnStmtCount', WHERE WHAT IT READS IS OF BULK AT MOST 1048576: true; the input reads as it did. -/
def fnStmtCountUptoRow : OpenClaim := { program := "ytljoipgpkmdjbaadoor", sum := "07e0c59559ba18e01f92218d86c2be2c6566220d18b46d7b7d7386a93d74e8f9", func := "loop.example/wholeway/laws.FnStmtCount", spec := "fnStmtCount", unfollowed := true, recurses := true, named := ["loop.example/wholeway/impl.keyTable", "loop.example/wholeway/impl.byteKinds", "loop.example/wholeway/impl.stmtForms", "loop.example/wholeway/impl.signedOps"], apart := false, laid := [("loop.example/wholeway/impl.byteKinds", laid_loop_example_wholeway_impl_byteKinds), ("loop.example/wholeway/impl.keyTable", laid_loop_example_wholeway_impl_keyTable), ("loop.example/wholeway/impl.signedOps", laid_loop_example_wholeway_impl_signedOps), ("loop.example/wholeway/impl.stmtForms", laid_loop_example_wholeway_impl_stmtForms)], narrowed := true }
def FnStmtCountUptoSaid : Prop := fnStmtCountUptoRow.holds Tryd.pinned (OpenSpec.upto fnStmtCountSpec)

/-- 'laws.FnStmtForm', WHERE WHAT IT READS IS OF BULK AT MOST 1048576: true; the input reads as it did. -/
def fnStmtFormUptoRow : OpenClaim := { program := "ytljoipgpkmdjbaadoor", sum := "07e0c59559ba18e01f92218d86c2be2c6566220d18b46d7b7d7386a93d74e8f9", func := "loop.example/wholeway/laws.FnStmtForm", spec := "fnStmtForm", unfollowed := true, recurses := true, named := ["loop.example/wholeway/impl.stmtForms", "loop.example/wholeway/impl.keyTable", "loop.example/wholeway/impl.byteKinds", "loop.example/wholeway/impl.signedOps"], apart := false, laid := [("loop.example/wholeway/impl.byteKinds", laid_loop_example_wholeway_impl_byteKinds), ("loop.example/wholeway/impl.keyTable", laid_loop_example_wholeway_impl_keyTable), ("loop.example/wholeway/impl.signedOps", laid_loop_example_wholeway_impl_signedOps), ("loop.example/wholeway/impl.stmtForms", laid_loop_example_wholeway_impl_stmtForms)], narrowed := true }
def FnStmtFormUptoSaid : Prop := fnStmtFormUptoRow.holds Tryd.pinned (OpenSpec.upto fnStmtFormSpec)

/-- 'laws.FnFnAt', WHERE WHAT IT READS IS OF BULK AT MOST 1048576: true; the input reads as it did. -/
def fnFnAtUptoRow : OpenClaim := { program := "ytljoipgpkmdjbaadoor", sum := "07e0c59559ba18e01f92218d86c2be2c6566220d18b46d7b7d7386a93d74e8f9", func := "loop.example/wholeway/laws.FnFnAt", spec := "fnFnAt", unfollowed := true, recurses := true, named := ["loop.example/wholeway/impl.keyTable", "loop.example/wholeway/impl.byteKinds", "loop.example/wholeway/impl.stmtForms", "loop.example/wholeway/impl.signedOps"], apart := false, laid := [("loop.example/wholeway/impl.byteKinds", laid_loop_example_wholeway_impl_byteKinds), ("loop.example/wholeway/impl.keyTable", laid_loop_example_wholeway_impl_keyTable), ("loop.example/wholeway/impl.signedOps", laid_loop_example_wholeway_impl_signedOps), ("loop.example/wholeway/impl.stmtForms", laid_loop_example_wholeway_impl_stmtForms)], narrowed := true }
def FnFnAtUptoSaid : Prop := fnFnAtUptoRow.holds Tryd.pinned (OpenSpec.upto fnFnAtSpec)

end Rows
end Go.Proofs.YtljoipgpkmdjbaaDoor
