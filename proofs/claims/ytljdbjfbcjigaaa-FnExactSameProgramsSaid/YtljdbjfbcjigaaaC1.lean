/-
  What the functions of chapter 1 that touch no memory of their own return.
-/
import Derived.Test.YtljdbjfbcjigaaaChecked
import Derived.Test.YtljdbjfbcjigaaaMath
import Derived.WalkKit
import Derived.LoopTactic
import Derived.Lib.Hide
import Derived.Outline
import Derived.BigQuiet
import Derived.Deep.QuietTactic
import Derived.WalkSpells
import Derived.WalkLawsBesides
namespace Go.Proofs.Ytljdbjfbcjigaaa
open Go.RowKit
set_option maxRecDepth 100000






end Go.Proofs.Ytljdbjfbcjigaaa
