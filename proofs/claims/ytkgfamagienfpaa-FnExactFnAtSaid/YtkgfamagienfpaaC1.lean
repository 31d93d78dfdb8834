/-
  What the functions of chapter 1 that touch no memory of their own return.
-/
import Derived.Test.YtkgfamagienfpaaChecked
import Derived.Test.YtkgfamagienfpaaMath
import Derived.WalkKit
import Derived.LoopTactic
import Derived.Lib.Hide
import Derived.Outline
import Derived.BigQuiet
import Derived.Deep.QuietTactic
import Derived.WalkSpells
import Derived.WalkLawsBesides
namespace Go.Proofs.Ytkgfamagienfpaa
open Go.RowKit
set_option maxRecDepth 100000






end Go.Proofs.Ytkgfamagienfpaa
