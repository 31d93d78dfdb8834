/-
  What a row lists of the library's table of powers gives the walks.
-/
import Derived.Test.YtkhcfhhejmkikaaDoorOV
import Derived.Test.YtkhcfhhejmkikaaDoorLaw
import Derived.Test.YtkhcfhhejmkikaaDoorRows
namespace Go.Proofs.YtkhcfhhejmkikaaDoor
open Go.ChangeShapes Go.WideShapes Go.ChangeAt Go.RowKit Go.WideMaps
set_option maxRecDepth 100000

theorem laidOut' : laidOutB Tryd.prog = true := by kernel_rfl
theorem ownNone : ownKnob Tryd.prog.godebug = none := by kernel_rfl
theorem pow10_data' : (Rows.laid_internal_strconv_uint64pow10 : DataW Unit) = Lib.tabData .u64 Lib.pow10Tab := by kernel_rfl
theorem ptab_of_laid {W : World} {l : List (String × DataW Unit)} (h : laidMet Tryd.prog l W)
    (h1 : ("internal/strconv.uint64pow10", Rows.laid_internal_strconv_uint64pow10) ∈ l) : PTab W := by
  obtain ⟨ps, hv, _, _⟩ := h
  obtain ⟨g1, t1, cs1, f1, p1, hg1, ht1, hv1, hd1⟩ := laid_get hv h1
  obtain rfl := Option.some.inj ((show Tryd.prog.globalNamed "internal/strconv.uint64pow10" = some 1 by kernel_rfl).symm.trans hg1)
  obtain rfl := Option.some.inj ((show (Tryd.prog.globals[1]?).map (·.type) = some 133 by kernel_rfl).symm.trans ht1)
  rw [pow10_data'] at hd1
  have e1 := Lib.cells_of_tab Tryd.underlying133 Tryd.underlying119 (by kernel_rfl) (by kernel_rfl) hd1
  have hsz : 1 < W.heap.size := by
    unfold World.var? at hv1
    simp only [hg1, Option.bind_some] at hv1
    by_cases hlt : 1 < W.heap.size
    · exact hlt
    · rw [Array.getElem?_eq_none (by omega)] at hv1; cases hv1
  refine ⟨?_, hsz⟩
  unfold Lib.TabIs
  rw [hv1, ← e1]
end Go.Proofs.YtkhcfhhejmkikaaDoor
