/-
  What a row lists of the library's table of powers gives the walks of units' texts.
-/
import Derived.Test.YtomhomnibikceaaDoorYE
import Derived.Test.YtomhomnibikceaaDoorLaidI
namespace Go.Proofs.YtomhomnibikceaaDoor
open Go.ChangeShapes Go.WideShapes Go.ChangeAt Go.RowKit Go.WideMaps
set_option maxRecDepth 100000

theorem pow10_dataY : (Rows.laid_internal_strconv_uint64pow10 : DataW Unit) = Lib.tabData .u64 Lib.pow10Tab := by kernel_rfl
theorem powT_of_laid {W : World} {l : List (String × DataW Unit)} (h : laidMet Tryd.prog l W)
    (h1 : ("internal/strconv.uint64pow10", Rows.laid_internal_strconv_uint64pow10) ∈ l) : PowT W := by
  obtain ⟨ps, hv, _, _⟩ := h
  obtain ⟨g1, t1, cs1, f1, p1, hg1, ht1, hv1, hd1⟩ := laid_get hv h1
  obtain rfl := Option.some.inj ((show Tryd.prog.globalNamed "internal/strconv.uint64pow10" = some 2 by kernel_rfl).symm.trans hg1)
  obtain rfl := Option.some.inj ((show (Tryd.prog.globals[2]?).map (·.type) = some 174 by kernel_rfl).symm.trans ht1)
  rw [pow10_dataY] at hd1
  have e1 := Lib.cells_of_tab Tryd.underlying174 Tryd.underlying158 (by kernel_rfl) (by kernel_rfl) hd1
  have hsz : 2 < W.heap.size := by
    unfold World.var? at hv1
    simp only [hg1, Option.bind_some] at hv1
    by_cases hlt : 2 < W.heap.size
    · exact hlt
    · rw [Array.getElem?_eq_none (by omega)] at hv1; cases hv1
  refine ⟨?_, hsz⟩
  unfold Lib.TabIs
  rw [hv1, ← e1]
end Go.Proofs.YtomhomnibikceaaDoor
