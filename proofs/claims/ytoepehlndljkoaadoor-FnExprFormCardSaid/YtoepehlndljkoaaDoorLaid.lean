/-
  What the rows list of the program's tables gives the walks.
-/
import Derived.Test.YtoepehlndljkoaaDoorLaw
import Derived.Test.YtoepehlndljkoaaDoorC2
import Derived.Test.YtoepehlndljkoaaDoorRows
namespace Go.Proofs.YtoepehlndljkoaaDoor
open Go.ChangeShapes Go.WideShapes Go.ChangeAt Go.RowKit Go.WideMaps
set_option maxRecDepth 100000

theorem laidOut : laidOutB Tryd.prog = true := by kernel_rfl
theorem ownNone : ownKnob Tryd.prog.godebug = none := by kernel_rfl
theorem byteKinds_data : (Rows.laid_loop_example_wholeway_impl_byteKinds : DataW Unit) = Lib.tabData .i64 kt := by kernel_rfl
theorem keyTable_data : (Rows.laid_loop_example_wholeway_impl_keyTable : DataW Unit) = strData keyL := by kernel_rfl

/-- Both tables are listed: the walks have them. -/
theorem tabs_of_laid {W : World} {l : List (String × DataW Unit)} (h : laidMet Tryd.prog l W)
    (h1 : ("loop.example/wholeway/impl.byteKinds", Rows.laid_loop_example_wholeway_impl_byteKinds) ∈ l) (h2 : ("loop.example/wholeway/impl.keyTable", Rows.laid_loop_example_wholeway_impl_keyTable) ∈ l) : Tabs W := by
  obtain ⟨ps, hv, _, _⟩ := h
  obtain ⟨g1, t1, cs1, f1, p1, hg1, ht1, hv1, hd1⟩ := laid_get hv h1
  obtain ⟨g2, t2, cs2, f2, p2, hg2, ht2, hv2, hd2⟩ := laid_get hv h2
  obtain rfl := Option.some.inj ((show Tryd.prog.globalNamed "loop.example/wholeway/impl.byteKinds" = some 2 by kernel_rfl).symm.trans hg1)
  obtain rfl := Option.some.inj ((show Tryd.prog.globalNamed "loop.example/wholeway/impl.keyTable" = some 1 by kernel_rfl).symm.trans hg2)
  obtain rfl := Option.some.inj ((show (Tryd.prog.globals[2]?).map (·.type) = some 107 by kernel_rfl).symm.trans ht1)
  obtain rfl := Option.some.inj ((show (Tryd.prog.globals[1]?).map (·.type) = some 103 by kernel_rfl).symm.trans ht2)
  rw [byteKinds_data] at hd1
  rw [keyTable_data] at hd2
  have e1 := Lib.cells_of_tab Tryd.underlying107 Tryd.underlying3 (by kernel_rfl) (by kernel_rfl) hd1
  have e2 := cells_of_strs Tryd.underlying103 Tryd.underlying9 (by kernel_rfl) (by kernel_rfl) hd2
  have b2 : ∃ t fr, W.heap[1]? = some (.cells cs2 t fr) := by
    unfold World.var? at hv2
    simp only [hg2, Option.bind_some] at hv2
    split at hv2
    · rename_i c t fr hc
      cases hv2
      exact ⟨t, fr, hc⟩
    · cases hv2
  obtain ⟨t, fr, hb⟩ := b2
  have hsz : 2 < W.heap.size := by
    unfold World.var? at hv1
    simp only [hg1, Option.bind_some] at hv1
    by_cases hlt : 2 < W.heap.size
    · exact hlt
    · rw [Array.getElem?_eq_none (by omega)] at hv1; cases hv1
  have hsz2 : 1 < W.heap.size := (Array.getElem?_eq_some_iff.1 hb).1
  refine ⟨fun i hi => ?_, ⟨hsz, hsz2⟩, t, fr, ?_⟩
  · rw [World.var?_cell hg1 hv1 i, ← Array.getElem?_toList, e1]
    rw [List.getElem?_map, List.getD_eq_getElem?_getD, List.getElem?_eq_getElem (show i < kt.length from hi)]
    rfl
  · have : cs2 = (keyL.map fun k => Value.string ⟨k.toArray⟩).toArray := by rw [← e2]
    rw [hb, this]
end Go.Proofs.YtoepehlndljkoaaDoor
