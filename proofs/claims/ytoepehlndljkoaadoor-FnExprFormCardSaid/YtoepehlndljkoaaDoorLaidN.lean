/-
  What the rows list of the library's variables gives the walks.
-/
import Derived.Test.YtoepehlndljkoaaDoorLaid
import Derived.Test.YtoepehlndljkoaaDoorC5
import Derived.LaidLaws
namespace Go.Proofs.YtoepehlndljkoaaDoor
open Go.ChangeShapes Go.WideShapes Go.ChangeAt Go.RowKit Go.WideMaps
set_option maxRecDepth 100000

theorem pow10_data : (Rows.laid_internal_strconv_uint64pow10 : DataW Unit) = Lib.tabData .u64 Lib.pow10Tab := by kernel_rfl

theorem sentinel_cell {W : World} {l : List (String × DataW Unit)} {n nm : String} {d : DataW Unit} {g : Nat} (h : laidMet Tryd.prog l W) (hm : (n, .iface nm d) ∈ l)
    (hg : Tryd.prog.globalNamed n = some g) (ht : (Tryd.prog.globals[g]?).map (·.type) = some 91) : ∃ tp p, W.cell? ⟨g, 0, none⟩ = some (.iface tp p) := by
  obtain ⟨ps, hv, _, _⟩ := h
  obtain ⟨g1, t1, cs1, f1, p1, hg1, ht1, hv1, hd1⟩ := laid_get hv hm
  obtain rfl := Option.some.inj (hg.symm.trans hg1)
  obtain rfl := Option.some.inj (ht.symm.trans ht1)
  obtain ⟨f', u, v, hcs, _, _⟩ := iface_of_trod Tryd.underlying91 hd1
  refine ⟨u, v, ?_⟩
  rw [World.var?_cell hg1 hv1 0, ← Array.getElem?_toList, hcs]
  rfl

theorem ntabs_of_laid {W : World} {l : List (String × DataW Unit)} (h : laidMet Tryd.prog l W)
    (h1 : ("internal/strconv.uint64pow10", Rows.laid_internal_strconv_uint64pow10) ∈ l) (h2 : ("strconv.ErrRange", Rows.laid_strconv_ErrRange) ∈ l) (h3 : ("strconv.ErrSyntax", Rows.laid_strconv_ErrSyntax) ∈ l)
    (h4 : ("math/bits.deBruijn64tab", Rows.laid_math_bits_deBruijn64tab) ∈ l) : NTabs W := by
  have hs := sentinel_cell h h3 (show _ = some 5 by kernel_rfl) (by kernel_rfl)
  have hr := sentinel_cell h h2 (show _ = some 6 by kernel_rfl) (by kernel_rfl)
  obtain ⟨ps, hv, _, _⟩ := h
  obtain ⟨g1, t1, cs1, f1, p1, hg1, ht1, hv1, hd1⟩ := laid_get hv h1
  obtain ⟨g4, t4, cs4, f4, p4, hg4, ht4, hv4, hd4⟩ := laid_get hv h4
  obtain rfl := Option.some.inj ((show Tryd.prog.globalNamed "internal/strconv.uint64pow10" = some 4 by kernel_rfl).symm.trans hg1)
  obtain rfl := Option.some.inj ((show Tryd.prog.globalNamed "math/bits.deBruijn64tab" = some 8 by kernel_rfl).symm.trans hg4)
  obtain rfl := Option.some.inj ((show (Tryd.prog.globals[4]?).map (·.type) = some 126 by kernel_rfl).symm.trans ht1)
  rw [pow10_data] at hd1
  have e1 := Lib.cells_of_tab Tryd.underlying126 Tryd.underlying113 (by kernel_rfl) (by kernel_rfl) hd1
  have hsz : 8 < W.heap.size := by
    unfold World.var? at hv4
    simp only [hg4, Option.bind_some] at hv4
    by_cases hlt : 8 < W.heap.size
    · exact hlt
    · rw [Array.getElem?_eq_none (by omega)] at hv4; cases hv4
  refine ⟨hs, hr, ?_, by omega⟩
  unfold Lib.TabIs
  rw [hv1, ← e1]
end Go.Proofs.YtoepehlndljkoaaDoor
