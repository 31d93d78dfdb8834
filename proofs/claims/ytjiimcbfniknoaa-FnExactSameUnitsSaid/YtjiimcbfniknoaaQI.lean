/-
  Units compared by the program.
-/
import Derived.Test.YtjiimcbfniknoaaQH
namespace Go.Proofs.Ytjiimcbfniknoaa
open Go.RowKit
set_option maxRecDepth 100000

theorem un_ext (x y : Un) : x = y ↔ x.codes = y.codes := by
  constructor
  · rintro rfl; exact rfl
  · rintro h; cases x; cases y; simp_all
open Classical in
set_option maxHeartbeats 4000000 in
theorem implSameUnits_any (x y : Un) (v v' : Value) (w : World) (hV : UnV w (Lt w.heap.size) x v) (hV' : UnV w (Lt w.heap.size) y v') (hk : bulkUn x ≤ 2000000) (hl : bulkUn y ≤ 2000000) :
    Calls Try.prog 24 #[v, v'] w (BoolB (decide (x = y)) w) := by
  obtain ⟨Acodes, ccodes, rfl, rAcodes⟩ := hV
  obtain ⟨Bcodes, dcodes, rfl, rBcodes⟩ := hV'
  unfold bulkUn at hk hl
  have hb := two_boxes w (.cells #[.slice Acodes x.codes.length ccodes] 53) (.cells #[.slice Bcodes y.codes.length dcodes] 53)
  have HX := Lib.hid (un_ext x y)
  have Ecodes := Lib.hid (fun (W : World) (h : Below w.heap.size w W) => equalCd_any x.codes y.codes Acodes Bcodes ccodes dcodes W (rAcodes.on h h.size) (rBcodes.on h h.size) (by omega) (by omega))
  have Dcodes := Lib.hid (show decide (x.codes = y.codes) = true ↔ x.codes = y.codes from decide_eq_true_iff)
  clear hk hl rAcodes rBcodes
  generalize decide (x.codes = y.codes) = zcodes at *
  generalize hz : decide (x = y) = z at *
  have HZ := Lib.hid (show z = true ↔ x = y by rw [← hz]; exact decide_eq_true_iff)
  clear hz
  go_enter Try.func24, Try.ntmps24
  go_wp2_with fail
  (with_reducible refine Calls.mono (Ecodes.out _ hb) ?_)
  rintro ee u0 ⟨rfl, hu0⟩
  have hb0 := hb.trans (hu0.mono hb.size)
  clear hu0
  cases zcodes with
  | false =>
    have HB := Lib.hid hb0
    go_wp2_with fail
    go_ret
    refine ⟨ret_bool ?_, HB.out⟩
    cases z with
    | false => rfl
    | true => exact absurd (HX.out.1 (HZ.out.1 rfl)) (fun h => by have gcodes := h; exact by have := Dcodes.out.2 gcodes; cases this)
  | true =>
  have Gcodes := Lib.hid (Dcodes.out.1 rfl)
  go_wp2_with fail
  go_ret
  refine ⟨ret_bool ?_, hb0⟩
  exact (HZ.out.2 (HX.out.2 Gcodes.out)).symm

end Go.Proofs.Ytjiimcbfniknoaa
