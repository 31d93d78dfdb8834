/-
  For every program the text that the program's ProgramText gives is the one that the model gives, whatever the program is, valid or not, and nothing that was there turns. Conditions: the program's tables and the library's variables stand as their text lays them (tied by the card).
-/
import Derived.Test.YtljdbjfbcjigaaaGreatDoorMg12
import Derived.Test.YtljdbjfbcjigaaaGreatDoorMg26
import Derived.Test.YtljdbjfbcjigaaaGreatDoorMg32
import Derived.Test.YtljdbjfbcjigaaaGreatDoorMg33
import Derived.Test.YtljdbjfbcjigaaaGreatDoorMg4
import Derived.Deep.Fields
import Derived.LaidLaws
import Derived.Test.YtljdbjfbcjigaaaGreatDoorRows
import Derived.ShapedOpen
import Derived.JoinedOf
import Derived.Test.YtljdbjfbcjigaaaGreatDoorCards
import Derived.Test.YtljdbjfbcjigaaaGreatDoorTie
import Derived.SevenTiedAt
namespace Go.Proofs.YtljdbjfbcjigaaaGreatDoor
open Go.ChangeShapes Go.WideShapes Go.ChangeAt Go.RowKit Go.WideMaps Go.Deep
set_option maxRecDepth 100000

theorem flat_chunks : ∀ (rows : List (List Value)) (cs : List Value), cs.length = rows.length * 3 → (∀ i r, rows[i]? = some r → (cs.drop (i * 3)).take 3 = r) → cs = rows.flatten
  | [], cs, h, _ => by
    have : cs = [] := List.length_eq_zero_iff.1 (by simpa using h)
    subst this; rfl
  | r :: rows, cs, h, hr => by
    have h0 := hr 0 r rfl
    rw [Nat.zero_mul, List.drop_zero] at h0
    have ih := flat_chunks rows (cs.drop 3) (by rw [List.length_drop, h, List.length_cons]; omega) (fun i r' h' => by
      have := hr (i + 1) r' (by simpa using h')
      rw [List.drop_drop]
      have e : 3 + i * 3 = (i + 1) * 3 := by omega
      rw [e]; exact this)
    rw [List.flatten_cons, ← ih, ← h0, List.take_append_drop]
section
variable {H : Type} {enc : TypeId × Value → H} {P : Program} {w : World} {base : Nat} {spare : Nat → Bool} {held : Bool}
theorem row3_trod {e : TypeId} {f0 f1 f2 : Field} {n : Nat} {cs : List Value} {a b : Int} {z : List UInt8} {p : List MemPlace} (he : P.underlying e = some (.struct #[f0, f1, f2])) (hone : oneCellFields P #[f0, f1, f2] = true) (hC : P.cellsOf e = 3)
    (hi : P.underlying f0.type = some (.int .i64)) (hs : P.underlying f1.type = some .string) (hj : P.underlying f2.type = some (.int .i64))
    (h : DataW.trod enc P w base spare held n e cs = some (.agg [.lit (.int .i64 a), .lit (.string z), .lit (.int .i64 b)], p)) : cs = [.int .i64 a, .string ⟨z.toArray⟩, .int .i64 b] := by
  obtain ⟨ys, n', _, hx, hl, hyl, hf⟩ := DataW.trod_struct he h
  rw [hC] at hl
  obtain ⟨o0, c0⟩ := hone_of hone 0 f0 rfl
  obtain ⟨o1, c1⟩ := hone_of hone 1 f1 rfl
  obtain ⟨o2, c2⟩ := hone_of hone 2 f2 rfl
  match cs, hl with
  | [u, v, t], _ =>
    match ys, hyl with
    | [y0, y1, y2], _ =>
      have h0 := hf 0 f0 rfl
      have h1 := hf 1 f1 rfl
      have h2 := hf 2 f2 rfl
      rw [o0, c0] at h0
      rw [o1, c1] at h1
      rw [o2, c2] at h2
      obtain ⟨k, e1, q1, _⟩ := DataW.trod_int hi (show DataW.trod enc P w base spare held n' f0.type [u] = some y0 from h0)
      obtain ⟨s, e2, q2, _⟩ := DataW.trod_string hs (show DataW.trod enc P w base spare held n' f1.type [v] = some y1 from h1)
      obtain ⟨m, e3, q3, _⟩ := DataW.trod_int hj (show DataW.trod enc P w base spare held n' f2.type [t] = some y2 from h2)
      injection e1 with e1 _
      injection e2 with e2 _
      injection e3 with e3 _
      subst e1; subst e2; subst e3; subst q1; subst q2; subst q3
      have := congrArg Prod.fst hx
      simp at this
      obtain ⟨r1, r2, r3⟩ := this
      subst r1; subst r2; subst r3
      rfl
theorem vars_len {ns : List String} : ∀ {gs : List (DataW H)} {ps : List MemPlace}, DataW.TrodVars enc P w spare ns gs ps → gs.length = ns.length := by
  induction ns with
  | nil => intro gs ps h; cases gs with
    | nil => rfl
    | cons _ _ => cases h
  | cons n ns ih => intro gs ps h; cases gs with
    | nil => cases h
    | cons d gs =>
      obtain ⟨_, _, _, _, _, _, _, _, _, _, h5, _⟩ := h
      rw [List.length_cons, ih h5]; rfl
theorem vars_three {a b c : String} {gs : List (DataW H)} {ps : List MemPlace} (h : DataW.TrodVars enc P w spare [a, b, c] gs ps) : ∃ x y z, gs = [x, y, z] := by
  match gs, vars_len h with
  | [x, y, z], _ => exact ⟨x, y, z, rfl⟩
theorem vars_one {a : String} {gs : List (DataW H)} {ps : List MemPlace} (h : DataW.TrodVars enc P w spare [a] gs ps) : ∃ x, gs = [x] := by
  match gs, vars_len h with
  | [x], _ => exact ⟨x, rfl⟩
def rowData {H : Type} (r : Int × List UInt8 × Int) : DataW H := .agg [.lit (.int .i64 r.1), .lit (.string r.2.1), .lit (.int .i64 r.2.2)]
def rowCells3 (r : Int × List UInt8 × Int) : List Value := [.int .i64 r.1, .string ⟨r.2.1.toArray⟩, .int .i64 r.2.2]
theorem cells_of_rows {t e : TypeId} {f0 f1 f2 : Field} {fuel m : Nat} {cs : List Value} {rows : List (Int × List UInt8 × Int)} {p : List MemPlace} (ht : P.underlying t = some (.array m e)) (he : P.underlying e = some (.struct #[f0, f1, f2])) (hone : oneCellFields P #[f0, f1, f2] = true) (hC : P.cellsOf e = 3) (hct : P.cellsOf t = m * 3)
    (hi : P.underlying f0.type = some (.int .i64)) (hs : P.underlying f1.type = some .string) (hj : P.underlying f2.type = some (.int .i64))
    (h : DataW.trod enc P w base spare held fuel t cs = some (.agg (rows.map rowData), p)) : cs = (rows.map rowCells3).flatten := by
  obtain ⟨xs, k, _, hx, hl, hxl, hel⟩ := DataW.trod_array ht h
  have hxs : xs.map (·.1) = rows.map (rowData (H := H)) := by
    have := congrArg Prod.fst hx
    simpa using this.symm
  have hrl : rows.length = m := by
    have := congrArg List.length hxs
    simp at this
    omega
  refine flat_chunks _ _ (by rw [hl, hct, List.length_map, hrl]) (fun i r hr => ?_)
  rw [List.getElem?_map, Option.map_eq_some_iff] at hr
  obtain ⟨row, hrow, rfl⟩ := hr
  have hi' : i < m := by rw [← hrl]; exact (List.getElem?_eq_some_iff.1 hrow).1
  have hf := hel i hi'
  rw [hC, List.getElem?_eq_getElem (by omega)] at hf
  have hd : (xs[i]'(by omega)).1 = rowData row := by
    have := congrArg (·[i]?) hxs
    simp only [List.getElem?_map] at this
    rw [List.getElem?_eq_getElem (by omega), hrow] at this
    simpa using this
  have hy : xs[i]'(by omega) = (rowData row, (xs[i]'(by omega)).2) := Prod.ext hd rfl
  rw [hy] at hf
  exact row3_trod he hone hC hi hs hj hf
end
def sgRows : List (Int × List UInt8 × Int) := [(3, [43], 3), (4, [45], 3), (5, [42], 4), (6, [47], 4), (7, [37], 4), (8, [60], 2), (9, [61], 2), (10, [38], 1), (11, [33], 5), (12, [64], 5)]
theorem signedOps_data : (Rows.laid_loop_example_wholeway_impl_signedOps : DataW Unit) = .agg (sgRows.map rowData) := by kernel_rfl
theorem sgRows_cells : (sgRows.map rowCells3).flatten = sgCells := by kernel_rfl
theorem sgn_of_laid {W : World} {l : List (String × DataW Unit)} (h : laidMet Tryz.prog l W) (h1 : ("loop.example/wholeway/impl.signedOps", Rows.laid_loop_example_wholeway_impl_signedOps) ∈ l) : Sgn W := by
  obtain ⟨ps, hv, _, _⟩ := h
  obtain ⟨g1, t1, cs1, f1, p1, hg1, ht1, hv1, hd1⟩ := laid_get hv h1
  obtain rfl := Option.some.inj ((show Tryz.prog.globalNamed "loop.example/wholeway/impl.signedOps" = some 1 by kernel_rfl).symm.trans hg1)
  obtain rfl := Option.some.inj ((show (Tryz.prog.globals[1]?).map (·.type) = some 218 by kernel_rfl).symm.trans ht1)
  rw [signedOps_data] at hd1
  have e1 := cells_of_rows Tryz.underlying218 Tryz.underlying149 (by kernel_rfl) (by kernel_rfl) (by kernel_rfl) Tryz.underlying3 Tryz.underlying9 Tryz.underlying3 hd1
  rw [sgRows_cells] at e1
  have b1 : ∃ t fr, W.heap[1]? = some (.cells cs1 t fr) := by
    unfold World.var? at hv1
    simp only [hg1, Option.bind_some] at hv1
    split at hv1
    · rename_i c t fr hc
      cases hv1
      exact ⟨t, fr, hc⟩
    · cases hv1
  obtain ⟨t, fr, hb⟩ := b1
  refine ⟨t, fr, ?_⟩
  have : cs1 = sgCells.toArray := by rw [← e1]
  rw [hb, this]
end Go.Proofs.YtljdbjfbcjigaaaGreatDoor

namespace Go.Proofs.YtljdbjfbcjigaaaGreatDoor
open Go.ChangeShapes Go.WideShapes Go.ChangeAt Go.RowKit Go.WideMaps Go.Deep
set_option maxRecDepth 100000

theorem flat_parts {n : Nat} : ∀ (rows : List (List Value)) (cs : List Value), cs.length = rows.length * n → (∀ i r, rows[i]? = some r → (cs.drop (i * n)).take n = r) → cs = rows.flatten
  | [], cs, h, _ => by
    have : cs = [] := List.length_eq_zero_iff.1 (by simpa using h)
    subst this; rfl
  | r :: rows, cs, h, hr => by
    have h0 := hr 0 r rfl
    rw [Nat.zero_mul, List.drop_zero] at h0
    have hl : (cs.drop n).length = rows.length * n := by
      rw [List.length_drop, h, List.length_cons, Nat.add_mul, Nat.one_mul, Nat.add_sub_cancel]
    have ih := flat_parts rows (cs.drop n) hl (fun i r' h' => by
      have := hr (i + 1) r' (by simpa using h')
      rw [List.drop_drop]
      have e : n + i * n = (i + 1) * n := by rw [Nat.add_mul, Nat.one_mul, Nat.add_comm]
      rw [e]; exact this)
    rw [List.flatten_cons, ← ih, ← h0, List.take_append_drop]
section
variable {H : Type} {enc : TypeId × Value → H} {P : Program} {w : World} {base : Nat} {spare : Nat → Bool} {held : Bool}
def formData {H : Type} (r : Int × List UInt8 × Bool × Int × Bool × Bool × Bool) : DataW H :=
  .agg [.lit (.int .i64 r.1), .lit (.string r.2.1), .lit (.bool r.2.2.1), .lit (.int .i64 r.2.2.2.1), .lit (.bool r.2.2.2.2.1), .lit (.bool r.2.2.2.2.2.1), .lit (.bool r.2.2.2.2.2.2)]
def formCells (r : Int × List UInt8 × Bool × Int × Bool × Bool × Bool) : List Value :=
  [.int .i64 r.1, .string ⟨r.2.1.toArray⟩, .bool r.2.2.1, .int .i64 r.2.2.2.1, .bool r.2.2.2.2.1, .bool r.2.2.2.2.2.1, .bool r.2.2.2.2.2.2]
theorem row7_trod {e : TypeId} {f0 f1 f2 f3 f4 f5 f6 : Field} {n : Nat} {cs : List Value} {r : Int × List UInt8 × Bool × Int × Bool × Bool × Bool} {p : List MemPlace} (he : P.underlying e = some (.struct #[f0, f1, f2, f3, f4, f5, f6])) (hone : oneCellFields P #[f0, f1, f2, f3, f4, f5, f6] = true) (hC : P.cellsOf e = 7)
    (t0 : P.underlying f0.type = some (.int .i64)) (t1 : P.underlying f1.type = some .string) (t2 : P.underlying f2.type = some .bool) (t3 : P.underlying f3.type = some (.int .i64)) (t4 : P.underlying f4.type = some .bool) (t5 : P.underlying f5.type = some .bool) (t6 : P.underlying f6.type = some .bool)
    (h : DataW.trod enc P w base spare held n e cs = some (formData r, p)) : cs = formCells r := by
  obtain ⟨ys, n', _, hx, hl, hyl, hf⟩ := DataW.trod_struct he h
  rw [hC] at hl
  obtain ⟨o0, c0⟩ := hone_of hone 0 f0 rfl
  obtain ⟨o1, c1⟩ := hone_of hone 1 f1 rfl
  obtain ⟨o2, c2⟩ := hone_of hone 2 f2 rfl
  obtain ⟨o3, c3⟩ := hone_of hone 3 f3 rfl
  obtain ⟨o4, c4⟩ := hone_of hone 4 f4 rfl
  obtain ⟨o5, c5⟩ := hone_of hone 5 f5 rfl
  obtain ⟨o6, c6⟩ := hone_of hone 6 f6 rfl
  match cs, hl with
  | [v0, v1, v2, v3, v4, v5, v6], _ =>
    match ys, hyl with
    | [y0, y1, y2, y3, y4, y5, y6], _ =>
      have h0 := hf 0 f0 rfl
      have h1 := hf 1 f1 rfl
      have h2 := hf 2 f2 rfl
      have h3 := hf 3 f3 rfl
      have h4 := hf 4 f4 rfl
      have h5 := hf 5 f5 rfl
      have h6 := hf 6 f6 rfl
      rw [o0, c0] at h0
      rw [o1, c1] at h1
      rw [o2, c2] at h2
      rw [o3, c3] at h3
      rw [o4, c4] at h4
      rw [o5, c5] at h5
      rw [o6, c6] at h6
      obtain ⟨k0, e0, q0, _⟩ := DataW.trod_int t0 (show DataW.trod enc P w base spare held n' f0.type [v0] = some y0 from h0)
      obtain ⟨k1, e1, q1, _⟩ := DataW.trod_string t1 (show DataW.trod enc P w base spare held n' f1.type [v1] = some y1 from h1)
      obtain ⟨k2, e2, q2⟩ := DataW.trod_bool t2 (show DataW.trod enc P w base spare held n' f2.type [v2] = some y2 from h2)
      obtain ⟨k3, e3, q3, _⟩ := DataW.trod_int t3 (show DataW.trod enc P w base spare held n' f3.type [v3] = some y3 from h3)
      obtain ⟨k4, e4, q4⟩ := DataW.trod_bool t4 (show DataW.trod enc P w base spare held n' f4.type [v4] = some y4 from h4)
      obtain ⟨k5, e5, q5⟩ := DataW.trod_bool t5 (show DataW.trod enc P w base spare held n' f5.type [v5] = some y5 from h5)
      obtain ⟨k6, e6, q6⟩ := DataW.trod_bool t6 (show DataW.trod enc P w base spare held n' f6.type [v6] = some y6 from h6)
      injection e0 with e0 _
      injection e1 with e1 _
      injection e2 with e2 _
      injection e3 with e3 _
      injection e4 with e4 _
      injection e5 with e5 _
      injection e6 with e6 _
      subst e0 e1 e2 e3 e4 e5 e6
      subst q0 q1 q2 q3 q4 q5 q6
      have := congrArg Prod.fst hx
      simp [formData] at this
      obtain ⟨r0, r1, r2, r3, r4, r5, r6⟩ := this
      unfold formCells
      rw [r0, r1, r2, r3, r4, r5, r6]
theorem cells_of_forms {t e : TypeId} {f0 f1 f2 f3 f4 f5 f6 : Field} {fuel m : Nat} {cs : List Value} {rows : List (Int × List UInt8 × Bool × Int × Bool × Bool × Bool)} {p : List MemPlace} (ht : P.underlying t = some (.array m e)) (he : P.underlying e = some (.struct #[f0, f1, f2, f3, f4, f5, f6])) (hone : oneCellFields P #[f0, f1, f2, f3, f4, f5, f6] = true) (hC : P.cellsOf e = 7) (hct : P.cellsOf t = m * 7)
    (t0 : P.underlying f0.type = some (.int .i64)) (t1 : P.underlying f1.type = some .string) (t2 : P.underlying f2.type = some .bool) (t3 : P.underlying f3.type = some (.int .i64)) (t4 : P.underlying f4.type = some .bool) (t5 : P.underlying f5.type = some .bool) (t6 : P.underlying f6.type = some .bool)
    (h : DataW.trod enc P w base spare held fuel t cs = some (.agg (rows.map formData), p)) : cs = (rows.map formCells).flatten := by
  obtain ⟨xs, k, _, hx, hl, hxl, hel⟩ := DataW.trod_array ht h
  have hxs : xs.map (·.1) = rows.map (formData (H := H)) := by
    have := congrArg Prod.fst hx
    simpa using this.symm
  have hrl : rows.length = m := by
    have := congrArg List.length hxs
    simp at this
    omega
  refine flat_parts (n := 7) _ _ (by rw [hl, hct, List.length_map, hrl]) (fun i r hr => ?_)
  rw [List.getElem?_map, Option.map_eq_some_iff] at hr
  obtain ⟨row, hrow, rfl⟩ := hr
  have hi' : i < m := by rw [← hrl]; exact (List.getElem?_eq_some_iff.1 hrow).1
  have hf := hel i hi'
  rw [hC, List.getElem?_eq_getElem (by omega)] at hf
  have hd : (xs[i]'(by omega)).1 = formData row := by
    have := congrArg (·[i]?) hxs
    simp only [List.getElem?_map] at this
    rw [List.getElem?_eq_getElem (by omega), hrow] at this
    simpa using this
  have hy : xs[i]'(by omega) = (formData row, (xs[i]'(by omega)).2) := Prod.ext hd rfl
  rw [hy] at hf
  exact row7_trod he hone hC t0 t1 t2 t3 t4 t5 t6 hf
theorem vars_four {a b c d : String} {gs : List (DataW H)} {ps : List MemPlace} (h : DataW.TrodVars enc P w spare [a, b, c, d] gs ps) : ∃ x y z u, gs = [x, y, z, u] := by
  match gs, vars_len h with
  | [x, y, z, u], _ => exact ⟨x, y, z, u, rfl⟩
end
def fmRows : List (Int × List UInt8 × Bool × Int × Bool × Bool × Bool) := [(1, [108, 101, 116], true, 1, false, false, false), (2, [], true, 1, false, false, false), (3, [115, 97, 121], false, 1, false, false, false), (4, [112, 117, 116], false, 2, false, false, false), (5, [105, 102], false, 1, false, true, true), (6, [108, 111, 111, 112], false, 1, false, true, false), (7, [98, 97, 99, 107], false, 1, false, false, false), (8, [100, 111], false, 1, true, false, false)]
theorem stmtForms_data : (Rows.laid_loop_example_wholeway_impl_stmtForms : DataW Unit) = .agg (fmRows.map formData) := by kernel_rfl
theorem fmRows_cells : (fmRows.map formCells).flatten = fmCells := by kernel_rfl
theorem fms_of_laid {W : World} {l : List (String × DataW Unit)} (h : laidMet Tryz.prog l W) (h1 : ("loop.example/wholeway/impl.stmtForms", Rows.laid_loop_example_wholeway_impl_stmtForms) ∈ l) : Fms W := by
  obtain ⟨ps, hv, _, _⟩ := h
  obtain ⟨g1, t1, cs1, f1, p1, hg1, ht1, hv1, hd1⟩ := laid_get hv h1
  obtain rfl := Option.some.inj ((show Tryz.prog.globalNamed "loop.example/wholeway/impl.stmtForms" = some 5 by kernel_rfl).symm.trans hg1)
  obtain rfl := Option.some.inj ((show (Tryz.prog.globals[5]?).map (·.type) = some 310 by kernel_rfl).symm.trans ht1)
  rw [stmtForms_data] at hd1
  have e1 := cells_of_forms Tryz.underlying310 Tryz.underlying282 (by kernel_rfl) (by kernel_rfl) (by kernel_rfl) Tryz.underlying3 Tryz.underlying9 Tryz.underlying4 Tryz.underlying3 Tryz.underlying4 Tryz.underlying4 Tryz.underlying4 hd1
  rw [fmRows_cells] at e1
  have b1 : ∃ t fr, W.heap[5]? = some (.cells cs1 t fr) := by
    unfold World.var? at hv1
    simp only [hg1, Option.bind_some] at hv1
    split at hv1
    · rename_i c t fr hc
      cases hv1
      exact ⟨t, fr, hc⟩
    · cases hv1
  obtain ⟨t, fr, hb⟩ := b1
  refine ⟨t, fr, ?_⟩
  have : cs1 = fmCells.toArray := by rw [← e1]
  rw [hb, this]
end Go.Proofs.YtljdbjfbcjigaaaGreatDoor

namespace Go.Proofs.YtljdbjfbcjigaaaGreatDoor
open Go.ChangeShapes Go.WideShapes Go.ChangeAt Go.RowKit Go.WideMaps
set_option maxRecDepth 100000

theorem pow10_data : (Rows.laid_internal_strconv_uint64pow10 : DataW Unit) = Lib.tabData .u64 Lib.pow10Tab := by kernel_rfl

theorem sentinel_cell {W : World} {l : List (String × DataW Unit)} {n nm : String} {d : DataW Unit} {g : Nat} (h : laidMet Tryz.prog l W) (hm : (n, .iface nm d) ∈ l)
    (hg : Tryz.prog.globalNamed n = some g) (ht : (Tryz.prog.globals[g]?).map (·.type) = some 116) : ∃ tp p, W.cell? ⟨g, 0, none⟩ = some (.iface tp p) := by
  obtain ⟨ps, hv, _, _⟩ := h
  obtain ⟨g1, t1, cs1, f1, p1, hg1, ht1, hv1, hd1⟩ := laid_get hv hm
  obtain rfl := Option.some.inj (hg.symm.trans hg1)
  obtain rfl := Option.some.inj (ht.symm.trans ht1)
  obtain ⟨f', u, v, hcs, _, _⟩ := iface_of_trod Tryz.underlying116 hd1
  refine ⟨u, v, ?_⟩
  rw [World.var?_cell hg1 hv1 0, ← Array.getElem?_toList, hcs]
  rfl

theorem ntabs_of_laid {W : World} {l : List (String × DataW Unit)} (h : laidMet Tryz.prog l W)
    (h1 : ("internal/strconv.uint64pow10", Rows.laid_internal_strconv_uint64pow10) ∈ l) (h2 : ("strconv.ErrRange", Rows.laid_strconv_ErrRange) ∈ l) (h3 : ("strconv.ErrSyntax", Rows.laid_strconv_ErrSyntax) ∈ l)
    (h4 : ("math/bits.deBruijn64tab", Rows.laid_math_bits_deBruijn64tab) ∈ l) : NTabs W := by
  have hs := sentinel_cell h h3 (show _ = some 8 by kernel_rfl) (by kernel_rfl)
  have hr := sentinel_cell h h2 (show _ = some 9 by kernel_rfl) (by kernel_rfl)
  obtain ⟨ps, hv, _, _⟩ := h
  obtain ⟨g1, t1, cs1, f1, p1, hg1, ht1, hv1, hd1⟩ := laid_get hv h1
  obtain ⟨g4, t4, cs4, f4, p4, hg4, ht4, hv4, hd4⟩ := laid_get hv h4
  obtain rfl := Option.some.inj ((show Tryz.prog.globalNamed "internal/strconv.uint64pow10" = some 7 by kernel_rfl).symm.trans hg1)
  obtain rfl := Option.some.inj ((show Tryz.prog.globalNamed "math/bits.deBruijn64tab" = some 11 by kernel_rfl).symm.trans hg4)
  obtain rfl := Option.some.inj ((show (Tryz.prog.globals[7]?).map (·.type) = some 336 by kernel_rfl).symm.trans ht1)
  rw [pow10_data] at hd1
  have e1 := Lib.cells_of_tab Tryz.underlying336 Tryz.underlying305 (by kernel_rfl) (by kernel_rfl) hd1
  have hsz : 11 < W.heap.size := by
    unfold World.var? at hv4
    simp only [hg4, Option.bind_some] at hv4
    by_cases hlt : 11 < W.heap.size
    · exact hlt
    · rw [Array.getElem?_eq_none (by omega)] at hv4; cases hv4
  refine ⟨hs, hr, ?_, by omega⟩
  unfold Lib.TabIs
  rw [hv1, ← e1]
end Go.Proofs.YtljdbjfbcjigaaaGreatDoor

namespace Go.Proofs.YtljdbjfbcjigaaaGreatDoor
open Go.ChangeShapes Go.WideShapes Go.ChangeAt Go.RowKit Go.WideMaps
open Go.ChangeMaps (open_string)
set_option maxRecDepth 100000

namespace ExProgramText
theorem plain : (Rows.fnExactProgramTextRow.laid.all fun x => x.2.handleName?.isNone) = true := by kernel_rfl
/-- The door's own heap meets the condition: three closed facts. -/
theorem door_met (os : Os) (args : Array Value) : laidMetH Tryz.prog Rows.fnExactProgramTextRow.laid ((World.doorLaid Tryz.prog 400 os).forCall (fun _ _ => 0) ⟨#[], args, []⟩).memory :=
  laidMetH_of_parts3 (fuel := 8) (laidMet_of_run' 8 (by kernel_rfl) (by kernel_rfl)) (by kernel_rfl) (by kernel_rfl)
theorem lifted (os : Os) (started : os.Started) (H : Type) (enc : TypeId × Value → H) :
    ReturnsInHanded {} Tryz.checked os 7 .any (fun w args => (Rows.fnExactProgramTextSpec.pre enc Tryz.prog Tryz.f7 [] false w args ∧ laidMetH Tryz.prog Rows.fnExactProgramTextRow.laid w) ∧ sizedMet enc Tryz.prog Tryz.f7 (OpenSpec.ofChange Rows.fnExactProgramTextSpec) false w args)
      (Rows.fnExactProgramTextSpec.post enc Tryz.prog Tryz.f7 false true false false) := by
  refine returnsInHanded_of_change_and (C := Tryz.checked) (X := fun w _ => laidMetH Tryz.prog Rows.fnExactProgramTextRow.laid w) (fun _ _ _ hh h => h.of_heap hh) ownNone started (by kernel_rfl) Tryz.func7
    (ChangeSpec.witness_shaped (enc := enc) (C := Tryz.checked) (os := os) (X := fun w _ => laidMetH Tryz.prog Rows.fnExactProgramTextRow.laid w) false (World.doorLaid Tryz.prog 400 os) #[.agg #[.slice none 0 0]] 8 rfl (World.shaped_of_RefB (by kernel_rfl) (by kernel_rfl)) (by kernel_rfl) (by kernel_rfl) (by kernel_rfl) (door_met os _)) ?_
  intro W base args ds gs before hval0 hW _ hsz hL0 _
  have hval : ∀ (j : Nat) t v, Tryz.f7.params[j]? = some t → args[j]? = some v → Value.okWide Tryz.prog W .any base t v := hval0
  have hL : laidMet Tryz.prog Rows.fnExactProgramTextRow.laid W := by rw [← MakeChecks.laidMetH_plain _ _ _ plain]; exact hL0
  have hWhole := hW
  obtain ⟨p, q, hA0, hV, rfl, hfz, hnd⟩ := hW
  have hA : DataW.TrodAll enc Tryz.prog W 0 (fun _ => true) true Tryz.f7.params.toList args.toList ds p := hA0
  rw [Tryz.params7] at hA hval
  clear hA0 hval0 hL0
  obtain ⟨v0, d0, rfl, rfl, h0⟩ := trodAll_one hA
  obtain ⟨k, hV', hm⟩ := open_program Tryz.underlying24 (by kernel_rfl) (by kernel_rfl) Tryz.underlying3 Tryz.underlying3 Tryz.underlying9 Tryz.underlying22
    Tryz.underlying238 (by kernel_rfl) (by kernel_rfl) Tryz.underlying3 Tryz.underlying9 Tryz.underlying22 Tryz.underlying111 Tryz.underlying111
    Tryz.underlying113 (by kernel_rfl) (by kernel_rfl) Tryz.underlying9 Tryz.underlying67 Tryz.underlying9 (by kernel_rfl) Tryz.underlying111
    Tryz.underlying37 (by kernel_rfl) (by kernel_rfl) Tryz.underlying35 (hval 0 37 v0 rfl rfl) h0
  have T : Tabs W := tabs_of_laid hL (by simp [Rows.fnExactProgramTextRow]) (by simp [Rows.fnExactProgramTextRow])
  have N : NTabs W := ntabs_of_laid hL (by simp [Rows.fnExactProgramTextRow]) (by simp [Rows.fnExactProgramTextRow]) (by simp [Rows.fnExactProgramTextRow]) (by simp [Rows.fnExactProgramTextRow])
  have G : Sgn W := sgn_of_laid hL (by simp [Rows.fnExactProgramTextRow])
  have F : Fms W := fms_of_laid hL (by simp [Rows.fnExactProgramTextRow])
  obtain ⟨g1, g2, g3, g4, rfl⟩ : ∃ g1 g2 g3 g4, gs = [g1, g2, g3, g4] := vars_four hV
  refine (fnExactProgramText_walk k v0 W hV' hm T N G F).mono fun e W' ⟨he, hb⟩ => ⟨_, he, ?_⟩
  exact law_post laidOut (by kernel_rfl) (by kernel_rfl) (by kernel_rfl) Tryz.underlying4 rfl hWhole hb
end ExProgramText
end Go.Proofs.YtljdbjfbcjigaaaGreatDoor

namespace Go.Proofs.YtljdbjfbcjigaaaGreatDoor
open Go.ChangeShapes Go.WideShapes Go.ChangeAt Go.RowKit Go.WideMaps
open Go.ChangeMaps (open_string)
set_option maxRecDepth 100000

namespace ExProgramText
theorem k_inst : (Tryz.f7).isInstance Tryz.pinned.checked.prog Rows.fnExactProgramTextRow.origin Rows.fnExactProgramTextRow.targs := of_decide_eq_true (by kernel_rfl)
theorem k_inp : (Rows.fnExactProgramTextRow.inPlace == Tryz.prog.inPlace 7) = true := by kernel_rfl
theorem k_unf : (Rows.fnExactProgramTextRow.unfollowed == Tryz.prog.unfollowed 7) = true := by kernel_rfl
theorem k_rec : (Rows.fnExactProgramTextRow.recurses == Tryz.prog.recurses 7) = true := by kernel_rfl
theorem k_var : (Rows.fnExactProgramTextRow.named == Tryz.prog.varsNamed 7) = true := by kernel_rfl
theorem k_may : Tryz.prog.mayEnter = true := by kernel_rfl
theorem k_lift : (Rows.fnExactProgramTextRow.lifted == Tryz.prog.liftsFinal) = true := by kernel_rfl
theorem k_laid : laidOutB Tryz.prog = true := by kernel_rfl
theorem k_maps : mapsRowed Tryz.prog = true := by kernel_rfl
theorem k_heard : Tryz.prog.stopsHeard = true := by kernel_rfl
theorem k_named : namedTie Tryz.prog Rows.fnExactProgramTextRow.named Rows.fnExactProgramTextSpec.vars = true := by kernel_rfl
theorem k_closed : joinedFacts Tryz.prog 7 Tryz.f7 Rows.fnExactProgramTextSpec Rows.fnExactProgramTextRow = true := by
  unfold joinedFacts
  rw [k_laid, k_maps, k_named, k_inp, k_unf, k_rec, k_var, k_may, k_lift, k_heard]
  kernel_rfl
theorem row_holds : Rows.FnExactProgramTextSaid :=
  OpenClaim.holds_of_wide 7 Tryz.f7 rfl rfl rfl rfl rfl rfl rfl ⟨rfl, rfl, rfl, rfl, rfl⟩ rfl rfl rfl rfl rfl (by kernel_rfl) Tryz.func7 k_closed
    k_inst (by unfold Func.isWrapper; first | (rw [if_pos (by decide +kernel)]; kernel_rfl) | (rw [if_neg (by decide +kernel)]; exact ⟨rfl, rfl⟩))
    (fun os started H enc _ => lifted os started H enc)
theorem holds : Rows.FnExactProgramTextCardSaid :=
  Claim7.holds_tied_plain_at .later [] Rows.fnExactProgramTextCard.laidKinds true Rows.fnExactProgramTextCard.stood.harness Rows.fnExactProgramTextCard.stood.looks
    row_holds (fun _ h => by cases h) (by kernel_rfl) (fun _ h => by cases h) fnExactProgramText_row_tie rfl ⟨rfl, rfl⟩ (by kernel_rfl) rfl
    (fun f fn hf hfn => by
      obtain rfl : f = 7 := Option.some.inj ((show Tryz.prog.funcNamed Rows.fnExactProgramTextRow.func = some 7 by kernel_rfl).symm.trans hf) |>.symm
      obtain rfl : fn = Tryz.f7 := (Option.some.inj (Tryz.func7.symm.trans hfn)).symm
      exact ⟨by kernel_rfl, fun j t ht => by
        have hall : (Tryz.f7.params.toList.all fun u => !Tryz.prog.wantsStandIn u) = true := by kernel_rfl
        exact (show Tryz.prog.wantsStandIn t = false by simpa using List.all_eq_true.1 hall t (by simpa using Array.mem_of_getElem? ht))⟩)
    (by kernel_rfl)
#print axioms holds
end ExProgramText
end Go.Proofs.YtljdbjfbcjigaaaGreatDoor
