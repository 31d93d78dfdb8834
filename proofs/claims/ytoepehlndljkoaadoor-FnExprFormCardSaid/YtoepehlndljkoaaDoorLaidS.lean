/-
  What the rows list of the program's table of ops gives the walks.
-/
import Derived.Test.YtoepehlndljkoaaDoorLaid
import Derived.Test.YtoepehlndljkoaaDoorF1
import Derived.Deep.Fields
namespace Go.Proofs.YtoepehlndljkoaaDoor
open Go.ChangeShapes Go.WideShapes Go.ChangeAt Go.RowKit Go.WideMaps Go.Deep
set_option maxRecDepth 100000

theorem flat_chunks : ∀ (rows : List (List Value)) (cs : List Value), cs.length = rows.length * 3 → (∀ i r, rows[i]? = some r → (cs.drop (i * 3)).take 3 = r) → cs = rows.flatten
  | [], cs, h, _ => by
    have : cs = [] := List.length_eq_zero_iff.1 (by simpa using h)
    subst this; rfl
  | r :: rows, cs, h, hr => by
    have h0 := hr 0 r rfl
    rw [Nat.zero_mul, List.drop_zero] at h0
    have ih := flat_chunks rows (cs.drop 3) (by rw [List.length_drop, h, List.length_cons]; omega) (fun i r' h' => by
      have := hr (i + 1) r' (by simpa using h')
      rw [List.drop_drop]
      have e : 3 + i * 3 = (i + 1) * 3 := by omega
      rw [e]; exact this)
    rw [List.flatten_cons, ← ih, ← h0, List.take_append_drop]
section
variable {H : Type} {enc : TypeId × Value → H} {P : Program} {w : World} {base : Nat} {spare : Nat → Bool} {held : Bool}
theorem row3_trod {e : TypeId} {f0 f1 f2 : Field} {n : Nat} {cs : List Value} {a b : Int} {z : List UInt8} {p : List MemPlace} (he : P.underlying e = some (.struct #[f0, f1, f2])) (hone : oneCellFields P #[f0, f1, f2] = true) (hC : P.cellsOf e = 3)
    (hi : P.underlying f0.type = some (.int .i64)) (hs : P.underlying f1.type = some .string) (hj : P.underlying f2.type = some (.int .i64))
    (h : DataW.trod enc P w base spare held n e cs = some (.agg [.lit (.int .i64 a), .lit (.string z), .lit (.int .i64 b)], p)) : cs = [.int .i64 a, .string ⟨z.toArray⟩, .int .i64 b] := by
  obtain ⟨ys, n', _, hx, hl, hyl, hf⟩ := DataW.trod_struct he h
  rw [hC] at hl
  obtain ⟨o0, c0⟩ := hone_of hone 0 f0 rfl
  obtain ⟨o1, c1⟩ := hone_of hone 1 f1 rfl
  obtain ⟨o2, c2⟩ := hone_of hone 2 f2 rfl
  match cs, hl with
  | [u, v, t], _ =>
    match ys, hyl with
    | [y0, y1, y2], _ =>
      have h0 := hf 0 f0 rfl
      have h1 := hf 1 f1 rfl
      have h2 := hf 2 f2 rfl
      rw [o0, c0] at h0
      rw [o1, c1] at h1
      rw [o2, c2] at h2
      obtain ⟨k, e1, q1, _⟩ := DataW.trod_int hi (show DataW.trod enc P w base spare held n' f0.type [u] = some y0 from h0)
      obtain ⟨s, e2, q2, _⟩ := DataW.trod_string hs (show DataW.trod enc P w base spare held n' f1.type [v] = some y1 from h1)
      obtain ⟨m, e3, q3, _⟩ := DataW.trod_int hj (show DataW.trod enc P w base spare held n' f2.type [t] = some y2 from h2)
      injection e1 with e1 _
      injection e2 with e2 _
      injection e3 with e3 _
      subst e1; subst e2; subst e3; subst q1; subst q2; subst q3
      have := congrArg Prod.fst hx
      simp at this
      obtain ⟨r1, r2, r3⟩ := this
      subst r1; subst r2; subst r3
      rfl
theorem vars_len {ns : List String} : ∀ {gs : List (DataW H)} {ps : List MemPlace}, DataW.TrodVars enc P w spare ns gs ps → gs.length = ns.length := by
  induction ns with
  | nil => intro gs ps h; cases gs with
    | nil => rfl
    | cons _ _ => cases h
  | cons n ns ih => intro gs ps h; cases gs with
    | nil => cases h
    | cons d gs =>
      obtain ⟨_, _, _, _, _, _, _, _, _, _, h5, _⟩ := h
      rw [List.length_cons, ih h5]; rfl
theorem vars_three {a b c : String} {gs : List (DataW H)} {ps : List MemPlace} (h : DataW.TrodVars enc P w spare [a, b, c] gs ps) : ∃ x y z, gs = [x, y, z] := by
  match gs, vars_len h with
  | [x, y, z], _ => exact ⟨x, y, z, rfl⟩
theorem vars_one {a : String} {gs : List (DataW H)} {ps : List MemPlace} (h : DataW.TrodVars enc P w spare [a] gs ps) : ∃ x, gs = [x] := by
  match gs, vars_len h with
  | [x], _ => exact ⟨x, rfl⟩
def rowData {H : Type} (r : Int × List UInt8 × Int) : DataW H := .agg [.lit (.int .i64 r.1), .lit (.string r.2.1), .lit (.int .i64 r.2.2)]
def rowCells3 (r : Int × List UInt8 × Int) : List Value := [.int .i64 r.1, .string ⟨r.2.1.toArray⟩, .int .i64 r.2.2]
theorem cells_of_rows {t e : TypeId} {f0 f1 f2 : Field} {fuel m : Nat} {cs : List Value} {rows : List (Int × List UInt8 × Int)} {p : List MemPlace} (ht : P.underlying t = some (.array m e)) (he : P.underlying e = some (.struct #[f0, f1, f2])) (hone : oneCellFields P #[f0, f1, f2] = true) (hC : P.cellsOf e = 3) (hct : P.cellsOf t = m * 3)
    (hi : P.underlying f0.type = some (.int .i64)) (hs : P.underlying f1.type = some .string) (hj : P.underlying f2.type = some (.int .i64))
    (h : DataW.trod enc P w base spare held fuel t cs = some (.agg (rows.map rowData), p)) : cs = (rows.map rowCells3).flatten := by
  obtain ⟨xs, k, _, hx, hl, hxl, hel⟩ := DataW.trod_array ht h
  have hxs : xs.map (·.1) = rows.map (rowData (H := H)) := by
    have := congrArg Prod.fst hx
    simpa using this.symm
  have hrl : rows.length = m := by
    have := congrArg List.length hxs
    simp at this
    omega
  refine flat_chunks _ _ (by rw [hl, hct, List.length_map, hrl]) (fun i r hr => ?_)
  rw [List.getElem?_map, Option.map_eq_some_iff] at hr
  obtain ⟨row, hrow, rfl⟩ := hr
  have hi' : i < m := by rw [← hrl]; exact (List.getElem?_eq_some_iff.1 hrow).1
  have hf := hel i hi'
  rw [hC, List.getElem?_eq_getElem (by omega)] at hf
  have hd : (xs[i]'(by omega)).1 = rowData row := by
    have := congrArg (·[i]?) hxs
    simp only [List.getElem?_map] at this
    rw [List.getElem?_eq_getElem (by omega), hrow] at this
    simpa using this
  have hy : xs[i]'(by omega) = (rowData row, (xs[i]'(by omega)).2) := Prod.ext hd rfl
  rw [hy] at hf
  exact row3_trod he hone hC hi hs hj hf
end
def sgRows : List (Int × List UInt8 × Int) := [(3, [43], 3), (4, [45], 3), (5, [42], 4), (6, [47], 4), (7, [37], 4), (8, [60], 2), (9, [61], 2), (10, [38], 1), (11, [33], 5), (12, [64], 5)]
theorem signedOps_data : (Rows.laid_loop_example_wholeway_impl_signedOps : DataW Unit) = .agg (sgRows.map rowData) := by kernel_rfl
theorem sgRows_cells : (sgRows.map rowCells3).flatten = sgCells := by kernel_rfl
theorem sgn_of_laid {W : World} {l : List (String × DataW Unit)} (h : laidMet Tryd.prog l W) (h1 : ("loop.example/wholeway/impl.signedOps", Rows.laid_loop_example_wholeway_impl_signedOps) ∈ l) : Sgn W := by
  obtain ⟨ps, hv, _, _⟩ := h
  obtain ⟨g1, t1, cs1, f1, p1, hg1, ht1, hv1, hd1⟩ := laid_get hv h1
  obtain rfl := Option.some.inj ((show Tryd.prog.globalNamed "loop.example/wholeway/impl.signedOps" = some 0 by kernel_rfl).symm.trans hg1)
  obtain rfl := Option.some.inj ((show (Tryd.prog.globals[0]?).map (·.type) = some 95 by kernel_rfl).symm.trans ht1)
  rw [signedOps_data] at hd1
  have e1 := cells_of_rows Tryd.underlying95 Tryd.underlying65 (by kernel_rfl) (by kernel_rfl) (by kernel_rfl) Tryd.underlying3 Tryd.underlying9 Tryd.underlying3 hd1
  rw [sgRows_cells] at e1
  have b1 : ∃ t fr, W.heap[0]? = some (.cells cs1 t fr) := by
    unfold World.var? at hv1
    simp only [hg1, Option.bind_some] at hv1
    split at hv1
    · rename_i c t fr hc
      cases hv1
      exact ⟨t, fr, hc⟩
    · cases hv1
  obtain ⟨t, fr, hb⟩ := b1
  refine ⟨t, fr, ?_⟩
  have : cs1 = sgCells.toArray := by rw [← e1]
  rw [hb, this]
end Go.Proofs.YtoepehlndljkoaaDoor
