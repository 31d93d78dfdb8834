/-
  What the rows list of the program's table of forms gives the walks.
-/
import Derived.Test.YtkgfamagienfpaaDoorLaidS
import Derived.Test.YtkgfamagienfpaaDoorV5
namespace Go.Proofs.YtkgfamagienfpaaDoor
open Go.ChangeShapes Go.WideShapes Go.ChangeAt Go.RowKit Go.WideMaps Go.Deep
set_option maxRecDepth 100000

theorem flat_parts {n : Nat} : ∀ (rows : List (List Value)) (cs : List Value), cs.length = rows.length * n → (∀ i r, rows[i]? = some r → (cs.drop (i * n)).take n = r) → cs = rows.flatten
  | [], cs, h, _ => by
    have : cs = [] := List.length_eq_zero_iff.1 (by simpa using h)
    subst this; rfl
  | r :: rows, cs, h, hr => by
    have h0 := hr 0 r rfl
    rw [Nat.zero_mul, List.drop_zero] at h0
    have hl : (cs.drop n).length = rows.length * n := by
      rw [List.length_drop, h, List.length_cons, Nat.add_mul, Nat.one_mul, Nat.add_sub_cancel]
    have ih := flat_parts rows (cs.drop n) hl (fun i r' h' => by
      have := hr (i + 1) r' (by simpa using h')
      rw [List.drop_drop]
      have e : n + i * n = (i + 1) * n := by rw [Nat.add_mul, Nat.one_mul, Nat.add_comm]
      rw [e]; exact this)
    rw [List.flatten_cons, ← ih, ← h0, List.take_append_drop]
section
variable {H : Type} {enc : TypeId × Value → H} {P : Program} {w : World} {base : Nat} {spare : Nat → Bool} {held : Bool}
def formData {H : Type} (r : Int × List UInt8 × Bool × Int × Bool × Bool × Bool) : DataW H :=
  .agg [.lit (.int .i64 r.1), .lit (.string r.2.1), .lit (.bool r.2.2.1), .lit (.int .i64 r.2.2.2.1), .lit (.bool r.2.2.2.2.1), .lit (.bool r.2.2.2.2.2.1), .lit (.bool r.2.2.2.2.2.2)]
def formCells (r : Int × List UInt8 × Bool × Int × Bool × Bool × Bool) : List Value :=
  [.int .i64 r.1, .string ⟨r.2.1.toArray⟩, .bool r.2.2.1, .int .i64 r.2.2.2.1, .bool r.2.2.2.2.1, .bool r.2.2.2.2.2.1, .bool r.2.2.2.2.2.2]
theorem row7_trod {e : TypeId} {f0 f1 f2 f3 f4 f5 f6 : Field} {n : Nat} {cs : List Value} {r : Int × List UInt8 × Bool × Int × Bool × Bool × Bool} {p : List MemPlace} (he : P.underlying e = some (.struct #[f0, f1, f2, f3, f4, f5, f6])) (hone : oneCellFields P #[f0, f1, f2, f3, f4, f5, f6] = true) (hC : P.cellsOf e = 7)
    (t0 : P.underlying f0.type = some (.int .i64)) (t1 : P.underlying f1.type = some .string) (t2 : P.underlying f2.type = some .bool) (t3 : P.underlying f3.type = some (.int .i64)) (t4 : P.underlying f4.type = some .bool) (t5 : P.underlying f5.type = some .bool) (t6 : P.underlying f6.type = some .bool)
    (h : DataW.trod enc P w base spare held n e cs = some (formData r, p)) : cs = formCells r := by
  obtain ⟨ys, n', _, hx, hl, hyl, hf⟩ := DataW.trod_struct he h
  rw [hC] at hl
  obtain ⟨o0, c0⟩ := hone_of hone 0 f0 rfl
  obtain ⟨o1, c1⟩ := hone_of hone 1 f1 rfl
  obtain ⟨o2, c2⟩ := hone_of hone 2 f2 rfl
  obtain ⟨o3, c3⟩ := hone_of hone 3 f3 rfl
  obtain ⟨o4, c4⟩ := hone_of hone 4 f4 rfl
  obtain ⟨o5, c5⟩ := hone_of hone 5 f5 rfl
  obtain ⟨o6, c6⟩ := hone_of hone 6 f6 rfl
  match cs, hl with
  | [v0, v1, v2, v3, v4, v5, v6], _ =>
    match ys, hyl with
    | [y0, y1, y2, y3, y4, y5, y6], _ =>
      have h0 := hf 0 f0 rfl
      have h1 := hf 1 f1 rfl
      have h2 := hf 2 f2 rfl
      have h3 := hf 3 f3 rfl
      have h4 := hf 4 f4 rfl
      have h5 := hf 5 f5 rfl
      have h6 := hf 6 f6 rfl
      rw [o0, c0] at h0
      rw [o1, c1] at h1
      rw [o2, c2] at h2
      rw [o3, c3] at h3
      rw [o4, c4] at h4
      rw [o5, c5] at h5
      rw [o6, c6] at h6
      obtain ⟨k0, e0, q0, _⟩ := DataW.trod_int t0 (show DataW.trod enc P w base spare held n' f0.type [v0] = some y0 from h0)
      obtain ⟨k1, e1, q1, _⟩ := DataW.trod_string t1 (show DataW.trod enc P w base spare held n' f1.type [v1] = some y1 from h1)
      obtain ⟨k2, e2, q2⟩ := DataW.trod_bool t2 (show DataW.trod enc P w base spare held n' f2.type [v2] = some y2 from h2)
      obtain ⟨k3, e3, q3, _⟩ := DataW.trod_int t3 (show DataW.trod enc P w base spare held n' f3.type [v3] = some y3 from h3)
      obtain ⟨k4, e4, q4⟩ := DataW.trod_bool t4 (show DataW.trod enc P w base spare held n' f4.type [v4] = some y4 from h4)
      obtain ⟨k5, e5, q5⟩ := DataW.trod_bool t5 (show DataW.trod enc P w base spare held n' f5.type [v5] = some y5 from h5)
      obtain ⟨k6, e6, q6⟩ := DataW.trod_bool t6 (show DataW.trod enc P w base spare held n' f6.type [v6] = some y6 from h6)
      injection e0 with e0 _
      injection e1 with e1 _
      injection e2 with e2 _
      injection e3 with e3 _
      injection e4 with e4 _
      injection e5 with e5 _
      injection e6 with e6 _
      subst e0 e1 e2 e3 e4 e5 e6
      subst q0 q1 q2 q3 q4 q5 q6
      have := congrArg Prod.fst hx
      simp [formData] at this
      obtain ⟨r0, r1, r2, r3, r4, r5, r6⟩ := this
      unfold formCells
      rw [r0, r1, r2, r3, r4, r5, r6]
theorem cells_of_forms {t e : TypeId} {f0 f1 f2 f3 f4 f5 f6 : Field} {fuel m : Nat} {cs : List Value} {rows : List (Int × List UInt8 × Bool × Int × Bool × Bool × Bool)} {p : List MemPlace} (ht : P.underlying t = some (.array m e)) (he : P.underlying e = some (.struct #[f0, f1, f2, f3, f4, f5, f6])) (hone : oneCellFields P #[f0, f1, f2, f3, f4, f5, f6] = true) (hC : P.cellsOf e = 7) (hct : P.cellsOf t = m * 7)
    (t0 : P.underlying f0.type = some (.int .i64)) (t1 : P.underlying f1.type = some .string) (t2 : P.underlying f2.type = some .bool) (t3 : P.underlying f3.type = some (.int .i64)) (t4 : P.underlying f4.type = some .bool) (t5 : P.underlying f5.type = some .bool) (t6 : P.underlying f6.type = some .bool)
    (h : DataW.trod enc P w base spare held fuel t cs = some (.agg (rows.map formData), p)) : cs = (rows.map formCells).flatten := by
  obtain ⟨xs, k, _, hx, hl, hxl, hel⟩ := DataW.trod_array ht h
  have hxs : xs.map (·.1) = rows.map (formData (H := H)) := by
    have := congrArg Prod.fst hx
    simpa using this.symm
  have hrl : rows.length = m := by
    have := congrArg List.length hxs
    simp at this
    omega
  refine flat_parts (n := 7) _ _ (by rw [hl, hct, List.length_map, hrl]) (fun i r hr => ?_)
  rw [List.getElem?_map, Option.map_eq_some_iff] at hr
  obtain ⟨row, hrow, rfl⟩ := hr
  have hi' : i < m := by rw [← hrl]; exact (List.getElem?_eq_some_iff.1 hrow).1
  have hf := hel i hi'
  rw [hC, List.getElem?_eq_getElem (by omega)] at hf
  have hd : (xs[i]'(by omega)).1 = formData row := by
    have := congrArg (·[i]?) hxs
    simp only [List.getElem?_map] at this
    rw [List.getElem?_eq_getElem (by omega), hrow] at this
    simpa using this
  have hy : xs[i]'(by omega) = (formData row, (xs[i]'(by omega)).2) := Prod.ext hd rfl
  rw [hy] at hf
  exact row7_trod he hone hC t0 t1 t2 t3 t4 t5 t6 hf
theorem vars_four {a b c d : String} {gs : List (DataW H)} {ps : List MemPlace} (h : DataW.TrodVars enc P w spare [a, b, c, d] gs ps) : ∃ x y z u, gs = [x, y, z, u] := by
  match gs, vars_len h with
  | [x, y, z, u], _ => exact ⟨x, y, z, u, rfl⟩
end
def fmRows : List (Int × List UInt8 × Bool × Int × Bool × Bool × Bool) := [(1, [108, 101, 116], true, 1, false, false, false), (2, [], true, 1, false, false, false), (3, [115, 97, 121], false, 1, false, false, false), (4, [112, 117, 116], false, 2, false, false, false), (5, [105, 102], false, 1, false, true, true), (6, [108, 111, 111, 112], false, 1, false, true, false), (7, [98, 97, 99, 107], false, 1, false, false, false), (8, [100, 111], false, 1, true, false, false)]
theorem stmtForms_data : (Rows.laid_loop_example_wholeway_impl_stmtForms : DataW Unit) = .agg (fmRows.map formData) := by kernel_rfl
theorem fmRows_cells : (fmRows.map formCells).flatten = fmCells := by kernel_rfl
theorem fms_of_laid {W : World} {l : List (String × DataW Unit)} (h : laidMet Tryd.prog l W) (h1 : ("loop.example/wholeway/impl.stmtForms", Rows.laid_loop_example_wholeway_impl_stmtForms) ∈ l) : Fms W := by
  obtain ⟨ps, hv, _, _⟩ := h
  obtain ⟨g1, t1, cs1, f1, p1, hg1, ht1, hv1, hd1⟩ := laid_get hv h1
  obtain rfl := Option.some.inj ((show Tryd.prog.globalNamed "loop.example/wholeway/impl.stmtForms" = some 0 by kernel_rfl).symm.trans hg1)
  obtain rfl := Option.some.inj ((show (Tryd.prog.globals[0]?).map (·.type) = some 110 by kernel_rfl).symm.trans ht1)
  rw [stmtForms_data] at hd1
  have e1 := cells_of_forms Tryd.underlying110 Tryd.underlying92 (by kernel_rfl) (by kernel_rfl) (by kernel_rfl) Tryd.underlying3 Tryd.underlying9 Tryd.underlying4 Tryd.underlying3 Tryd.underlying4 Tryd.underlying4 Tryd.underlying4 hd1
  rw [fmRows_cells] at e1
  have b1 : ∃ t fr, W.heap[0]? = some (.cells cs1 t fr) := by
    unfold World.var? at hv1
    simp only [hg1, Option.bind_some] at hv1
    split at hv1
    · rename_i c t fr hc
      cases hv1
      exact ⟨t, fr, hc⟩
    · cases hv1
  obtain ⟨t, fr, hb⟩ := b1
  refine ⟨t, fr, ?_⟩
  have : cs1 = fmCells.toArray := by rw [← e1]
  rw [hb, this]
end Go.Proofs.YtkgfamagienfpaaDoor
