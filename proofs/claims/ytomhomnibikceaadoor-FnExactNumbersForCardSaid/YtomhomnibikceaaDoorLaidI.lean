/-
  What the rows list of the program's tables of instructions and jumps gives the walks.
-/
import Derived.Test.YtomhomnibikceaaDoorLaw
import Derived.Test.YtomhomnibikceaaDoorNF
import Derived.Test.YtomhomnibikceaaDoorRows
import Derived.Deep.Fields
namespace Go.Proofs.YtomhomnibikceaaDoor
open Go.ChangeShapes Go.WideShapes Go.ChangeAt Go.RowKit Go.WideMaps Go.Deep
set_option maxRecDepth 100000

theorem laidOut : laidOutB Tryd.prog = true := by kernel_rfl
theorem ownNone : ownKnob Tryd.prog.godebug = none := by kernel_rfl
theorem flat_parts' {n : Nat} : ∀ (rows : List (List Value)) (cs : List Value), cs.length = rows.length * n → (∀ i r, rows[i]? = some r → (cs.drop (i * n)).take n = r) → cs = rows.flatten
  | [], cs, h, _ => by
    have : cs = [] := List.length_eq_zero_iff.1 (by simpa using h)
    subst this; rfl
  | r :: rows, cs, h, hr => by
    have h0 := hr 0 r rfl
    rw [Nat.zero_mul, List.drop_zero] at h0
    have hl : (cs.drop n).length = rows.length * n := by
      rw [List.length_drop, h, List.length_cons, Nat.add_mul, Nat.one_mul, Nat.add_sub_cancel]
    have ih := flat_parts' rows (cs.drop n) hl (fun i r' h' => by
      have := hr (i + 1) r' (by simpa using h')
      rw [List.drop_drop]
      have e : n + i * n = (i + 1) * n := by rw [Nat.add_mul, Nat.one_mul, Nat.add_comm]
      rw [e]; exact this)
    rw [List.flatten_cons, ← ih, ← h0, List.take_append_drop]
section
variable {H : Type} {enc : TypeId × Value → H} {P : Program} {w : World} {base : Nat} {spare : Nat → Bool} {held : Bool}
/-- An array whose items are told by data of which each reads as some cells. -/
theorem cells_of_mixed {α : Type} {D : α → DataW H} {C : α → List Value} {t e : TypeId} {fuel m n : Nat} {cs : List Value} {rows : List α} {p : List MemPlace} (ht : P.underlying t = some (.array m e)) (hC : P.cellsOf e = n) (hct : P.cellsOf t = m * n)
    (hD : ∀ n cs r p, DataW.trod enc P w base spare held n e cs = some (D r, p) → cs = C r)
    (h : DataW.trod enc P w base spare held fuel t cs = some (.agg (rows.map D), p)) : cs = (rows.map C).flatten := by
  obtain ⟨xs, k, _, hx, hl, hxl, hel⟩ := DataW.trod_array ht h
  have hxs : xs.map (·.1) = rows.map D := by
    have := congrArg Prod.fst hx
    simpa using this.symm
  have hrl : rows.length = m := by
    have := congrArg List.length hxs
    simp at this
    omega
  refine flat_parts' (n := n) _ _ (by rw [hl, hct, List.length_map, hrl]) (fun i r hr => ?_)
  rw [List.getElem?_map, Option.map_eq_some_iff] at hr
  obtain ⟨row, hrow, rfl⟩ := hr
  have hi' : i < m := by rw [← hrl]; exact (List.getElem?_eq_some_iff.1 hrow).1
  have hf := hel i hi'
  rw [hC, List.getElem?_eq_getElem (by omega)] at hf
  have hd : (xs[i]'(by omega)).1 = D row := by
    have := congrArg (·[i]?) hxs
    simp only [List.getElem?_map] at this
    rw [List.getElem?_eq_getElem (by omega), hrow] at this
    simpa using this
  have hy : xs[i]'(by omega) = (D row, (xs[i]'(by omega)).2) := Prod.ext hd rfl
  rw [hy] at hf
  exact hD _ _ _ _ hf
def insData {H : Type} (r : List UInt8 × Bool × Bool × Int) : DataW H := .agg [.lit (.string r.1), .lit (.bool r.2.1), .lit (.bool r.2.2.1), .lit (.int .i64 r.2.2.2)]
def insCs (r : List UInt8 × Bool × Bool × Int) : List Value := [.string ⟨r.1.toArray⟩, .bool r.2.1, .bool r.2.2.1, .int .i64 r.2.2.2]
def jmpData {H : Type} (r : List UInt8 × Bool × Int) : DataW H := .agg [.lit (.string r.1), .lit (.bool r.2.1), .lit (.int .i64 r.2.2)]
def jmpCs (r : List UInt8 × Bool × Int) : List Value := [.string ⟨r.1.toArray⟩, .bool r.2.1, .int .i64 r.2.2]
theorem ins_trod {e : TypeId} {f0 f1 f2 f3 : Field} (he : P.underlying e = some (.struct #[f0, f1, f2, f3])) (hone : oneCellFields P #[f0, f1, f2, f3] = true) (hC : P.cellsOf e = 4)
    (t0 : P.underlying f0.type = some .string) (t1 : P.underlying f1.type = some .bool) (t2 : P.underlying f2.type = some .bool) (t3 : P.underlying f3.type = some (.int .i64))
    (n : Nat) (cs : List Value) (r : List UInt8 × Bool × Bool × Int) (p : List MemPlace) (h : DataW.trod enc P w base spare held n e cs = some (insData r, p)) : cs = insCs r := by
  obtain ⟨ys, n', _, hx, hl, hyl, hf⟩ := DataW.trod_struct he h
  rw [hC] at hl
  obtain ⟨o0, c0⟩ := hone_of hone 0 f0 rfl
  obtain ⟨o1, c1⟩ := hone_of hone 1 f1 rfl
  obtain ⟨o2, c2⟩ := hone_of hone 2 f2 rfl
  obtain ⟨o3, c3⟩ := hone_of hone 3 f3 rfl
  match cs, hl with
  | [v0, v1, v2, v3], _ =>
    match ys, hyl with
    | [y0, y1, y2, y3], _ =>
      have h0 := hf 0 f0 rfl
      have h1 := hf 1 f1 rfl
      have h2 := hf 2 f2 rfl
      have h3 := hf 3 f3 rfl
      rw [o0, c0] at h0
      rw [o1, c1] at h1
      rw [o2, c2] at h2
      rw [o3, c3] at h3
      obtain ⟨k0, e0, q0, _⟩ := DataW.trod_string t0 (show DataW.trod enc P w base spare held n' f0.type [v0] = some y0 from h0)
      obtain ⟨k1, e1, q1⟩ := DataW.trod_bool t1 (show DataW.trod enc P w base spare held n' f1.type [v1] = some y1 from h1)
      obtain ⟨k2, e2, q2⟩ := DataW.trod_bool t2 (show DataW.trod enc P w base spare held n' f2.type [v2] = some y2 from h2)
      obtain ⟨k3, e3, q3, _⟩ := DataW.trod_int t3 (show DataW.trod enc P w base spare held n' f3.type [v3] = some y3 from h3)
      injection e0 with e0 _
      injection e1 with e1 _
      injection e2 with e2 _
      injection e3 with e3 _
      subst e0 e1 e2 e3
      subst q0 q1 q2 q3
      have := congrArg Prod.fst hx
      simp [insData] at this
      obtain ⟨r0, r1, r2, r3⟩ := this
      unfold insCs
      rw [r0, r1, r2, r3]
theorem jmp_trod {e : TypeId} {f0 f1 f2 : Field} (he : P.underlying e = some (.struct #[f0, f1, f2])) (hone : oneCellFields P #[f0, f1, f2] = true) (hC : P.cellsOf e = 3)
    (t0 : P.underlying f0.type = some .string) (t1 : P.underlying f1.type = some .bool) (t3 : P.underlying f2.type = some (.int .i64))
    (n : Nat) (cs : List Value) (r : List UInt8 × Bool × Int) (p : List MemPlace) (h : DataW.trod enc P w base spare held n e cs = some (jmpData r, p)) : cs = jmpCs r := by
  obtain ⟨ys, n', _, hx, hl, hyl, hf⟩ := DataW.trod_struct he h
  rw [hC] at hl
  obtain ⟨o0, c0⟩ := hone_of hone 0 f0 rfl
  obtain ⟨o1, c1⟩ := hone_of hone 1 f1 rfl
  obtain ⟨o2, c2⟩ := hone_of hone 2 f2 rfl
  match cs, hl with
  | [v0, v1, v3], _ =>
    match ys, hyl with
    | [y0, y1, y3], _ =>
      have h0 := hf 0 f0 rfl
      have h1 := hf 1 f1 rfl
      have h3 := hf 2 f2 rfl
      rw [o0, c0] at h0
      rw [o1, c1] at h1
      rw [o2, c2] at h3
      obtain ⟨k0, e0, q0, _⟩ := DataW.trod_string t0 (show DataW.trod enc P w base spare held n' f0.type [v0] = some y0 from h0)
      obtain ⟨k1, e1, q1⟩ := DataW.trod_bool t1 (show DataW.trod enc P w base spare held n' f1.type [v1] = some y1 from h1)
      obtain ⟨k3, e3, q3, _⟩ := DataW.trod_int t3 (show DataW.trod enc P w base spare held n' f2.type [v3] = some y3 from h3)
      injection e0 with e0 _
      injection e1 with e1 _
      injection e3 with e3 _
      subst e0 e1 e3
      subst q0 q1 q3
      have := congrArg Prod.fst hx
      simp [jmpData] at this
      obtain ⟨r0, r1, r3⟩ := this
      unfold jmpCs
      rw [r0, r1, r3]
theorem vars_len {ns : List String} : ∀ {gs : List (DataW H)} {ps : List MemPlace}, DataW.TrodVars enc P w spare ns gs ps → gs.length = ns.length := by
  induction ns with
  | nil => intro gs ps h; cases gs with
    | nil => rfl
    | cons _ _ => cases h
  | cons n ns ih => intro gs ps h; cases gs with
    | nil => cases h
    | cons d gs =>
      obtain ⟨_, _, _, _, _, _, _, _, _, _, h5, _⟩ := h
      rw [List.length_cons, ih h5]; rfl
theorem vars_three {a b c : String} {gs : List (DataW H)} {ps : List MemPlace} (h : DataW.TrodVars enc P w spare [a, b, c] gs ps) : ∃ x y z, gs = [x, y, z] := by
  match gs, vars_len h with
  | [x, y, z], _ => exact ⟨x, y, z, rfl⟩
theorem vars_one {a : String} {gs : List (DataW H)} {ps : List MemPlace} (h : DataW.TrodVars enc P w spare [a] gs ps) : ∃ x, gs = [x] := by
  match gs, vars_len h with
  | [x], _ => exact ⟨x, rfl⟩
theorem vars_two {a b : String} {gs : List (DataW H)} {ps : List MemPlace} (h : DataW.TrodVars enc P w spare [a, b] gs ps) : ∃ x y, gs = [x, y] := by
  match gs, vars_len h with
  | [x, y], _ => exact ⟨x, y, rfl⟩
theorem vars_five {a b c d e : String} {gs : List (DataW H)} {ps : List MemPlace} (h : DataW.TrodVars enc P w spare [a, b, c, d, e] gs ps) : ∃ x y z u v, gs = [x, y, z, u, v] := by
  match gs, vars_len h with
  | [x, y, z, u, v], _ => exact ⟨x, y, z, u, v, rfl⟩
end
def insRows : List (List UInt8 × Bool × Bool × Int) := [([], false, false, 0), ([110, 117, 109], true, true, 0), ([99, 111, 112, 121], true, false, 1), ([97, 100, 100], true, false, 2), ([115, 117, 98], true, false, 2), ([109, 117, 108], true, false, 2), ([100, 105, 118], true, false, 2), ([114, 101, 109], true, false, 2), ([108, 101, 115, 115], true, false, 2), ([115, 97, 109, 101], true, false, 2), ([110, 111, 116], true, false, 1), ([97, 116], true, false, 1), ([112, 117, 116], false, false, 2), ([115, 97, 121], false, false, 1), ([99, 97, 108, 108], true, true, 0)]
def jmpRows : List (List UInt8 × Bool × Int) := [([], false, 0), ([103, 111], false, 1), ([105, 102], true, 2), ([98, 97, 99, 107], true, 0)]
theorem insForms_data : (Rows.laid_loop_example_wholeway_impl_insForms : DataW Unit) = .agg (insRows.map insData) := by kernel_rfl
theorem insRows_cells : (insRows.map insCs).flatten = insCells := by kernel_rfl
theorem insT_of_laid {W : World} {l : List (String × DataW Unit)} (h : laidMet Tryd.prog l W) (h1 : ("loop.example/wholeway/impl.insForms", Rows.laid_loop_example_wholeway_impl_insForms) ∈ l) : InsT W := by
  obtain ⟨ps, hv, _, _⟩ := h
  obtain ⟨g1, t1, cs1, f1, p1, hg1, ht1, hv1, hd1⟩ := laid_get hv h1
  obtain rfl := Option.some.inj ((show Tryd.prog.globalNamed "loop.example/wholeway/impl.insForms" = some 0 by kernel_rfl).symm.trans hg1)
  obtain rfl := Option.some.inj ((show (Tryd.prog.globals[0]?).map (·.type) = some 141 by kernel_rfl).symm.trans ht1)
  rw [insForms_data] at hd1
  have e1 := cells_of_mixed Tryd.underlying141 (n := 4) (C := insCs) (by kernel_rfl) (by kernel_rfl) (ins_trod Tryd.underlying117 (by kernel_rfl) (by kernel_rfl) Tryd.underlying9 Tryd.underlying4 Tryd.underlying4 Tryd.underlying3) hd1
  rw [insRows_cells] at e1
  have b1 : ∃ t fr, W.heap[0]? = some (.cells cs1 t fr) := by
    unfold World.var? at hv1
    simp only [hg1, Option.bind_some] at hv1
    split at hv1
    · rename_i c t fr hc
      cases hv1
      exact ⟨t, fr, hc⟩
    · cases hv1
  obtain ⟨t, fr, hb⟩ := b1
  refine ⟨t, fr, ?_⟩
  have : cs1 = insCells.toArray := by rw [← e1]
  rw [hb, this]
theorem jumpForms_data : (Rows.laid_loop_example_wholeway_impl_jumpForms : DataW Unit) = .agg (jmpRows.map jmpData) := by kernel_rfl
theorem jmpRows_cells : (jmpRows.map jmpCs).flatten = jmpCells := by kernel_rfl
theorem jmpT_of_laid {W : World} {l : List (String × DataW Unit)} (h : laidMet Tryd.prog l W) (h1 : ("loop.example/wholeway/impl.jumpForms", Rows.laid_loop_example_wholeway_impl_jumpForms) ∈ l) : JmpT W := by
  obtain ⟨ps, hv, _, _⟩ := h
  obtain ⟨g1, t1, cs1, f1, p1, hg1, ht1, hv1, hd1⟩ := laid_get hv h1
  obtain rfl := Option.some.inj ((show Tryd.prog.globalNamed "loop.example/wholeway/impl.jumpForms" = some 1 by kernel_rfl).symm.trans hg1)
  obtain rfl := Option.some.inj ((show (Tryd.prog.globals[1]?).map (·.type) = some 142 by kernel_rfl).symm.trans ht1)
  rw [jumpForms_data] at hd1
  have e1 := cells_of_mixed Tryd.underlying142 (n := 3) (C := jmpCs) (by kernel_rfl) (by kernel_rfl) (jmp_trod Tryd.underlying121 (by kernel_rfl) (by kernel_rfl) Tryd.underlying9 Tryd.underlying4 Tryd.underlying3) hd1
  rw [jmpRows_cells] at e1
  have b1 : ∃ t fr, W.heap[1]? = some (.cells cs1 t fr) := by
    unfold World.var? at hv1
    simp only [hg1, Option.bind_some] at hv1
    split at hv1
    · rename_i c t fr hc
      cases hv1
      exact ⟨t, fr, hc⟩
    · cases hv1
  obtain ⟨t, fr, hb⟩ := b1
  refine ⟨t, fr, ?_⟩
  have : cs1 = jmpCells.toArray := by rw [← e1]
  rw [hb, this]
end Go.Proofs.YtomhomnibikceaaDoor
