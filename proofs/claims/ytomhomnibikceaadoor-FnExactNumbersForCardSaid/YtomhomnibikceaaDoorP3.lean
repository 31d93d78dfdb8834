/-
  Arguments that are statements or programs, opened. Nothing of a program stands here.
-/
import Derived.Test.YtomhomnibikceaaDoorP1
import Derived.Test.YtomhomnibikceaaDoorG4
namespace Go.Proofs.YtomhomnibikceaaDoor
open Go.ChangeShapes Go.WideShapes Go.ChangeAt Go.RowKit Go.WideMaps Go.Deep

section
variable {H : Type} {enc : TypeId × Value → H} {P : Program} {w : World} {base : Nat} {spare : Nat → Bool} {held : Bool}
/-- A slice that can be read: a list, if its elements are read. -/
theorem open_list {α : Type} {R : α → List Value → Prop} {t e : TypeId} {fuel k : Nat} {cs : List Value} {x : DataW H × List MemPlace} (ht : P.underlying t = some (.slice e)) (hk : P.cellsOf e = k) (hk0 : 0 < k)
    (h : DataW.trod enc P w base spare held fuel t cs = some x) (hel : ∀ n, n < fuel → ∀ cs' y, DataW.trod enc P w base spare held n e cs' = some y → ∃ a : α, R a cs') :
    ∃ (l : List α) (A : Option Addr) (cap : Nat), cs = [.slice A l.length cap] ∧ l.length ≤ maxLen ∧ (l = [] ∨ ∃ b o, A = some ⟨b, o, none⟩ ∧ b < w.heap.size ∧ ∀ i, (h : i < l.length) → ∃ cs', R l[i] cs' ∧ ∀ j, j < k → w.cell? ⟨b, o + (i * k + j), none⟩ = cs'[j]?) := by
  rcases slice_elems ht h with hd | ⟨ad, len, cap, n2, hf2, hd, hm, he⟩
  · exact ⟨[], none, 0, hd, Nat.zero_le _, .inl rfl⟩
  · rw [hk] at he
    obtain ⟨l, hll, hlp⟩ := list_of (p := fun i (a : α) => ∃ cs', R a cs' ∧ cs'.length = k ∧ ∀ j, j < k → w.cell? (ad.add (i * k + j)) = cs'[j]?) len (fun i hi => by
      obtain ⟨cs', y, hl', hc', htr⟩ := he i hi
      obtain ⟨a, ha⟩ := hel n2 (by omega) cs' y htr
      exact ⟨a, cs', ha, hl', hc'⟩)
    subst hll
    refine ⟨l, some ad, cap, hd, hm, ?_⟩
    cases l with
    | nil => exact .inl rfl
    | cons k0 kr =>
      obtain ⟨cs', _, hl', q0⟩ := hlp 0 (by simp)
      have q0 := q0 0 hk0
      rw [List.getElem?_eq_getElem (by omega)] at q0
      obtain ⟨ea, eb⟩ := cell_addr q0
      obtain ⟨b, o, xx⟩ := ad
      have hx0 : xx = none := by
        have e0 : (⟨b, o, xx⟩ : Addr).add (0 * k + 0) = ⟨b, o, xx⟩ := by simp [Addr.add]
        rw [e0] at ea
        injection ea
      subst hx0
      rw [addr_add] at eb
      refine .inr ⟨b, o, rfl, eb, fun i hi => ?_⟩
      obtain ⟨cs', h1, _, h2⟩ := hlp i hi
      exact ⟨cs', h1, fun j hj => by rw [← addr_add]; exact h2 j hj⟩
variable {e : TypeId} {f0 f1 f2 f3 : Field}
theorem open_exprS (he : P.underlying e = some (.struct #[f0, f1, f2, f3])) (hone : oneCellFields P #[f0, f1, f2, f3] = true) (hC : P.cellsOf e = 4)
    (hi0 : P.underlying f0.type = some (.int .i64)) (hi1 : P.underlying f1.type = some (.int .i64)) (hs : P.underlying f2.type = some .string) (ht : P.underlying f3.type = some (.slice e))
    {t : TypeId} {fuel : Nat} {cs : List Value} {x : DataW H × List MemPlace} (htt : P.underlying t = some (.slice e)) (h : DataW.trod enc P w base spare held fuel t cs = some x) :
    ∃ (l : List E) (A : Option Addr) (cap : Nat), cs = [.slice A l.length cap] ∧ l.length ≤ maxLen ∧ PdS w (Lt w.heap.size) l A ∧ SmL l := by
  obtain ⟨l, A, cap, rfl, hl, hr⟩ := open_list (R := fun (k : E) cs' => ∃ A cap, cs' = [.int .i64 k.op, .int .i64 k.n, .string k.name, .slice A k.kids.length cap] ∧ RdS w w.heap.size k.kids A ∧ SmE k) htt hC (by omega) h
    (fun n _ cs' y hy => by
      obtain ⟨k, A, cap, h1, h2, h3⟩ := expr_trod he hone hC hi0 hi1 hs ht n n (Nat.le_refl _) cs' y hy
      exact ⟨k, A, cap, h1, h2, h3⟩)
  refine ⟨l, A, cap, rfl, hl, ?_⟩
  rcases hr with rfl | ⟨b, o, rfl, hb, hr⟩
  · exact ⟨.inl rfl, by rw [SmL]; trivial⟩
  · refine ⟨.inr ⟨b, o, rfl, hb, PdC.mk fun i hi => ?_⟩, SmL_mk fun k hk => ?_⟩
    · obtain ⟨_, ⟨A', cap', rfl, hrd, _⟩, hc⟩ := hr i hi
      exact ⟨⟨hc 0 (by omega), hc 1 (by omega), hc 2 (by omega)⟩, A', cap', hc 3 (by omega), hrd.pd⟩
    · obtain ⟨j, hj, rfl⟩ := List.getElem_of_mem hk
      obtain ⟨_, ⟨_, _, _, _, hsm⟩, _⟩ := hr j hj
      exact hsm
theorem open_strS {s t : TypeId} {fuel : Nat} {cs : List Value} {x : DataW H × List MemPlace} (hs : P.underlying s = some .string) (hC : P.cellsOf s = 1) (htt : P.underlying t = some (.slice s)) (h : DataW.trod enc P w base spare held fuel t cs = some x) :
    ∃ (l : List ByteArray) (A : Option Addr) (cap : Nat), cs = [.slice A l.length cap] ∧ l.length ≤ maxLen ∧ StrS w (Lt w.heap.size) l A ∧ ∀ s ∈ l, s.size ≤ maxLen := by
  obtain ⟨l, A, cap, rfl, hl, hr⟩ := open_list (R := fun (k : ByteArray) cs' => cs' = [.string k] ∧ k.size ≤ maxLen) htt hC (by omega) h
    (fun n _ cs' y hy => by
      obtain ⟨z, h1, _, h2⟩ := DataW.trod_string hs hy
      exact ⟨z, h1, h2⟩)
  refine ⟨l, A, cap, rfl, hl, ?_⟩
  rcases hr with rfl | ⟨b, o, rfl, hb, hr⟩
  · exact ⟨.inl rfl, fun s h => by cases h⟩
  · refine ⟨.inr ⟨b, o, rfl, hb, fun i hi => ?_⟩, fun k hk => ?_⟩
    · obtain ⟨_, ⟨rfl, _⟩, hc⟩ := hr i hi
      have := hc 0 (by omega)
      rw [Nat.mul_one, Nat.add_zero] at this
      exact this
    · obtain ⟨j, hj, rfl⟩ := List.getElem_of_mem hk
      obtain ⟨_, ⟨_, h2⟩, _⟩ := hr j hj
      exact h2
variable {s : TypeId} {g0 g1 g2 g3 g4 : Field}
theorem stmt_trod (he : P.underlying e = some (.struct #[f0, f1, f2, f3])) (hone : oneCellFields P #[f0, f1, f2, f3] = true) (hC : P.cellsOf e = 4)
    (hi0 : P.underlying f0.type = some (.int .i64)) (hi1 : P.underlying f1.type = some (.int .i64)) (hs : P.underlying f2.type = some .string) (ht : P.underlying f3.type = some (.slice e))
    (hs' : P.underlying s = some (.struct #[g0, g1, g2, g3, g4])) (hone' : oneCellFields P #[g0, g1, g2, g3, g4] = true) (hC' : P.cellsOf s = 5)
    (k0 : P.underlying g0.type = some (.int .i64)) (k1 : P.underlying g1.type = some .string) (k2 : P.underlying g2.type = some (.slice e)) (k3 : P.underlying g3.type = some (.slice s)) (k4 : P.underlying g4.type = some (.slice s)) :
    ∀ (N n : Nat) (_ : n ≤ N) (cs : List Value) (x : DataW H × List MemPlace), DataW.trod enc P w base spare held n s cs = some x →
    ∃ (k : St), (∃ A1 c1 A2 c2 A3 c3, cs = [.int .i64 k.op, .string k.name, .slice A1 k.args.length c1, .slice A2 k.body.length c2, .slice A3 k.els.length c3] ∧ PdS w (Lt w.heap.size) k.args A1 ∧ StS w (Lt w.heap.size) k.body A2 ∧ StS w (Lt w.heap.size) k.els A3) ∧ SmT k := by
  intro N
  induction N with
  | zero =>
    intro n hn cs x h
    obtain ⟨_, _, hf, _⟩ := DataW.trod_struct hs' h
    omega
  | succ N ih =>
    intro n hn cs x h
    obtain ⟨ys, n', hfu, _, hl, hyl, hf⟩ := DataW.trod_struct hs' h
    rw [hC'] at hl
    obtain ⟨o0, c0⟩ := hone_of hone' 0 g0 rfl
    obtain ⟨o1, c1⟩ := hone_of hone' 1 g1 rfl
    obtain ⟨o2, c2⟩ := hone_of hone' 2 g2 rfl
    obtain ⟨o3, c3⟩ := hone_of hone' 3 g3 rfl
    obtain ⟨o4, c4⟩ := hone_of hone' 4 g4 rfl
    have list : ∀ (t : TypeId) (v : Value) (y : DataW H × List MemPlace), P.underlying t = some (.slice s) → DataW.trod enc P w base spare held n' t [v] = some y → ∃ (l : List St) (A : Option Addr) (cap : Nat), v = .slice A l.length cap ∧ l.length ≤ maxLen ∧ StS w (Lt w.heap.size) l A ∧ SmTL l := by
      intro t v y htt hy
      obtain ⟨l, A, cap, e1, hl, hr⟩ := open_list htt hC' (by omega) hy (fun m hm cs' y' hy' => ih m (by omega) cs' y' hy')
      injection e1 with e1 _
      refine ⟨l, A, cap, e1, hl, ?_⟩
      rcases hr with rfl | ⟨b, o, rfl, hb, hr⟩
      · exact ⟨.inl rfl, by rw [SmTL]; trivial⟩
      · refine ⟨.inr ⟨b, o, rfl, hb, StC.mk fun i hi => ?_⟩, SmTL_mk fun k hk => ?_⟩
        · obtain ⟨_, ⟨⟨A1, d1, A2, d2, A3, d3, rfl, r1, r2, r3⟩, _⟩, hc⟩ := hr i hi
          exact ⟨⟨hc 0 (by omega), hc 1 (by omega)⟩, ⟨A1, d1, hc 2 (by omega), r1⟩, ⟨A2, d2, hc 3 (by omega), r2⟩, A3, d3, hc 4 (by omega), r3⟩
        · obtain ⟨j, hj, rfl⟩ := List.getElem_of_mem hk
          obtain ⟨_, ⟨_, hsm⟩, _⟩ := hr j hj
          exact hsm
    match cs, hl with
    | [a, b, c, d, q], _ =>
      match ys, hyl with
      | [y0, y1, y2, y3, y4], _ =>
        have h0 := hf 0 g0 rfl
        have h1 := hf 1 g1 rfl
        have h2 := hf 2 g2 rfl
        have h3 := hf 3 g3 rfl
        have h4 := hf 4 g4 rfl
        rw [o0, c0] at h0
        rw [o1, c1] at h1
        rw [o2, c2] at h2
        rw [o3, c3] at h3
        rw [o4, c4] at h4
        obtain ⟨op, e1, _, _⟩ := DataW.trod_int k0 (show DataW.trod enc P w base spare held n' g0.type [a] = some y0 from h0)
        obtain ⟨z, e2, _, hz⟩ := DataW.trod_string k1 (show DataW.trod enc P w base spare held n' g1.type [b] = some y1 from h1)
        obtain ⟨l2, A2, d2, e3, hl2, r2, m2⟩ := open_exprS he hone hC hi0 hi1 hs ht k2 (show DataW.trod enc P w base spare held n' g2.type [c] = some y2 from h2)
        obtain ⟨l3, A3, d3, e4, hl3, r3, m3⟩ := list g3.type d y3 k3 (show DataW.trod enc P w base spare held n' g3.type [d] = some y3 from h3)
        obtain ⟨l4, A4, d4, e5, hl4, r4, m4⟩ := list g4.type q y4 k4 (show DataW.trod enc P w base spare held n' g4.type [q] = some y4 from h4)
        injection e1 with e1 _
        injection e2 with e2 _
        injection e3 with e3 _
        subst e1; subst e2; subst e3; subst e4; subst e5
        refine ⟨.mk op z l2 l3 l4, ⟨A2, d2, A3, d3, A4, d4, rfl, r2, r3, r4⟩, ?_⟩
        rw [SmT_mk]
        exact ⟨hz, m2, hl2, hl3, m3, hl4, m4⟩
theorem open_stmt {r : Reach} {b0 : Nat} {v : Value} {d : DataW H} {p : List MemPlace} (he : P.underlying e = some (.struct #[f0, f1, f2, f3])) (hone : oneCellFields P #[f0, f1, f2, f3] = true) (hC : P.cellsOf e = 4)
    (hi0 : P.underlying f0.type = some (.int .i64)) (hi1 : P.underlying f1.type = some (.int .i64)) (hs : P.underlying f2.type = some .string) (ht : P.underlying f3.type = some (.slice e))
    (hs' : P.underlying s = some (.struct #[g0, g1, g2, g3, g4])) (hone' : oneCellFields P #[g0, g1, g2, g3, g4] = true) (hC' : P.cellsOf s = 5)
    (k0 : P.underlying g0.type = some (.int .i64)) (k1 : P.underlying g1.type = some .string) (k2 : P.underlying g2.type = some (.slice e)) (k3 : P.underlying g3.type = some (.slice s)) (k4 : P.underlying g4.type = some (.slice s))
    (hv : Value.okWide P w r b0 s v) (h : DataW.Trod enc P w base spare held s v d p) : ∃ k : St, StV w (Lt w.heap.size) k v ∧ SmT k := by
  obtain ⟨cs, rfl, hsz⟩ := okWide_struct hs' hv
  obtain ⟨n, hn⟩ := h
  obtain ⟨k, ⟨A1, c1, A2, c2, A3, c3, e1, r⟩, hm⟩ := stmt_trod he hone hC hi0 hi1 hs ht hs' hone' hC' k0 k1 k2 k3 k4 n n (Nat.le_refl _) _ _ hn
  refine ⟨k, ⟨A1, c1, A2, c2, A3, c3, ?_, r⟩, hm⟩
  congr 1
  exact Array.ext' (by simpa [Value.cells] using e1)
variable {f q tp ts : TypeId} {u0 u1 u2 v0 : Field}
theorem open_program {r : Reach} {b0 : Nat} {v : Value} {d : DataW H} {p : List MemPlace} (he : P.underlying e = some (.struct #[f0, f1, f2, f3])) (hone : oneCellFields P #[f0, f1, f2, f3] = true) (hC : P.cellsOf e = 4)
    (hi0 : P.underlying f0.type = some (.int .i64)) (hi1 : P.underlying f1.type = some (.int .i64)) (hs : P.underlying f2.type = some .string) (ht : P.underlying f3.type = some (.slice e))
    (hs' : P.underlying s = some (.struct #[g0, g1, g2, g3, g4])) (hone' : oneCellFields P #[g0, g1, g2, g3, g4] = true) (hC' : P.cellsOf s = 5)
    (k0 : P.underlying g0.type = some (.int .i64)) (k1 : P.underlying g1.type = some .string) (k2 : P.underlying g2.type = some (.slice e)) (k3 : P.underlying g3.type = some (.slice s)) (k4 : P.underlying g4.type = some (.slice s))
    (hf' : P.underlying f = some (.struct #[u0, u1, u2])) (hone2 : oneCellFields P #[u0, u1, u2] = true) (hC2 : P.cellsOf f = 3)
    (n0 : P.underlying u0.type = some .string) (n1 : P.underlying u1.type = some (.slice ts)) (nts : P.underlying ts = some .string) (nC : P.cellsOf ts = 1) (n2 : P.underlying u2.type = some (.slice s))
    (hq : P.underlying q = some (.struct #[v0])) (hone3 : oneCellFields P #[v0] = true) (hC3 : P.cellsOf q = 1) (m0 : P.underlying v0.type = some (.slice f))
    (hv : Value.okWide P w r b0 q v) (h : DataW.Trod enc P w base spare held q v d p) : ∃ k : List Fu, PrV w (Lt w.heap.size) k v ∧ SmP k := by
  obtain ⟨cs, rfl, hsz⟩ := okWide_struct hq hv
  obtain ⟨n, hn⟩ := h
  obtain ⟨ys, n', hfu, _, hl, hyl, hf⟩ := DataW.trod_struct hq hn
  rw [hC3] at hl
  obtain ⟨o0, c0⟩ := hone_of hone3 0 v0 rfl
  have hcs : (Value.agg cs).cells.toList = cs.toList := by simp [Value.cells]
  obtain ⟨a, ha⟩ : ∃ a, cs.toList = [a] := by
    rw [hcs] at hl
    match cs.toList, hl with
    | [a], _ => exact ⟨a, rfl⟩
  match ys, hyl with
  | [y0], _ =>
    have h0 := hf 0 v0 rfl
    rw [o0, c0, hcs, ha] at h0
    obtain ⟨l, A, cap, e1, hl1, hr⟩ := open_list (R := fun (k : Fu) cs' => (∃ A1 c1 A2 c2, cs' = [.string k.name, .slice A1 k.params.length c1, .slice A2 k.body.length c2] ∧ StrS w (Lt w.heap.size) k.params A1 ∧ StS w (Lt w.heap.size) k.body A2) ∧ SmF k) m0 hC2 (by omega) (show DataW.trod enc P w base spare held n' v0.type [a] = some y0 from h0)
      (fun m hm cs' y hy => by
        obtain ⟨ys', m', _, _, hl', hyl', hf2⟩ := DataW.trod_struct hf' hy
        rw [hC2] at hl'
        obtain ⟨p0, d0⟩ := hone_of hone2 0 u0 rfl
        obtain ⟨p1, d1⟩ := hone_of hone2 1 u1 rfl
        obtain ⟨p2, d2⟩ := hone_of hone2 2 u2 rfl
        match cs', hl' with
        | [a, b, c], _ =>
          match ys', hyl' with
          | [z0, z1, z2], _ =>
            have i0 := hf2 0 u0 rfl
            have i1 := hf2 1 u1 rfl
            have i2 := hf2 2 u2 rfl
            rw [p0, d0] at i0
            rw [p1, d1] at i1
            rw [p2, d2] at i2
            obtain ⟨z, e2, _, hz⟩ := DataW.trod_string n0 (show DataW.trod enc P w base spare held m' u0.type [a] = some z0 from i0)
            obtain ⟨l3, A3, d3, e3, hl3, r3, m3⟩ := open_strS nts nC n1 (show DataW.trod enc P w base spare held m' u1.type [b] = some z1 from i1)
            obtain ⟨l4, A4, d4, e4, hl4, hr4⟩ := open_list n2 hC' (by omega) (show DataW.trod enc P w base spare held m' u2.type [c] = some z2 from i2) (fun j _ cs' y' hy' => stmt_trod he hone hC hi0 hi1 hs ht hs' hone' hC' k0 k1 k2 k3 k4 j j (Nat.le_refl _) cs' y' hy')
            injection e2 with e2 _
            injection e3 with e3 _
            injection e4 with e4 _
            subst e2; subst e3; subst e4
            have hst : StS w (Lt w.heap.size) l4 A4 ∧ SmTL l4 := by
              rcases hr4 with rfl | ⟨b, o, rfl, hb, hr4⟩
              · exact ⟨.inl rfl, by rw [SmTL]; trivial⟩
              · refine ⟨.inr ⟨b, o, rfl, hb, StC.mk fun i hi => ?_⟩, SmTL_mk fun k hk => ?_⟩
                · obtain ⟨_, ⟨⟨A1, d1, A2, d2, A3, d3, rfl, r1, r2, r3⟩, _⟩, hc⟩ := hr4 i hi
                  exact ⟨⟨hc 0 (by omega), hc 1 (by omega)⟩, ⟨A1, d1, hc 2 (by omega), r1⟩, ⟨A2, d2, hc 3 (by omega), r2⟩, A3, d3, hc 4 (by omega), r3⟩
                · obtain ⟨j, hj, rfl⟩ := List.getElem_of_mem hk
                  obtain ⟨_, ⟨_, hsm⟩, _⟩ := hr4 j hj
                  exact hsm
            exact ⟨⟨z, l3, l4⟩, ⟨A3, d3, A4, d4, rfl, r3, hst.1⟩, hz, m3, hl3, hl4, hst.2⟩)
    injection e1 with e1 _
    subst e1
    have hcs' : cs = #[.slice A l.length cap] := Array.ext' ha
    subst hcs'
    refine ⟨l, ⟨A, cap, rfl, ?_⟩, hl1, fun k hk => ?_⟩
    · rcases hr with rfl | ⟨b, o, rfl, hb, hr⟩
      · exact .inl rfl
      · refine .inr ⟨b, o, rfl, hb, fun i hi => ?_⟩
        obtain ⟨_, ⟨⟨A1, d1, A2, d2, rfl, r1, r2⟩, _⟩, hc⟩ := hr i hi
        exact ⟨hc 0 (by omega), ⟨A1, d1, hc 1 (by omega), r1⟩, A2, d2, hc 2 (by omega), r2⟩
    · rcases hr with rfl | ⟨b, o, rfl, hb, hr⟩
      · cases hk
      · obtain ⟨j, hj, rfl⟩ := List.getElem_of_mem hk
        obtain ⟨_, ⟨_, hsm⟩, _⟩ := hr j hj
        exact hsm
end
end Go.Proofs.YtomhomnibikceaaDoor
