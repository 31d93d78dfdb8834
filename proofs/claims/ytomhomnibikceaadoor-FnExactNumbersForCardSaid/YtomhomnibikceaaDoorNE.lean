/-
  Arguments that are units, codes or instructions, opened. Nothing of a program stands here.
-/
import Derived.Test.YtomhomnibikceaaDoorNA
import Derived.Test.YtomhomnibikceaaDoorP3
namespace Go.Proofs.YtomhomnibikceaaDoor
open Go.ChangeShapes Go.WideShapes Go.ChangeAt Go.RowKit Go.WideMaps Go.Deep

section
variable {H : Type} {enc : TypeId × Value → H} {P : Program} {w : World} {base : Nat} {spare : Nat → Bool} {held : Bool}
/-- Every value of a type that can be read is of a kind. -/
def Opn (enc : TypeId × Value → H) (P : Program) (w : World) (base : Nat) (spare : Nat → Bool) (held : Bool) (t : TypeId) {α : Type} (R : α → List Value → Prop) : Prop :=
  ∀ n cs y, DataW.trod enc P w base spare held n t cs = some y → ∃ a : α, R a cs
theorem opn_num {i : TypeId} (hi : P.underlying i = some (.int .i64)) : Opn enc P w base spare held i (fun (n : Int) cs => cs = [.int .i64 n]) := fun n cs y h => by
  obtain ⟨z, e, _⟩ := DataW.trod_int hi h
  exact ⟨z, e⟩
theorem opn_nums {i t : TypeId} (hi : P.underlying i = some (.int .i64)) (hC : P.cellsOf i = 1) (ht : P.underlying t = some (.slice i)) :
    Opn enc P w base spare held t (fun (l : List Int) cs => ∃ A c, cs = [.slice A l.length c] ∧ NumS w (Lt w.heap.size) l A ∧ l.length ≤ maxLen) := fun n cs y h => by
  obtain ⟨l, A, cap, rfl, hl, hr⟩ := open_list ht hC (by omega) h (fun n _ cs' y' h' => opn_num hi n cs' y' h')
  refine ⟨l, A, cap, rfl, ?_, hl⟩
  rcases hr with rfl | ⟨b, o, rfl, hb, hr⟩
  · exact .inl rfl
  · refine .inr ⟨b, o, rfl, hb, fun i hi => ?_⟩
    obtain ⟨_, rfl, hc⟩ := hr i hi
    exact hc 0 (by omega)
def PhR (w : World) (x : Ph) (cs : List Value) : Prop := (∃ A1 c1, cs = [.int .i64 x.to, .slice A1 x.args.length c1] ∧ NumS w (Lt w.heap.size) x.args A1) ∧ SmPh x
theorem opn_Ph {e : TypeId} {u0 u1 : Field} (he : P.underlying e = some (.struct #[u0, u1])) (hone : oneCellFields P #[u0, u1] = true) (hC : P.cellsOf e = 2)
    (k0 : P.underlying u0.type = some (.int .i64)) (k1 : Opn enc P w base spare held u1.type (fun (l : List Int) cs => ∃ A c, cs = [.slice A l.length c] ∧ NumS w (Lt w.heap.size) l A ∧ l.length ≤ maxLen)) : Opn enc P w base spare held e (PhR w) := fun n cs x h => by
  obtain ⟨ys, n', hfu, _, hl, hyl, hf⟩ := DataW.trod_struct he h
  rw [hC] at hl
  obtain ⟨o0, c0⟩ := hone_of hone 0 u0 rfl
  obtain ⟨o1, c1⟩ := hone_of hone 1 u1 rfl
  match cs, hl with
  | [a0, a1], _ =>
    match ys, hyl with
    | [y0, y1], _ =>
      have h0 := hf 0 u0 rfl
      rw [o0, c0] at h0
      have h1 := hf 1 u1 rfl
      rw [o1, c1] at h1
      obtain ⟨z0, x0, _⟩ := DataW.trod_int k0 (show DataW.trod enc P w base spare held n' u0.type [a0] = some y0 from h0)
      injection x0 with x0 _
      obtain ⟨z1, A1, d1, x1, r1, m1⟩ := k1 n' [a1] y1 h1
      injection x1 with x1 _
      subst x0 x1
      exact ⟨⟨z0, z1⟩, ⟨A1, d1, rfl, r1⟩, m1⟩
theorem opn_PhS {e t : TypeId} (he : Opn enc P w base spare held e (PhR w)) (hC : P.cellsOf e = 2) (ht : P.underlying t = some (.slice e)) :
    Opn enc P w base spare held t (fun (l : List Ph) cs => ∃ A c, cs = [.slice A l.length c] ∧ PhS w (Lt w.heap.size) l A ∧ SmR SmPh l) := fun n cs y h => by
  obtain ⟨l, A, cap, rfl, hl, hr⟩ := open_list ht hC (by omega) h (fun n _ cs' y' h' => he n cs' y' h')
  refine ⟨l, A, cap, rfl, ?_, hl, fun x hx => ?_⟩
  · rcases hr with rfl | ⟨b, o, rfl, hb, hr⟩
    · exact .inl rfl
    · refine .inr ⟨b, o, rfl, hb, fun i hi => ?_⟩
      obtain ⟨_, ⟨⟨A1, c1, rfl, r1⟩, _⟩, hc⟩ := hr i hi
      exact ⟨hc 0 (by omega), ⟨A1, c1, hc 1 (by omega), r1⟩⟩
  · rcases hr with rfl | ⟨b, o, rfl, hb, hr⟩
    · cases hx
    · obtain ⟨i, hi, rfl⟩ := List.getElem_of_mem hx
      obtain ⟨_, ⟨_, hs⟩, _⟩ := hr i hi
      exact hs
theorem open_Ph {e : TypeId} {fl : Array Field} (hu : P.underlying e = some (.struct fl)) (he : Opn enc P w base spare held e (PhR w)) {r : Reach} {b0 : Nat} {v : Value} {d : DataW H} {p : List MemPlace} (hv : Value.okWide P w r b0 e v) (h : DataW.Trod enc P w base spare held e v d p) : ∃ k : Ph, PhV w (Lt w.heap.size) k v ∧ SmPh k := by
  obtain ⟨cs, rfl, hsz⟩ := okWide_struct hu hv
  obtain ⟨n, hn⟩ := h
  obtain ⟨k, ⟨A1, c1, e1, r⟩, hm⟩ := he n _ _ hn
  refine ⟨k, ⟨A1, c1, ?_, r⟩, hm⟩
  congr 1
  exact Array.ext' (by simpa [Value.cells] using e1)
def IkR (w : World) (x : Ik) (cs : List Value) : Prop := (∃ A2 c2, cs = [.int .i64 x.op, .int .i64 x.to, .slice A2 x.args.length c2, .int .i64 x.n] ∧ NumS w (Lt w.heap.size) x.args A2) ∧ SmIk x
theorem opn_Ik {e : TypeId} {u0 u1 u2 u3 : Field} (he : P.underlying e = some (.struct #[u0, u1, u2, u3])) (hone : oneCellFields P #[u0, u1, u2, u3] = true) (hC : P.cellsOf e = 4)
    (k0 : P.underlying u0.type = some (.int .i64)) (k1 : P.underlying u1.type = some (.int .i64)) (k2 : Opn enc P w base spare held u2.type (fun (l : List Int) cs => ∃ A c, cs = [.slice A l.length c] ∧ NumS w (Lt w.heap.size) l A ∧ l.length ≤ maxLen)) (k3 : P.underlying u3.type = some (.int .i64)) : Opn enc P w base spare held e (IkR w) := fun n cs x h => by
  obtain ⟨ys, n', hfu, _, hl, hyl, hf⟩ := DataW.trod_struct he h
  rw [hC] at hl
  obtain ⟨o0, c0⟩ := hone_of hone 0 u0 rfl
  obtain ⟨o1, c1⟩ := hone_of hone 1 u1 rfl
  obtain ⟨o2, c2⟩ := hone_of hone 2 u2 rfl
  obtain ⟨o3, c3⟩ := hone_of hone 3 u3 rfl
  match cs, hl with
  | [a0, a1, a2, a3], _ =>
    match ys, hyl with
    | [y0, y1, y2, y3], _ =>
      have h0 := hf 0 u0 rfl
      rw [o0, c0] at h0
      have h1 := hf 1 u1 rfl
      rw [o1, c1] at h1
      have h2 := hf 2 u2 rfl
      rw [o2, c2] at h2
      have h3 := hf 3 u3 rfl
      rw [o3, c3] at h3
      obtain ⟨z0, x0, _⟩ := DataW.trod_int k0 (show DataW.trod enc P w base spare held n' u0.type [a0] = some y0 from h0)
      injection x0 with x0 _
      obtain ⟨z1, x1, _⟩ := DataW.trod_int k1 (show DataW.trod enc P w base spare held n' u1.type [a1] = some y1 from h1)
      injection x1 with x1 _
      obtain ⟨z2, A2, d2, x2, r2, m2⟩ := k2 n' [a2] y2 h2
      injection x2 with x2 _
      obtain ⟨z3, x3, _⟩ := DataW.trod_int k3 (show DataW.trod enc P w base spare held n' u3.type [a3] = some y3 from h3)
      injection x3 with x3 _
      subst x0 x1 x2 x3
      exact ⟨⟨z0, z1, z2, z3⟩, ⟨A2, d2, rfl, r2⟩, m2⟩
theorem opn_IkS {e t : TypeId} (he : Opn enc P w base spare held e (IkR w)) (hC : P.cellsOf e = 4) (ht : P.underlying t = some (.slice e)) :
    Opn enc P w base spare held t (fun (l : List Ik) cs => ∃ A c, cs = [.slice A l.length c] ∧ IkS w (Lt w.heap.size) l A ∧ SmR SmIk l) := fun n cs y h => by
  obtain ⟨l, A, cap, rfl, hl, hr⟩ := open_list ht hC (by omega) h (fun n _ cs' y' h' => he n cs' y' h')
  refine ⟨l, A, cap, rfl, ?_, hl, fun x hx => ?_⟩
  · rcases hr with rfl | ⟨b, o, rfl, hb, hr⟩
    · exact .inl rfl
    · refine .inr ⟨b, o, rfl, hb, fun i hi => ?_⟩
      obtain ⟨_, ⟨⟨A2, c2, rfl, r2⟩, _⟩, hc⟩ := hr i hi
      exact ⟨hc 0 (by omega), hc 1 (by omega), ⟨A2, c2, hc 2 (by omega), r2⟩, hc 3 (by omega)⟩
  · rcases hr with rfl | ⟨b, o, rfl, hb, hr⟩
    · cases hx
    · obtain ⟨i, hi, rfl⟩ := List.getElem_of_mem hx
      obtain ⟨_, ⟨_, hs⟩, _⟩ := hr i hi
      exact hs
theorem open_Ik {e : TypeId} {fl : Array Field} (hu : P.underlying e = some (.struct fl)) (he : Opn enc P w base spare held e (IkR w)) {r : Reach} {b0 : Nat} {v : Value} {d : DataW H} {p : List MemPlace} (hv : Value.okWide P w r b0 e v) (h : DataW.Trod enc P w base spare held e v d p) : ∃ k : Ik, IkV w (Lt w.heap.size) k v ∧ SmIk k := by
  obtain ⟨cs, rfl, hsz⟩ := okWide_struct hu hv
  obtain ⟨n, hn⟩ := h
  obtain ⟨k, ⟨A2, c2, e1, r⟩, hm⟩ := he n _ _ hn
  refine ⟨k, ⟨A2, c2, ?_, r⟩, hm⟩
  congr 1
  exact Array.ext' (by simpa [Value.cells] using e1)
def BkR (w : World) (x : Bk) (cs : List Value) : Prop := (∃ A0 c0 A1 c1 A4 c4, cs = [.slice A0 x.phis.length c0, .slice A1 x.ins.length c1, .int .i64 x.jump, .int .i64 x.on, .slice A4 x.next.length c4] ∧ PhS w (Lt w.heap.size) x.phis A0 ∧ IkS w (Lt w.heap.size) x.ins A1 ∧ NumS w (Lt w.heap.size) x.next A4) ∧ SmBk x
theorem opn_Bk {e : TypeId} {u0 u1 u2 u3 u4 : Field} (he : P.underlying e = some (.struct #[u0, u1, u2, u3, u4])) (hone : oneCellFields P #[u0, u1, u2, u3, u4] = true) (hC : P.cellsOf e = 5)
    (k0 : Opn enc P w base spare held u0.type (fun (l : List Ph) cs => ∃ A c, cs = [.slice A l.length c] ∧ PhS w (Lt w.heap.size) l A ∧ SmR SmPh l)) (k1 : Opn enc P w base spare held u1.type (fun (l : List Ik) cs => ∃ A c, cs = [.slice A l.length c] ∧ IkS w (Lt w.heap.size) l A ∧ SmR SmIk l)) (k2 : P.underlying u2.type = some (.int .i64)) (k3 : P.underlying u3.type = some (.int .i64)) (k4 : Opn enc P w base spare held u4.type (fun (l : List Int) cs => ∃ A c, cs = [.slice A l.length c] ∧ NumS w (Lt w.heap.size) l A ∧ l.length ≤ maxLen)) : Opn enc P w base spare held e (BkR w) := fun n cs x h => by
  obtain ⟨ys, n', hfu, _, hl, hyl, hf⟩ := DataW.trod_struct he h
  rw [hC] at hl
  obtain ⟨o0, c0⟩ := hone_of hone 0 u0 rfl
  obtain ⟨o1, c1⟩ := hone_of hone 1 u1 rfl
  obtain ⟨o2, c2⟩ := hone_of hone 2 u2 rfl
  obtain ⟨o3, c3⟩ := hone_of hone 3 u3 rfl
  obtain ⟨o4, c4⟩ := hone_of hone 4 u4 rfl
  match cs, hl with
  | [a0, a1, a2, a3, a4], _ =>
    match ys, hyl with
    | [y0, y1, y2, y3, y4], _ =>
      have h0 := hf 0 u0 rfl
      rw [o0, c0] at h0
      have h1 := hf 1 u1 rfl
      rw [o1, c1] at h1
      have h2 := hf 2 u2 rfl
      rw [o2, c2] at h2
      have h3 := hf 3 u3 rfl
      rw [o3, c3] at h3
      have h4 := hf 4 u4 rfl
      rw [o4, c4] at h4
      obtain ⟨z0, A0, d0, x0, r0, m0⟩ := k0 n' [a0] y0 h0
      injection x0 with x0 _
      obtain ⟨z1, A1, d1, x1, r1, m1⟩ := k1 n' [a1] y1 h1
      injection x1 with x1 _
      obtain ⟨z2, x2, _⟩ := DataW.trod_int k2 (show DataW.trod enc P w base spare held n' u2.type [a2] = some y2 from h2)
      injection x2 with x2 _
      obtain ⟨z3, x3, _⟩ := DataW.trod_int k3 (show DataW.trod enc P w base spare held n' u3.type [a3] = some y3 from h3)
      injection x3 with x3 _
      obtain ⟨z4, A4, d4, x4, r4, m4⟩ := k4 n' [a4] y4 h4
      injection x4 with x4 _
      subst x0 x1 x2 x3 x4
      exact ⟨⟨z0, z1, z2, z3, z4⟩, ⟨A0, d0, A1, d1, A4, d4, rfl, r0, r1, r4⟩, m0, m1, m4⟩
theorem opn_BkS {e t : TypeId} (he : Opn enc P w base spare held e (BkR w)) (hC : P.cellsOf e = 5) (ht : P.underlying t = some (.slice e)) :
    Opn enc P w base spare held t (fun (l : List Bk) cs => ∃ A c, cs = [.slice A l.length c] ∧ BkS w (Lt w.heap.size) l A ∧ SmR SmBk l) := fun n cs y h => by
  obtain ⟨l, A, cap, rfl, hl, hr⟩ := open_list ht hC (by omega) h (fun n _ cs' y' h' => he n cs' y' h')
  refine ⟨l, A, cap, rfl, ?_, hl, fun x hx => ?_⟩
  · rcases hr with rfl | ⟨b, o, rfl, hb, hr⟩
    · exact .inl rfl
    · refine .inr ⟨b, o, rfl, hb, fun i hi => ?_⟩
      obtain ⟨_, ⟨⟨A0, c0, A1, c1, A4, c4, rfl, r0, r1, r4⟩, _⟩, hc⟩ := hr i hi
      exact ⟨⟨A0, c0, hc 0 (by omega), r0⟩, ⟨A1, c1, hc 1 (by omega), r1⟩, hc 2 (by omega), hc 3 (by omega), ⟨A4, c4, hc 4 (by omega), r4⟩⟩
  · rcases hr with rfl | ⟨b, o, rfl, hb, hr⟩
    · cases hx
    · obtain ⟨i, hi, rfl⟩ := List.getElem_of_mem hx
      obtain ⟨_, ⟨_, hs⟩, _⟩ := hr i hi
      exact hs
theorem open_Bk {e : TypeId} {fl : Array Field} (hu : P.underlying e = some (.struct fl)) (he : Opn enc P w base spare held e (BkR w)) {r : Reach} {b0 : Nat} {v : Value} {d : DataW H} {p : List MemPlace} (hv : Value.okWide P w r b0 e v) (h : DataW.Trod enc P w base spare held e v d p) : ∃ k : Bk, BkV w (Lt w.heap.size) k v ∧ SmBk k := by
  obtain ⟨cs, rfl, hsz⟩ := okWide_struct hu hv
  obtain ⟨n, hn⟩ := h
  obtain ⟨k, ⟨A0, c0, A1, c1, A4, c4, e1, r⟩, hm⟩ := he n _ _ hn
  refine ⟨k, ⟨A0, c0, A1, c1, A4, c4, ?_, r⟩, hm⟩
  congr 1
  exact Array.ext' (by simpa [Value.cells] using e1)
def CdR (w : World) (x : Cd) (cs : List Value) : Prop := (∃ A2 c2, cs = [.int .i64 x.params, .int .i64 x.regs, .slice A2 x.blocks.length c2] ∧ BkS w (Lt w.heap.size) x.blocks A2) ∧ SmCd x
theorem opn_Cd {e : TypeId} {u0 u1 u2 : Field} (he : P.underlying e = some (.struct #[u0, u1, u2])) (hone : oneCellFields P #[u0, u1, u2] = true) (hC : P.cellsOf e = 3)
    (k0 : P.underlying u0.type = some (.int .i64)) (k1 : P.underlying u1.type = some (.int .i64)) (k2 : Opn enc P w base spare held u2.type (fun (l : List Bk) cs => ∃ A c, cs = [.slice A l.length c] ∧ BkS w (Lt w.heap.size) l A ∧ SmR SmBk l)) : Opn enc P w base spare held e (CdR w) := fun n cs x h => by
  obtain ⟨ys, n', hfu, _, hl, hyl, hf⟩ := DataW.trod_struct he h
  rw [hC] at hl
  obtain ⟨o0, c0⟩ := hone_of hone 0 u0 rfl
  obtain ⟨o1, c1⟩ := hone_of hone 1 u1 rfl
  obtain ⟨o2, c2⟩ := hone_of hone 2 u2 rfl
  match cs, hl with
  | [a0, a1, a2], _ =>
    match ys, hyl with
    | [y0, y1, y2], _ =>
      have h0 := hf 0 u0 rfl
      rw [o0, c0] at h0
      have h1 := hf 1 u1 rfl
      rw [o1, c1] at h1
      have h2 := hf 2 u2 rfl
      rw [o2, c2] at h2
      obtain ⟨z0, x0, _⟩ := DataW.trod_int k0 (show DataW.trod enc P w base spare held n' u0.type [a0] = some y0 from h0)
      injection x0 with x0 _
      obtain ⟨z1, x1, _⟩ := DataW.trod_int k1 (show DataW.trod enc P w base spare held n' u1.type [a1] = some y1 from h1)
      injection x1 with x1 _
      obtain ⟨z2, A2, d2, x2, r2, m2⟩ := k2 n' [a2] y2 h2
      injection x2 with x2 _
      subst x0 x1 x2
      exact ⟨⟨z0, z1, z2⟩, ⟨A2, d2, rfl, r2⟩, m2⟩
theorem opn_CdS {e t : TypeId} (he : Opn enc P w base spare held e (CdR w)) (hC : P.cellsOf e = 3) (ht : P.underlying t = some (.slice e)) :
    Opn enc P w base spare held t (fun (l : List Cd) cs => ∃ A c, cs = [.slice A l.length c] ∧ CdS w (Lt w.heap.size) l A ∧ SmR SmCd l) := fun n cs y h => by
  obtain ⟨l, A, cap, rfl, hl, hr⟩ := open_list ht hC (by omega) h (fun n _ cs' y' h' => he n cs' y' h')
  refine ⟨l, A, cap, rfl, ?_, hl, fun x hx => ?_⟩
  · rcases hr with rfl | ⟨b, o, rfl, hb, hr⟩
    · exact .inl rfl
    · refine .inr ⟨b, o, rfl, hb, fun i hi => ?_⟩
      obtain ⟨_, ⟨⟨A2, c2, rfl, r2⟩, _⟩, hc⟩ := hr i hi
      exact ⟨hc 0 (by omega), hc 1 (by omega), ⟨A2, c2, hc 2 (by omega), r2⟩⟩
  · rcases hr with rfl | ⟨b, o, rfl, hb, hr⟩
    · cases hx
    · obtain ⟨i, hi, rfl⟩ := List.getElem_of_mem hx
      obtain ⟨_, ⟨_, hs⟩, _⟩ := hr i hi
      exact hs
theorem open_Cd {e : TypeId} {fl : Array Field} (hu : P.underlying e = some (.struct fl)) (he : Opn enc P w base spare held e (CdR w)) {r : Reach} {b0 : Nat} {v : Value} {d : DataW H} {p : List MemPlace} (hv : Value.okWide P w r b0 e v) (h : DataW.Trod enc P w base spare held e v d p) : ∃ k : Cd, CdV w (Lt w.heap.size) k v ∧ SmCd k := by
  obtain ⟨cs, rfl, hsz⟩ := okWide_struct hu hv
  obtain ⟨n, hn⟩ := h
  obtain ⟨k, ⟨A2, c2, e1, r⟩, hm⟩ := he n _ _ hn
  refine ⟨k, ⟨A2, c2, ?_, r⟩, hm⟩
  congr 1
  exact Array.ext' (by simpa [Value.cells] using e1)
def UnR (w : World) (x : Un) (cs : List Value) : Prop := (∃ A0 c0, cs = [.slice A0 x.codes.length c0] ∧ CdS w (Lt w.heap.size) x.codes A0) ∧ SmUn x
theorem opn_Un {e : TypeId} {u0 : Field} (he : P.underlying e = some (.struct #[u0])) (hone : oneCellFields P #[u0] = true) (hC : P.cellsOf e = 1)
    (k0 : Opn enc P w base spare held u0.type (fun (l : List Cd) cs => ∃ A c, cs = [.slice A l.length c] ∧ CdS w (Lt w.heap.size) l A ∧ SmR SmCd l)) : Opn enc P w base spare held e (UnR w) := fun n cs x h => by
  obtain ⟨ys, n', hfu, _, hl, hyl, hf⟩ := DataW.trod_struct he h
  rw [hC] at hl
  obtain ⟨o0, c0⟩ := hone_of hone 0 u0 rfl
  match cs, hl with
  | [a0], _ =>
    match ys, hyl with
    | [y0], _ =>
      have h0 := hf 0 u0 rfl
      rw [o0, c0] at h0
      obtain ⟨z0, A0, d0, x0, r0, m0⟩ := k0 n' [a0] y0 h0
      injection x0 with x0 _
      subst x0
      exact ⟨⟨z0⟩, ⟨A0, d0, rfl, r0⟩, m0⟩
theorem opn_UnS {e t : TypeId} (he : Opn enc P w base spare held e (UnR w)) (hC : P.cellsOf e = 1) (ht : P.underlying t = some (.slice e)) :
    Opn enc P w base spare held t (fun (l : List Un) cs => ∃ A c, cs = [.slice A l.length c] ∧ UnS w (Lt w.heap.size) l A ∧ SmR SmUn l) := fun n cs y h => by
  obtain ⟨l, A, cap, rfl, hl, hr⟩ := open_list ht hC (by omega) h (fun n _ cs' y' h' => he n cs' y' h')
  refine ⟨l, A, cap, rfl, ?_, hl, fun x hx => ?_⟩
  · rcases hr with rfl | ⟨b, o, rfl, hb, hr⟩
    · exact .inl rfl
    · refine .inr ⟨b, o, rfl, hb, fun i hi => ?_⟩
      obtain ⟨_, ⟨⟨A0, c0, rfl, r0⟩, _⟩, hc⟩ := hr i hi
      exact ⟨A0, c0, hc 0 (by omega), r0⟩
  · rcases hr with rfl | ⟨b, o, rfl, hb, hr⟩
    · cases hx
    · obtain ⟨i, hi, rfl⟩ := List.getElem_of_mem hx
      obtain ⟨_, ⟨_, hs⟩, _⟩ := hr i hi
      exact hs
theorem open_Un {e : TypeId} {fl : Array Field} (hu : P.underlying e = some (.struct fl)) (he : Opn enc P w base spare held e (UnR w)) {r : Reach} {b0 : Nat} {v : Value} {d : DataW H} {p : List MemPlace} (hv : Value.okWide P w r b0 e v) (h : DataW.Trod enc P w base spare held e v d p) : ∃ k : Un, UnV w (Lt w.heap.size) k v ∧ SmUn k := by
  obtain ⟨cs, rfl, hsz⟩ := okWide_struct hu hv
  obtain ⟨n, hn⟩ := h
  obtain ⟨k, ⟨A0, c0, e1, r⟩, hm⟩ := he n _ _ hn
  refine ⟨k, ⟨A0, c0, ?_, r⟩, hm⟩
  congr 1
  exact Array.ext' (by simpa [Value.cells] using e1)
end
end Go.Proofs.YtomhomnibikceaaDoor
