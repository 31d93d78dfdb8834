/-
  What the laws' own helpers do with statements: a copy in new memory.
-/
import Derived.Test.YtljdbjfbcjigaaaGreatDoorMg17
import Derived.Test.YtljdbjfbcjigaaaGreatDoorMg19
namespace Go.Proofs.YtljdbjfbcjigaaaGreatDoor
open Go.RowKit
set_option maxRecDepth 100000

/-- Cells of a block. -/
def BxL (w : World) (k : Nat) (vs : List Value) : Prop := ∀ j v, vs[j]? = some v → w.cell? ⟨k, j, none⟩ = some v
theorem BxL.below {w w' : World} {B k : Nat} {vs : List Value} (h : BxL w k vs) (hb : Below B w w') (hk : k < B) : BxL w' k vs :=
  fun j v hv => (hb.cell (p := ⟨k, j, none⟩) hk).trans (h j v hv)
theorem BxL.other {w : World} {k g : Nat} {vs : List Value} (h : BxL w k vs) (hg : g ≠ k) (o : Nat) (v : Value) : BxL (w.setCell ⟨g, o, none⟩ v) k vs :=
  fun j u hu => (World.cell?_setCell_other _ _ _ _ (by intro e; injection e with e; exact hg e)).trans (h j u hu)
theorem BxL.set {w : World} {k : Nat} {vs : List Value} (h : BxL w k vs) (o : Nat) (v : Value) : BxL (w.setCell ⟨k, o, none⟩ v) k (vs.set o v) := by
  intro j u hu
  rw [List.getElem?_set] at hu
  by_cases e : o = j
  · subst e
    rw [if_pos rfl] at hu
    by_cases hl : o < vs.length
    · rw [if_pos hl] at hu
      cases hu
      exact World.cell?_setCell_same _ _ _ (h o vs[o] (List.getElem?_eq_getElem hl))
    · rw [if_neg hl] at hu; cases hu
  · rw [if_neg e] at hu
    exact (World.cell?_setCell_other _ _ _ _ (by intro e'; injection e' with _ e'; exact e e')).trans (h j u hu)
theorem BxL.new (w : World) (vs : List Value) (t : TypeId) : BxL (w.alloc (.cells vs.toArray t)) w.heap.size vs := by
  intro j v hv
  have := alloc_cell w vs.toArray t (0, 0) j
  rw [List.getElem?_toArray] at this
  exact this.trans hv
/-- A block of a call's own: free to be written. -/
def Free (w : World) (k : Nat) : Prop := ∀ o, w.frozen? ⟨k, o, none⟩ = false
theorem Free.below {w w' : World} {B k : Nat} (h : Free w k) (hb : Below B w w') (hk : k < B) : Free w' k := fun o => (hb.frozen (p := ⟨k, o, none⟩) hk).trans (h o)
theorem Free.set {w : World} {k : Nat} (h : Free w k) (p : Addr) (v : Value) : Free (w.setCell p v) k := fun o => (World.frozen?_setCell _ _ _ _).trans (h o)
/-- Three blocks of a copier: the argument's, the result's, the local one. -/
structure Three (w w' : World) (n : Nat) (a : List Value) (r : List Value) (l : List Value) : Prop where
  ba : BxL w' n a
  br : BxL w' (n + 1) r
  bl : BxL w' (n + 1 + 1) l
  fr : Free w' (n + 1)
  fl : Free w' (n + 1 + 1)
  below : Below n w w'
  size : n + 3 ≤ w'.heap.size
theorem Three.new (w : World) (a r l : List Value) (t t' t'' : TypeId) :
    Three w (((w.alloc (.cells a.toArray t)).alloc (.cells r.toArray t')).alloc (.cells l.toArray t'')) w.heap.size a r l := by
  have s1 : (w.alloc (.cells a.toArray t)).heap.size = w.heap.size + 1 := World.size_alloc _ _
  have s2 : ((w.alloc (.cells a.toArray t)).alloc (.cells r.toArray t')).heap.size = w.heap.size + 1 + 1 := by rw [World.size_alloc, s1]
  have h1 := (Below.refl _ (w.alloc (.cells a.toArray t))).alloc (Nat.le_refl _) (.cells r.toArray t')
  have h2 := (Below.refl _ ((w.alloc (.cells a.toArray t)).alloc (.cells r.toArray t'))).alloc (Nat.le_refl _) (.cells l.toArray t'')
  have A := BxL.new w a t
  have R := BxL.new (w.alloc (.cells a.toArray t)) r t'
  have L := BxL.new ((w.alloc (.cells a.toArray t)).alloc (.cells r.toArray t')) l t''
  have FR : Free ((w.alloc (.cells a.toArray t)).alloc (.cells r.toArray t')) (w.alloc (.cells a.toArray t)).heap.size := fun o => alloc_frozen _ _ _ o
  have FL : Free (((w.alloc (.cells a.toArray t)).alloc (.cells r.toArray t')).alloc (.cells l.toArray t'')) ((w.alloc (.cells a.toArray t)).alloc (.cells r.toArray t')).heap.size := fun o => alloc_frozen _ _ _ o
  rw [s1] at R FR
  rw [s2] at L FL
  refine ⟨(A.below h1 (by omega)).below h2 (by omega), R.below h2 (by omega), L, FR.below h2 (by omega), FL, ?_, by rw [World.size_alloc, s2]; omega⟩
  exact ((Below.refl _ _).alloc (Nat.le_refl _) _).trans ((h1.mono (by omega)).trans (h2.mono (by omega)))
theorem Three.call {w w1 w2 : World} {n : Nat} {a r l : List Value} (h : Three w w1 n a r l) (hb : Below w1.heap.size w1 w2) : Three w w2 n a r l := by
  have hs := h.size
  exact ⟨h.ba.below hb (by omega), h.br.below hb (by omega), h.bl.below hb (by omega), h.fr.below hb (by omega), h.fl.below hb (by omega), h.below.trans (hb.mono (by omega)), Nat.le_trans hs hb.size⟩
theorem Three.put {w w1 : World} {n : Nat} {a r l : List Value} (h : Three w w1 n a r l) (o : Nat) (v : Value) : Three w (w1.setCell ⟨n + 1 + 1, o, none⟩ v) n a r (l.set o v) :=
  ⟨h.ba.other (by omega) _ _, h.br.other (by omega) _ _, h.bl.set _ _, h.fr.set _ _, h.fl.set _ _, h.below.setCell (p := ⟨n + 1 + 1, o, none⟩) (by show n ≤ n + 1 + 1; omega) _, by simpa using h.size⟩
theorem Three.res {w w1 : World} {n : Nat} {a r l : List Value} (h : Three w w1 n a r l) (o : Nat) (v : Value) : Three w (w1.setCell ⟨n + 1, o, none⟩ v) n a (r.set o v) l :=
  ⟨h.ba.other (by omega) _ _, h.br.set _ _, h.bl.other (by omega) _ _, h.fr.set _ _, h.fl.set _ _, h.below.setCell (p := ⟨n + 1, o, none⟩) (by show n ≤ n + 1; omega) _, by simpa using h.size⟩

def ToTRet (t : St) (w : World) (ee : Ending) (w' : World) : Prop := (∃ A1 A2 A3, ee = .returned (.agg #[.int .i64 t.op, .string t.name, .slice A1 t.args.length t.args.length, .slice A2 t.body.length t.body.length, .slice A3 t.els.length t.els.length]) ∧
  PdS w' (Between w' w.heap.size w'.heap.size) t.args A1 ∧ StS w' (Between w' w.heap.size w'.heap.size) t.body A2 ∧ StS w' (Between w' w.heap.size w'.heap.size) t.els A3) ∧ Below w.heap.size w w'
def ToTLRet (ks : List St) (w : World) (ee : Ending) (w' : World) : Prop := (∃ A, ee = .returned (.slice A ks.length ks.length) ∧ StS w' (Between w' w.heap.size w'.heap.size) ks A) ∧ Below w.heap.size w w'
def ToT (t : St) : Prop := ∀ (v : Value) (w : World), StV w (Lt w.heap.size) t v → Calls Tryz.prog 187 #[v] w (ToTRet t w)
def ToTL (ks : List St) : Prop := ∀ (A : Option Addr) (cap : Nat) (w : World), StS w (Lt w.heap.size) ks A → Calls Tryz.prog 138 #[.slice A ks.length cap] w (ToTLRet ks w)
theorem PdS.put {w : World} {lo : Nat} {ks : List E} {A : Option Addr} (h : PdS w (Between w lo w.heap.size) ks A) {g : Nat} (hg : g < lo) (o : Nat) (v : Value) : PdS (w.setCell ⟨g, o, none⟩ v) (Between (w.setCell ⟨g, o, none⟩ v) lo (w.setCell ⟨g, o, none⟩ v).heap.size) ks A := by
  rw [show (w.setCell ⟨g, o, none⟩ v).heap.size = w.heap.size by simp]
  exact h.set' hg o v
theorem StS.put {w : World} {lo : Nat} {ks : List St} {A : Option Addr} (h : StS w (Between w lo w.heap.size) ks A) {g : Nat} (hg : g < lo) (o : Nat) (v : Value) : StS (w.setCell ⟨g, o, none⟩ v) (Between (w.setCell ⟨g, o, none⟩ v) lo (w.setCell ⟨g, o, none⟩ v).heap.size) ks A := by
  rw [show (w.setCell ⟨g, o, none⟩ v).heap.size = w.heap.size by simp]
  exact h.set' hg o v
set_option maxHeartbeats 4000000 in
theorem toStmt_of (t : St) (HA : ToL t.args) (HB : ToTL t.body) (HE : ToTL t.els) : ToT t := by
  intro v w hV
  obtain ⟨A1, p1, A2, p2, A3, p3, rfl, r1, r2, r3⟩ := hV
  unfold ToTRet
  obtain ⟨op, s, a, bd, el⟩ := t
  dsimp only [St.op, St.name, St.args, St.body, St.els] at *
  have CA := fun W (h : Below w.heap.size w W) => Lib.hid (HA A1 p1 W (r1.on (w' := W) (B' := W.heap.size) h h.size).lt_rd)
  have CB := fun W (h : Below w.heap.size w W) => Lib.hid (HB A2 p2 W (r2.on (w' := W) (B' := W.heap.size) h h.size))
  have CE := fun W (h : Below w.heap.size w W) => Lib.hid (HE A3 p3 W (r3.on (w' := W) (B' := W.heap.size) h h.size))
  clear HA HB HE r1 r2 r3
  have T0 := Lib.hid (Three.new w [.int .i64 op, .string s, .slice A1 a.length p1, .slice A2 bd.length p2, .slice A3 el.length p3] [.int .i64 0, .string ⟨#[]⟩, .slice none 0 0, .slice none 0 0, .slice none 0 0] [.int .i64 op, .string s, .slice none 0 0, .slice none 0 0, .slice none 0 0] 238 209 209)
  go_enter Tryz.func187, Tryz.ntmps187
  go_wp2_with fail
  refine Calls.mono (CA _ T0.out.below).out ?_
  rintro ee w1 ⟨⟨B1, rfl, q1⟩, hb1⟩
  have T1 := Lib.hid (T0.out.call hb1)
  have hz0 := T0.out.size
  have Q1 := Lib.hid (q1.wide (lo' := w.heap.size + 3) hz0 (Nat.le_refl _))
  clear T0 CA q1 hb1 hz0
  have c3 := T1.out.ba 3 _ rfl
  have d2 := T1.out.bl 2 _ rfl
  have f2 := T1.out.fl 2
  go_wp2_with fail
  refine Calls.mono (CB _ (T1.out.put 2 (.slice B1 a.length a.length)).below).out ?_
  rintro ee w2 ⟨⟨B2, rfl, q2⟩, hb2⟩
  have T2 := Lib.hid ((T1.out.put 2 (.slice B1 a.length a.length)).call hb2)
  have Q1' := Lib.hid ((Q1.out.put (g := w.heap.size + 1 + 1) (by omega) 2 (.slice B1 a.length a.length)).later hb2 (Nat.le_refl _) hb2.size)
  have Q2 := Lib.hid (q2.wide (lo' := w.heap.size + 3) (T1.out.put 2 (.slice B1 a.length a.length)).size (Nat.le_refl _))
  clear T1 CB q2 hb2 Q1 c3 d2 f2
  have c4 := T2.out.ba 4 _ rfl
  have d3 := T2.out.bl 3 _ rfl
  have f3 := T2.out.fl 3
  go_wp2_with fail
  refine Calls.mono (CE _ (T2.out.put 3 (.slice B2 bd.length bd.length)).below).out ?_
  rintro ee w3 ⟨⟨B3, rfl, q3⟩, hb3⟩
  have T3 := Lib.hid ((T2.out.put 3 (.slice B2 bd.length bd.length)).call hb3)
  have R1 := Lib.hid ((Q1'.out.put (g := w.heap.size + 1 + 1) (by omega) 3 (.slice B2 bd.length bd.length)).later hb3 (Nat.le_refl _) hb3.size)
  have R2 := Lib.hid ((Q2.out.put (g := w.heap.size + 1 + 1) (by omega) 3 (.slice B2 bd.length bd.length)).later hb3 (Nat.le_refl _) hb3.size)
  have R3 := Lib.hid (q3.wide (lo' := w.heap.size + 3) (T2.out.put 3 (.slice B2 bd.length bd.length)).size (Nat.le_refl _))
  clear T2 CE q3 hb3 Q1' Q2 c4 d3 f3
  have d0 := T3.out.bl 0 _ rfl
  have d1 := T3.out.bl 1 _ rfl
  have d2 := T3.out.bl 2 _ rfl
  have d3 := T3.out.bl 3 _ rfl
  have d4 := T3.out.bl 4 _ rfl
  have f4 := T3.out.fl 4
  have e0 := T3.out.br 0 _ rfl
  have e1 := T3.out.br 1 _ rfl
  have e2 := T3.out.br 2 _ rfl
  have e3 := T3.out.br 3 _ rfl
  have e4 := T3.out.br 4 _ rfl
  have g0 := T3.out.fr 0
  have g1 := T3.out.fr 1
  have g2 := T3.out.fr 2
  have g3 := T3.out.fr 3
  have g4 := T3.out.fr 4
  go_wp2_with fail
  refine bodyPost_ret (v := .agg #[.int .i64 op, .string s, .slice B1 a.length a.length, .slice B2 bd.length bd.length, .slice B3 el.length el.length]) (by simp [results, Tryz.results187, go_sem, e0, e1, e2, e3, e4]) rfl ⟨⟨B1, B2, B3, rfl, ?_, ?_, ?_⟩, ?_⟩
  · exact ((((((R1.out.put (g := w.heap.size + 1 + 1) (by omega) 4 _).put (g := w.heap.size + 1) (by omega) 0 _).put (g := w.heap.size + 1) (by omega) 1 _).put (g := w.heap.size + 1) (by omega) 2 _).put (g := w.heap.size + 1) (by omega) 3 _).put (g := w.heap.size + 1) (by omega) 4 _).wide (by omega) (Nat.le_refl _)
  · exact ((((((R2.out.put (g := w.heap.size + 1 + 1) (by omega) 4 _).put (g := w.heap.size + 1) (by omega) 0 _).put (g := w.heap.size + 1) (by omega) 1 _).put (g := w.heap.size + 1) (by omega) 2 _).put (g := w.heap.size + 1) (by omega) 3 _).put (g := w.heap.size + 1) (by omega) 4 _).wide (by omega) (Nat.le_refl _)
  · exact ((((((R3.out.put (g := w.heap.size + 1 + 1) (by omega) 4 _).put (g := w.heap.size + 1) (by omega) 0 _).put (g := w.heap.size + 1) (by omega) 1 _).put (g := w.heap.size + 1) (by omega) 2 _).put (g := w.heap.size + 1) (by omega) 3 _).put (g := w.heap.size + 1) (by omega) 4 _).wide (by omega) (Nat.le_refl _)
  · exact ((((((T3.out.put 4 _).res 0 _).res 1 _).res 2 _).res 3 _).res 4 _).below
/-- The first k statements stand in a row of block g; what they lead to lies behind it. -/
def tPart (ks : List St) (g : Nat) (w : World) (k : Nat) (xs : List Value) : Prop := xs.length = ks.length * 5 ∧ ∀ j, (h : j < ks.length) → j < k →
  xs[j * 5]? = some (.int .i64 ks[j].op) ∧ xs[j * 5 + 1]? = some (.string ks[j].name) ∧
    (∃ A, xs[j * 5 + 2]? = some (.slice A ks[j].args.length ks[j].args.length) ∧ PdS w (Between w (g + 1) w.heap.size) ks[j].args A) ∧
    (∃ A, xs[j * 5 + 3]? = some (.slice A ks[j].body.length ks[j].body.length) ∧ StS w (Between w (g + 1) w.heap.size) ks[j].body A) ∧
    (∃ A, xs[j * 5 + 4]? = some (.slice A ks[j].els.length ks[j].els.length) ∧ StS w (Between w (g + 1) w.heap.size) ks[j].els A)
theorem tPart.later {ks : List St} {g k : Nat} {w w' : World} {xs : List Value} (h : tPart ks g w k xs) (hb : Below w.heap.size w w') : tPart ks g w' k xs := by
  refine ⟨h.1, fun j hj hk => ?_⟩
  obtain ⟨a, b, ⟨A1, c1, p1⟩, ⟨A2, c2, p2⟩, A3, c3, p3⟩ := h.2 j hj hk
  exact ⟨a, b, ⟨A1, c1, p1.later hb (Nat.le_refl _) hb.size⟩, ⟨A2, c2, p2.later hb (Nat.le_refl _) hb.size⟩, A3, c3, p3.later hb (Nat.le_refl _) hb.size⟩
theorem tPart.set {ks : List St} {g k : Nat} {w : World} {xs : List Value} (h : tPart ks g w k xs) (o : Nat) (v : Value) : tPart ks g (w.setCell ⟨g, o, none⟩ v) k xs := by
  refine ⟨h.1, fun j hj hk => ?_⟩
  obtain ⟨a, b, ⟨A1, c1, p1⟩, ⟨A2, c2, p2⟩, A3, c3, p3⟩ := h.2 j hj hk
  exact ⟨a, b, ⟨A1, c1, p1.put (by omega) o v⟩, ⟨A2, c2, p2.put (by omega) o v⟩, A3, c3, p3.put (by omega) o v⟩
theorem set5_get (xs : List Value) (k : Nat) (v0 v1 v2 v3 v4 : Value) (h : k * 5 + 5 ≤ xs.length) :
    (((((xs.set (k * 5) v0).set (k * 5 + 1) v1).set (k * 5 + 2) v2).set (k * 5 + 3) v3).set (k * 5 + 4) v4)[k * 5]? = some v0 ∧
    (((((xs.set (k * 5) v0).set (k * 5 + 1) v1).set (k * 5 + 2) v2).set (k * 5 + 3) v3).set (k * 5 + 4) v4)[k * 5 + 1]? = some v1 ∧
    (((((xs.set (k * 5) v0).set (k * 5 + 1) v1).set (k * 5 + 2) v2).set (k * 5 + 3) v3).set (k * 5 + 4) v4)[k * 5 + 2]? = some v2 ∧
    (((((xs.set (k * 5) v0).set (k * 5 + 1) v1).set (k * 5 + 2) v2).set (k * 5 + 3) v3).set (k * 5 + 4) v4)[k * 5 + 3]? = some v3 ∧
    (((((xs.set (k * 5) v0).set (k * 5 + 1) v1).set (k * 5 + 2) v2).set (k * 5 + 3) v3).set (k * 5 + 4) v4)[k * 5 + 4]? = some v4 := by
  refine ⟨?_, ?_, ?_, ?_, ?_⟩
  · rw [List.getElem?_set_ne (by omega), List.getElem?_set_ne (by omega), List.getElem?_set_ne (by omega), List.getElem?_set_ne (by omega), List.getElem?_set_self (by omega)]
  · rw [List.getElem?_set_ne (by omega), List.getElem?_set_ne (by omega), List.getElem?_set_ne (by omega), List.getElem?_set_self (by simp only [List.length_set]; omega)]
  · rw [List.getElem?_set_ne (by omega), List.getElem?_set_ne (by omega), List.getElem?_set_self (by simp only [List.length_set]; omega)]
  · rw [List.getElem?_set_ne (by omega), List.getElem?_set_self (by simp only [List.length_set]; omega)]
  · rw [List.getElem?_set_self (by simp only [List.length_set]; omega)]
theorem tPart.step {ks : List St} {g k : Nat} {w : World} {xs : List Value} (h : tPart ks g w k xs) (hk : k < ks.length) {op : Int} {s : ByteArray} {a : List E} {bd el : List St} (he : ks[k] = .mk op s a bd el) {A1 A2 A3 : Option Addr}
    (h1 : PdS w (Between w (g + 1) w.heap.size) a A1) (h2 : StS w (Between w (g + 1) w.heap.size) bd A2) (h3 : StS w (Between w (g + 1) w.heap.size) el A3) :
    tPart ks g w (k + 1) (((((xs.set (k * 5) (.int .i64 op)).set (k * 5 + 1) (.string s)).set (k * 5 + 2) (.slice A1 a.length a.length)).set (k * 5 + 3) (.slice A2 bd.length bd.length)).set (k * 5 + 4) (.slice A3 el.length el.length)) := by
  have hl := h.1
  obtain ⟨e0, e1, e2, e3, e4⟩ : op = ks[k].op ∧ s = ks[k].name ∧ a = ks[k].args ∧ bd = ks[k].body ∧ el = ks[k].els := by rw [he]; exact ⟨rfl, rfl, rfl, rfl, rfl⟩
  clear he
  subst e0 e1 e2 e3 e4
  refine ⟨by simpa using hl, fun j hj hjk => ?_⟩
  by_cases e : j = k
  · subst e
    obtain ⟨q0, q1, q2, q3, q4⟩ := set5_get xs j (.int .i64 ks[j].op) (.string ks[j].name) (.slice A1 ks[j].args.length ks[j].args.length) (.slice A2 ks[j].body.length ks[j].body.length) (.slice A3 ks[j].els.length ks[j].els.length) (by omega)
    exact ⟨q0, q1, ⟨A1, q2, h1⟩, ⟨A2, q3, h2⟩, A3, q4, h3⟩
  · obtain ⟨a, b, ⟨A1, c1, p1⟩, ⟨A2, c2, p2⟩, A3, c3, p3⟩ := h.2 j hj (by omega)
    refine ⟨?_, ?_, ⟨A1, ?_, p1⟩, ⟨A2, ?_, p2⟩, A3, ?_, p3⟩
    all_goals
      rw [List.getElem?_set_ne (by omega), List.getElem?_set_ne (by omega), List.getElem?_set_ne (by omega), List.getElem?_set_ne (by omega), List.getElem?_set_ne (by omega)]
      assumption
theorem tPart.done {ks : List St} {g : Nat} {w : World} {xs : List Value} {base : Nat} {e : TypeId} {cap : Nat} (h : tPart ks g w ks.length xs) (ho : w.ownsRow base e 5 (.slice (some ⟨g, 0, none⟩) ks.length cap) ks.length xs) :
    StS w (Between w g w.heap.size) ks (some ⟨g, 0, none⟩) := by
  have hg := ho.lt g rfl
  refine .inr ⟨g, 0, rfl, ⟨Nat.le_refl _, hg.2, row_flat ho⟩, StC.mk fun i hi => ?_⟩
  obtain ⟨a, b, ⟨A1, c1, p1⟩, ⟨A2, c2, p2⟩, A3, c3, p3⟩ := h.2 i hi hi
  have hl := h.1
  have cell : ∀ j, i * 5 ≤ j → j < i * 5 + 5 → w.cell? ⟨g, 0 + j, none⟩ = xs[j]? := by
    intro j _ hj
    rw [Nat.zero_add]
    exact ho.cellAt j (by omega)
  exact ⟨⟨(cell _ (by omega) (by omega)).trans a, (cell _ (by omega) (by omega)).trans b⟩, ⟨A1, _, (cell _ (by omega) (by omega)).trans c1, p1.wide (Nat.le_succ _) (Nat.le_refl _)⟩, ⟨A2, _, (cell _ (by omega) (by omega)).trans c2, p2.wide (Nat.le_succ _) (Nat.le_refl _)⟩, A3, _, (cell _ (by omega) (by omega)).trans c3, p3.wide (Nat.le_succ _) (Nat.le_refl _)⟩
theorem stmtInfo : (Tryz.prog.info? 209).map (fun i => (i.zero, i.size, i.bytes)) = some (some (.agg #[.int .i64 0, .string ⟨#[]⟩, .slice none 0 0, .slice none 0 0, .slice none 0 0]), 5, 96) := by kernel_rfl
set_option maxHeartbeats 4000000 in
theorem toStmtS_of (ks : List St) (hn : ks.length ≤ 1048576) (H : ∀ k ∈ ks, ToT k) : ToTL ks := by
  intro A cap w hR
  have HK := fun i (h : i < ks.length) => H _ (List.getElem_mem h)
  clear H
  unfold ToT at HK
  replace HK := Lib.hid HK
  have HR := Lib.hid hR
  clear hR
  obtain ⟨i0, hi, hz0, hz1, hz2⟩ := info_parts stmtInfo
  go_enter Tryz.func138, Tryz.ntmps138
  go_wp2_with (first
    | (with_reducible refine wpList_make_full _ rfl _ _ 68 rfl w.heap.size 209 i0 (.agg #[.int .i64 0, .string ⟨#[]⟩, .slice none 0 0, .slice none 0 0, .slice none 0 0]) 5 Tryz.underlying68 hi hz0 hz1 _ _ _ _ ks.length rfl rfl rfl rfl ?c1 ?c2 ?c3 ?_)
    | fail)
  case c1 => rw [hz2]; omega
  case c2 => unfold maxLen; omega
  case c3 => exact Nat.le_refl _
  intro w1 hown hgrow
  have hb0 : Below w.heap.size w w1 := (Below.refl _ _).grown hgrow (Nat.le_refl _) (fun k e => by cases e)
  obtain ⟨xs0, hown0, hp0⟩ : ∃ xs0, w1.ownsRow w.heap.size 209 5 (.slice (some ⟨w.heap.size, 0, none⟩) ks.length ks.length) ks.length xs0 ∧ tPart ks w.heap.size w1 0 xs0 := ⟨_, hown, hown.1, fun j _ hj => absurd hj (by omega)⟩
  clear hown
  have HO0 := Lib.hid hown0
  have HP0 := Lib.hid hp0
  clear hown0 hgrow hp0
  go_wp2_with fail
  go_loopw [4] (fun i wr => ∃ (k : Nat) (xs : List Value), k ≤ ks.length ∧ i = .int .i64 k ∧ wr.ownsRow w.heap.size 209 5 (.slice (some ⟨w.heap.size, 0, none⟩) ks.length ks.length) ks.length xs ∧ tPart ks w.heap.size wr k xs ∧ Below w.heap.size w wr) (fun i _ => ks.length - (intOf i).toNat)
  case atStart => exact ⟨0, xs0, Nat.zero_le _, rfl, HO0.out, HP0.out, hb0⟩
  case round =>
    clear HO0 hb0 HP0
    obtain ⟨k, xs, hk, rfl, hown, hp, hb⟩ := hrel
    have hbs := hb.size
    by_cases hlt : k < ks.length
    · obtain ⟨b, o, rfl, hB, ⟨c0, c1⟩, ⟨A1, p1, c2, r1⟩, ⟨A2, p2, c3, r2⟩, A3, p3, c4, r3⟩ := (HR.out.on hb hbs).at_ hlt
      have CK := HK.out k hlt _ wr ⟨A1, p1, A2, p2, A3, p3, rfl, r1, r2, r3⟩
      have HX := Lib.hid hp.1
      have HP := Lib.hid hp
      clear hp r1 r2 r3
      unfold ToTRet at CK
      generalize hkd : ks[k] = kid at CK c0 c1 c2 c3 c4
      have HKD := Lib.hid hkd
      clear hkd
      obtain ⟨op, s, a, bd, el⟩ := kid
      dsimp only [St.op, St.name, St.args, St.body, St.els] at c0 c1 c2 c3 c4 CK
      replace CK := Lib.hid CK
      go_wp2_with fail
      (with_reducible refine Calls.mono CK.out ?_)
      rintro ee w2 ⟨⟨B1, B2, B3, rfl, q1, q2, q3⟩, hb1⟩
      have hown2 := hown.kept (w' := w2) (row := none) ⟨hb1.os, hb1.tape, hb1.output, hb1.size, fun i hi _ => hb1.block i hi⟩ (by simp [Value.ownBlock])
      have hb2 := hb.trans (hb1.mono hbs)
      have hgs := (hown.lt _ rfl).2
      have Q1 := Lib.hid (q1.wide (lo' := w.heap.size + 1) hgs (Nat.le_refl _))
      have Q2 := Lib.hid (q2.wide (lo' := w.heap.size + 1) hgs (Nat.le_refl _))
      have Q3 := Lib.hid (q3.wide (lo' := w.heap.size + 1) hgs (Nat.le_refl _))
      have HP2 := Lib.hid (HP.out.later hb1)
      clear hown hb hb1 c0 c1 c2 c3 c4 q1 q2 q3 HP
      have hxl : xs.length = ks.length * 5 := HX.out
      have d0 := hown2.cellAt (k * 5) (by omega)
      have d1 := hown2.cellAt (k * 5 + 1) (by omega)
      have d2 := hown2.cellAt (k * 5 + 2) (by omega)
      have d3 := hown2.cellAt (k * 5 + 3) (by omega)
      have d4 := hown2.cellAt (k * 5 + 4) (by omega)
      have f0 := hown2.frozenAt (k * 5)
      have f1 := hown2.frozenAt (k * 5 + 1)
      have f2 := hown2.frozenAt (k * 5 + 2)
      have f3 := hown2.frozenAt (k * 5 + 3)
      have f4 := hown2.frozenAt (k * 5 + 4)
      rw [List.getElem?_eq_getElem (by omega)] at d0 d1 d2 d3 d4
      generalize xs[k * 5] = y0 at *
      generalize xs[k * 5 + 1] = y1 at *
      generalize xs[k * 5 + 2] = y2 at *
      generalize xs[k * 5 + 3] = y3 at *
      generalize xs[k * 5 + 4] = y4 at *
      have HO := Lib.hid hown2
      clear hown2 hxl
      go_wp2_with fail
      go_roundw
      case rel =>
        have hs0 := HO.out.stored (k * 5) (.int .i64 op)
        have hs1 := hs0.1.stored (k * 5 + 1) (.string s)
        have hs2 := hs1.1.stored (k * 5 + 2) (.slice B1 a.length a.length)
        have hs3 := hs2.1.stored (k * 5 + 3) (.slice B2 bd.length bd.length)
        have hs4 := hs3.1.stored (k * 5 + 4) (.slice B3 el.length el.length)
        have hst := HP2.out.step hlt HKD.out Q1.out Q2.out Q3.out
        exact ⟨k + 1, _, by omega, by go_num, hs4.1, ((((hst.set (k * 5) _).set (k * 5 + 1) _).set (k * 5 + 2) _).set (k * 5 + 3) _).set (k * 5 + 4) _, ((((hb2.setCell (Nat.le_refl _) _).setCell (Nat.le_refl _) _).setCell (Nat.le_refl _) _).setCell (Nat.le_refl _) _).setCell (Nat.le_refl _) _⟩
      case measure => simp only [intOf]; omega
    · obtain rfl : k = ks.length := by omega
      have HO := Lib.hid (hp.done hown)
      clear hown hp
      go_wp2_with fail
      go_ret
      exact ⟨⟨_, rfl, HO.out⟩, hb⟩
theorem toExprS_any (ks : List E) (h : bulkL ks ≤ 1048576) : ToL ks := by
  have h1 := length_le_sizeL ks
  have h2 := sizeL_bulk ks
  exact toExprS_of _ (by omega) fun k hk => toExpr_any k (by have := bulkL_mem hk; omega)
theorem toStmt_any (t : St) (h : bulkT t ≤ 1048576) : ToT t := by
  refine St.ind (P := fun t => bulkT t ≤ 1048576 → ToT t) ?_ t h
  intro t ih1 ih2 h
  rw [bulkT_kids] at h
  have h1 := length_le_bulkTL t.body
  have h2 := length_le_bulkTL t.els
  exact toStmt_of t (toExprS_any _ (by omega)) (toStmtS_of _ (by omega) fun k hk => ih1 k hk (by have := bulkTL_mem hk; omega)) (toStmtS_of _ (by omega) fun k hk => ih2 k hk (by have := bulkTL_mem hk; omega))
theorem toStmtS_any (ks : List St) (h : bulkTL ks ≤ 1048576) : ToTL ks := toStmtS_of _ (by have := length_le_bulkTL ks; omega) fun k hk => toStmt_any k (by have := bulkTL_mem hk; omega)
end Go.Proofs.YtljdbjfbcjigaaaGreatDoor
