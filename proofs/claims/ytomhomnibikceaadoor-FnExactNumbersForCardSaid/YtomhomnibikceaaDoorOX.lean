/-
  Blocks of a call's own: their cells, and three of them. Nothing of a program stands here.
-/
import Derived.Test.YtomhomnibikceaaDoorB0
import Derived.Test.YtomhomnibikceaaDoorG1
namespace Go.Proofs.YtomhomnibikceaaDoor
open Go.RowKit

/-- Cells of a block. -/
def BoxV (w : World) (k : Nat) (vs : List Value) : Prop := ∀ j v, vs[j]? = some v → w.cell? ⟨k, j, none⟩ = some v
theorem BoxV.below {w w' : World} {B k : Nat} {vs : List Value} (h : BoxV w k vs) (hb : Below B w w') (hk : k < B) : BoxV w' k vs :=
  fun j v hv => (hb.cell (p := ⟨k, j, none⟩) hk).trans (h j v hv)
theorem BoxV.other {w : World} {k g : Nat} {vs : List Value} (h : BoxV w k vs) (hg : g ≠ k) (o : Nat) (v : Value) : BoxV (w.setCell ⟨g, o, none⟩ v) k vs :=
  fun j u hu => (World.cell?_setCell_other _ _ _ _ (by intro e; injection e with e; exact hg e)).trans (h j u hu)
theorem BoxV.set {w : World} {k : Nat} {vs : List Value} (h : BoxV w k vs) (o : Nat) (v : Value) : BoxV (w.setCell ⟨k, o, none⟩ v) k (vs.set o v) := by
  intro j u hu
  rw [List.getElem?_set] at hu
  by_cases e : o = j
  · subst e
    rw [if_pos rfl] at hu
    by_cases hl : o < vs.length
    · rw [if_pos hl] at hu
      cases hu
      exact World.cell?_setCell_same _ _ _ (h o vs[o] (List.getElem?_eq_getElem hl))
    · rw [if_neg hl] at hu; cases hu
  · rw [if_neg e] at hu
    exact (World.cell?_setCell_other _ _ _ _ (by intro e'; injection e' with _ e'; exact e e')).trans (h j u hu)
theorem BoxV.new (w : World) (vs : List Value) (t : TypeId) : BoxV (w.alloc (.cells vs.toArray t)) w.heap.size vs := by
  intro j v hv
  have := alloc_cell w vs.toArray t (0, 0) j
  rw [List.getElem?_toArray] at this
  exact this.trans hv
/-- A block of a call's own: free to be written. -/
def FreeB (w : World) (k : Nat) : Prop := ∀ o, w.frozen? ⟨k, o, none⟩ = false
theorem FreeB.below {w w' : World} {B k : Nat} (h : FreeB w k) (hb : Below B w w') (hk : k < B) : FreeB w' k := fun o => (hb.frozen (p := ⟨k, o, none⟩) hk).trans (h o)
theorem FreeB.set {w : World} {k : Nat} (h : FreeB w k) (p : Addr) (v : Value) : FreeB (w.setCell p v) k := fun o => (World.frozen?_setCell _ _ _ _).trans (h o)
/-- TriB blocks of a copier: the argument's, the result's, the local one. -/
structure TriB (w w' : World) (n : Nat) (a : List Value) (r : List Value) (l : List Value) : Prop where
  ba : BoxV w' n a
  br : BoxV w' (n + 1) r
  bl : BoxV w' (n + 1 + 1) l
  fr : FreeB w' (n + 1)
  fl : FreeB w' (n + 1 + 1)
  below : Below n w w'
  size : n + 3 ≤ w'.heap.size
theorem TriB.new (w : World) (a r l : List Value) (t t' t'' : TypeId) :
    TriB w (((w.alloc (.cells a.toArray t)).alloc (.cells r.toArray t')).alloc (.cells l.toArray t'')) w.heap.size a r l := by
  have s1 : (w.alloc (.cells a.toArray t)).heap.size = w.heap.size + 1 := World.size_alloc _ _
  have s2 : ((w.alloc (.cells a.toArray t)).alloc (.cells r.toArray t')).heap.size = w.heap.size + 1 + 1 := by rw [World.size_alloc, s1]
  have h1 := (Below.refl _ (w.alloc (.cells a.toArray t))).alloc (Nat.le_refl _) (.cells r.toArray t')
  have h2 := (Below.refl _ ((w.alloc (.cells a.toArray t)).alloc (.cells r.toArray t'))).alloc (Nat.le_refl _) (.cells l.toArray t'')
  have A := BoxV.new w a t
  have R := BoxV.new (w.alloc (.cells a.toArray t)) r t'
  have L := BoxV.new ((w.alloc (.cells a.toArray t)).alloc (.cells r.toArray t')) l t''
  have FR : FreeB ((w.alloc (.cells a.toArray t)).alloc (.cells r.toArray t')) (w.alloc (.cells a.toArray t)).heap.size := fun o => alloc_frozen _ _ _ o
  have FL : FreeB (((w.alloc (.cells a.toArray t)).alloc (.cells r.toArray t')).alloc (.cells l.toArray t'')) ((w.alloc (.cells a.toArray t)).alloc (.cells r.toArray t')).heap.size := fun o => alloc_frozen _ _ _ o
  rw [s1] at R FR
  rw [s2] at L FL
  refine ⟨(A.below h1 (by omega)).below h2 (by omega), R.below h2 (by omega), L, FR.below h2 (by omega), FL, ?_, by rw [World.size_alloc, s2]; omega⟩
  exact ((Below.refl _ _).alloc (Nat.le_refl _) _).trans ((h1.mono (by omega)).trans (h2.mono (by omega)))
theorem TriB.call {w w1 w2 : World} {n : Nat} {a r l : List Value} (h : TriB w w1 n a r l) (hb : Below w1.heap.size w1 w2) : TriB w w2 n a r l := by
  have hs := h.size
  exact ⟨h.ba.below hb (by omega), h.br.below hb (by omega), h.bl.below hb (by omega), h.fr.below hb (by omega), h.fl.below hb (by omega), h.below.trans (hb.mono (by omega)), Nat.le_trans hs hb.size⟩
theorem TriB.put {w w1 : World} {n : Nat} {a r l : List Value} (h : TriB w w1 n a r l) (o : Nat) (v : Value) : TriB w (w1.setCell ⟨n + 1 + 1, o, none⟩ v) n a r (l.set o v) :=
  ⟨h.ba.other (by omega) _ _, h.br.other (by omega) _ _, h.bl.set _ _, h.fr.set _ _, h.fl.set _ _, h.below.setCell (p := ⟨n + 1 + 1, o, none⟩) (by show n ≤ n + 1 + 1; omega) _, by simpa using h.size⟩
theorem TriB.res {w w1 : World} {n : Nat} {a r l : List Value} (h : TriB w w1 n a r l) (o : Nat) (v : Value) : TriB w (w1.setCell ⟨n + 1, o, none⟩ v) n a (r.set o v) l :=
  ⟨h.ba.other (by omega) _ _, h.br.set _ _, h.bl.other (by omega) _ _, h.fr.set _ _, h.fl.set _ _, h.below.setCell (p := ⟨n + 1, o, none⟩) (by show n ≤ n + 1; omega) _, by simpa using h.size⟩
end Go.Proofs.YtomhomnibikceaaDoor
