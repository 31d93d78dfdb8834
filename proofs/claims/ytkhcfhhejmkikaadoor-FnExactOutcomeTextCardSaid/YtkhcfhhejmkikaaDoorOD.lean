/-
  The law FnExactSameOutcome, walked.
-/
import Derived.Test.YtkhcfhhejmkikaaDoorOC
import Derived.Deep.RegionHeld3
namespace Go.Proofs.YtkhcfhhejmkikaaDoor
open Go.RowKit
set_option maxRecDepth 100000

/-- Four cells of a block. -/
def Fr4 (w : World) (k : Nat) (v0 v1 v2 v3 : Value) : Prop := w.cell? ⟨k, 0, none⟩ = some v0 ∧ w.cell? ⟨k, 1, none⟩ = some v1 ∧ w.cell? ⟨k, 2, none⟩ = some v2 ∧ w.cell? ⟨k, 3, none⟩ = some v3
theorem Fr4.below {w w' : World} {B k : Nat} {v0 v1 v2 v3 : Value} (h : Fr4 w k v0 v1 v2 v3) (hb : Below B w w') (hk : k < B) : Fr4 w' k v0 v1 v2 v3 :=
  ⟨(hb.cell (p := ⟨k, 0, none⟩) hk).trans h.1, (hb.cell (p := ⟨k, 1, none⟩) hk).trans h.2.1, (hb.cell (p := ⟨k, 2, none⟩) hk).trans h.2.2.1, (hb.cell (p := ⟨k, 3, none⟩) hk).trans h.2.2.2⟩
theorem Fr4.new (w : World) (v0 v1 v2 v3 : Value) (t : TypeId) : Fr4 (w.alloc (.cells #[v0, v1, v2, v3] t)) w.heap.size v0 v1 v2 v3 := ⟨alloc_cell w _ _ _ 0, alloc_cell w _ _ _ 1, alloc_cell w _ _ _ 2, alloc_cell w _ _ _ 3⟩
theorem two4' (w : World) (u0 u1 u2 u3 v0 v1 v2 v3 : Value) (t t' : TypeId) :
    Fr4 ((w.alloc (.cells #[u0, u1, u2, u3] t)).alloc (.cells #[v0, v1, v2, v3] t')) w.heap.size u0 u1 u2 u3 ∧ Fr4 ((w.alloc (.cells #[u0, u1, u2, u3] t)).alloc (.cells #[v0, v1, v2, v3] t')) (w.heap.size + 1) v0 v1 v2 v3 ∧
    w.heap.size + 1 < ((w.alloc (.cells #[u0, u1, u2, u3] t)).alloc (.cells #[v0, v1, v2, v3] t')).heap.size ∧ Below w.heap.size w ((w.alloc (.cells #[u0, u1, u2, u3] t)).alloc (.cells #[v0, v1, v2, v3] t')) := by
  obtain ⟨U, V, h1, h2⟩ := two4o w u0 u1 u2 u3 v0 v1 v2 v3 t t'
  exact ⟨⟨U 0 _ rfl, U 1 _ rfl, U 2 _ rfl, U 3 _ rfl⟩, ⟨V 0 _ rfl, V 1 _ rfl, V 2 _ rfl, V 3 _ rfl⟩, h1, h2⟩
/-- Two arguments in their boxes. -/
def KO (w : World) (k : Nat) (a : Oc) (A : Option Addr) (cap : Nat) (A2 : Option Addr) (cap2 : Nat) (b : Oc) (A' : Option Addr) (cap' : Nat) (A2' : Option Addr) (cap2' : Nat) : Prop :=
  Fr4 w k (.slice A a.said.length cap) (.int .i64 a.en) (.int .i64 a.val) (.slice A2 a.cells.length cap2) ∧ Fr4 w (k + 1) (.slice A' b.said.length cap') (.int .i64 b.en) (.int .i64 b.val) (.slice A2' b.cells.length cap2')
theorem KO.below {w w' : World} {k T : Nat} {a : Oc} {A : Option Addr} {cap : Nat} {A2 : Option Addr} {cap2 : Nat} {b : Oc} {A' : Option Addr} {cap' : Nat} {A2' : Option Addr} {cap2' : Nat} (h : KO w k a A cap A2 cap2 b A' cap' A2' cap2') (hb : Below T w w') (hk : k + 1 < T) : KO w' k a A cap A2 cap2 b A' cap' A2' cap2' :=
  ⟨h.1.below hb (by omega), h.2.below hb hk⟩
/-- A copy. -/
def BxO (w : World) (k : Nat) (a : Oc) (P Q : Option Addr) : Prop := Fr4 w k (.slice P a.said.length a.said.length) (.int .i64 a.en) (.int .i64 a.val) (.slice Q a.cells.length a.cells.length)
theorem szR_no' {b : Nat} (h : 1048576 < b) : szR 1048576 b = -1 := if_pos (by omega)
end Go.Proofs.YtkhcfhhejmkikaaDoor
