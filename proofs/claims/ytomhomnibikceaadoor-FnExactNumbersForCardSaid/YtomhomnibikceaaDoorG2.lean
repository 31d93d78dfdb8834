/-
  What the laws' own helpers do with expressions: how much they hold, a copy, whether two are one.
-/
import Derived.Test.YtomhomnibikceaaDoorB0
import Derived.Test.YtomhomnibikceaaDoorG1
import Derived.Deep.RegionHeld3
namespace Go.Proofs.YtomhomnibikceaaDoor
open Go.RowKit
set_option maxRecDepth 100000

/-- A number, and new blocks at most. -/
def IntB (n : Int) (w : World) (e : Ending) (w' : World) : Prop := e = .returned (.int .i64 n) ∧ Below w.heap.size w w'
theorem box4 (w : World) (v0 v1 v2 v3 : Value) (t : TypeId) :
    (w.alloc (.cells #[v0, v1, v2, v3] t)).cell? ⟨w.heap.size, 0, none⟩ = some v0 ∧ (w.alloc (.cells #[v0, v1, v2, v3] t)).cell? ⟨w.heap.size, 1, none⟩ = some v1 ∧ (w.alloc (.cells #[v0, v1, v2, v3] t)).cell? ⟨w.heap.size, 2, none⟩ = some v2 ∧ (w.alloc (.cells #[v0, v1, v2, v3] t)).cell? ⟨w.heap.size, 3, none⟩ = some v3 ∧ w.heap.size < (w.alloc (.cells #[v0, v1, v2, v3] t)).heap.size ∧ Below w.heap.size w (w.alloc (.cells #[v0, v1, v2, v3] t)) :=
  ⟨alloc_cell w _ _ _ 0, alloc_cell w _ _ _ 1, alloc_cell w _ _ _ 2, alloc_cell w _ _ _ 3, by rw [World.size_alloc]; omega, (Below.refl _ _).alloc (Nat.le_refl _) _⟩
theorem ret_int' {k : IntKind} {a b : Int} (h : a = b) : Ending.returned (.int k a) = .returned (.int k b) := by rw [h]


open Classical in
/-- Are two expressions one? -/
noncomputable def eqB (a b : E) : Bool := decide (a = b)
open Classical in
noncomputable def eqLB (a b : List E) : Bool := decide (a = b)
open Classical in
theorem eqB_same (op n : Int) (s : ByteArray) (ks ls : List E) : eqB (.mk op n s ks) (.mk op n s ls) = eqLB ks ls := by
  unfold eqB eqLB
  rw [Bool.eq_iff_iff, decide_eq_true_eq, decide_eq_true_eq]
  exact ⟨fun h => by injection h, fun h => by rw [h]⟩
open Classical in
theorem eqB_no {a b : E} (h : a ≠ b) : eqB a b = false := by unfold eqB; rw [decide_eq_false_iff_not]; exact h
open Classical in
theorem eqLB_no {a b : List E} (h : a ≠ b) : eqLB a b = false := by unfold eqLB; rw [decide_eq_false_iff_not]; exact h
open Classical in
theorem eqB_yes (a : E) : eqB a a = true := by unfold eqB; rw [decide_eq_true_eq]
open Classical in
theorem eqB_iff (a b : E) : eqB a b = true ↔ a = b := by unfold eqB; rw [decide_eq_true_eq]
theorem SmL_get {ks : List E} (h : SmL ks) {i : Nat} (hi : i < ks.length) : SmE ks[i] := SmL_mem h (List.getElem_mem hi)
end Go.Proofs.YtomhomnibikceaaDoor
