/-
  Small words for walks: a flag that is returned, boxes, comparisons. Nothing of a program stands here.
-/
import Derived.Test.YtgkfakbbinkbcabW1
namespace Go.Proofs.Ytgkfakbbinkbcab
open Go.RowKit

theorem beq_no {a b : Int} (h : a ≠ b) : (a == b) = false := by rw [beq_eq_false_iff_ne]; exact h
theorem beq_yes {a b : Int} (h : a = b) : (a == b) = true := by rw [beq_iff_eq]; exact h
/-- A flag, and new blocks at most. -/
def BoolB (b : Bool) (w : World) (e : Ending) (w' : World) : Prop := e = .returned (.bool b) ∧ Below w.heap.size w w'
theorem two_boxes (w : World) (a b : Obj) : Below w.heap.size w ((w.alloc a).alloc b) := ((Below.refl _ _).alloc (Nat.le_refl _) _).alloc (by simp) _

/-- Four cells of a block. -/
def Bx4 (w : World) (k : Nat) (v0 v1 v2 v3 : Value) : Prop := w.cell? ⟨k, 0, none⟩ = some v0 ∧ w.cell? ⟨k, 1, none⟩ = some v1 ∧ w.cell? ⟨k, 2, none⟩ = some v2 ∧ w.cell? ⟨k, 3, none⟩ = some v3
theorem Bx4.below {w w' : World} {B k : Nat} {v0 v1 v2 v3 : Value} (h : Bx4 w k v0 v1 v2 v3) (hb : Below B w w') (hk : k < B) : Bx4 w' k v0 v1 v2 v3 :=
  ⟨(hb.cell (p := ⟨k, _, none⟩) hk).trans h.1, (hb.cell (p := ⟨k, _, none⟩) hk).trans h.2.1, (hb.cell (p := ⟨k, _, none⟩) hk).trans h.2.2.1, (hb.cell (p := ⟨k, _, none⟩) hk).trans h.2.2.2⟩
theorem Bx4.new (w : World) (v0 v1 v2 v3 : Value) (t : TypeId) : Bx4 (w.alloc (.cells #[v0, v1, v2, v3] t)) w.heap.size v0 v1 v2 v3 := ⟨alloc_cell w _ _ _ 0, alloc_cell w _ _ _ 1, alloc_cell w _ _ _ 2, alloc_cell w _ _ _ 3⟩
end Go.Proofs.Ytgkfakbbinkbcab
