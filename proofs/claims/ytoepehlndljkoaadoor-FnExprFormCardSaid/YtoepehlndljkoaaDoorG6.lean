/-
  Sameness of expressions: the model's SameExpr; the program's test beside the Kids.
-/
import Derived.Test.YtoepehlndljkoaaDoorG3
namespace Go.Proofs.YtoepehlndljkoaaDoor
open Go.RowKit
set_option maxRecDepth 100000

/-- Two new blocks. -/
theorem two4 (w : World) (u0 u1 u2 u3 v0 v1 v2 v3 : Value) (t t' : TypeId) :
    Bx4 ((w.alloc (.cells #[u0, u1, u2, u3] t)).alloc (.cells #[v0, v1, v2, v3] t')) w.heap.size u0 u1 u2 u3 ∧ Bx4 ((w.alloc (.cells #[u0, u1, u2, u3] t)).alloc (.cells #[v0, v1, v2, v3] t')) (w.heap.size + 1) v0 v1 v2 v3 ∧
    w.heap.size + 1 < ((w.alloc (.cells #[u0, u1, u2, u3] t)).alloc (.cells #[v0, v1, v2, v3] t')).heap.size ∧ Below w.heap.size w ((w.alloc (.cells #[u0, u1, u2, u3] t)).alloc (.cells #[v0, v1, v2, v3] t')) := by
  have s1 : (w.alloc (.cells #[u0, u1, u2, u3] t)).heap.size = w.heap.size + 1 := World.size_alloc _ _
  have hal := (Below.refl _ (w.alloc (.cells #[u0, u1, u2, u3] t))).alloc (Nat.le_refl _) (.cells #[v0, v1, v2, v3] t')
  have X : Bx4 (w.alloc (.cells #[u0, u1, u2, u3] t)) w.heap.size u0 u1 u2 u3 := ⟨alloc_cell w _ _ _ 0, alloc_cell w _ _ _ 1, alloc_cell w _ _ _ 2, alloc_cell w _ _ _ 3⟩
  have Y : Bx4 ((w.alloc (.cells #[u0, u1, u2, u3] t)).alloc (.cells #[v0, v1, v2, v3] t')) (w.alloc (.cells #[u0, u1, u2, u3] t)).heap.size v0 v1 v2 v3 := ⟨alloc_cell _ _ _ _ 0, alloc_cell _ _ _ _ 1, alloc_cell _ _ _ _ 2, alloc_cell _ _ _ _ 3⟩
  rw [s1] at Y
  exact ⟨X.below hal (by rw [s1]; omega), Y, by rw [World.size_alloc, s1]; omega, two_boxes _ _ _⟩
/-- Are two expressions alike but for what is in their Kids? -/
def besB (a b : E) : Bool := decide (a.op = b.op ∧ a.n = b.n ∧ a.name = b.name ∧ a.kids.length = b.kids.length)
theorem besB_iff (a b : E) : besB a b = true ↔ a.op = b.op ∧ a.n = b.n ∧ a.name = b.name ∧ a.kids.length = b.kids.length := by unfold besB; rw [decide_eq_true_eq]
end Go.Proofs.YtoepehlndljkoaaDoor
