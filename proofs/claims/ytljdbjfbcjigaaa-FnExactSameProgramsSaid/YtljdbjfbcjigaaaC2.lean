/-
  Names: what the model's and the program's functions on names return.
-/
import Derived.Test.YtljdbjfbcjigaaaC1
namespace Go.Proofs.Ytljdbjfbcjigaaa
open Go.RowKit
set_option maxRecDepth 100000


/-- The block that a call of the model's KeyWords makes. -/
def keyBlock : Obj := .cells (keyL.map fun k => Value.string ⟨k.toArray⟩).toArray 9 (0, 0)
theorem keyBlock_cell (w : World) (k : Nat) (hk : k < 9) : (w.alloc keyBlock).cell? ⟨w.heap.size, k, none⟩ = some (.string (keyB k)) := by
  have h : k = 0 ∨ k = 1 ∨ k = 2 ∨ k = 3 ∨ k = 4 ∨ k = 5 ∨ k = 6 ∨ k = 7 ∨ k = 8 := by omega
  have hb : (w.alloc keyBlock).heap[w.heap.size]? = some keyBlock := by
    show (w.heap.push keyBlock)[w.heap.size]? = _
    simp
  unfold World.cell?
  rw [hb]
  rcases h with rfl | rfl | rfl | rfl | rfl | rfl | rfl | rfl | rfl <;> rfl



end Go.Proofs.Ytljdbjfbcjigaaa
