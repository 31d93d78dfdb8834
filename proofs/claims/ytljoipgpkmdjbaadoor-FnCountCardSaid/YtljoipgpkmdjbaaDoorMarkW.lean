/-
  Marks written into a slice of words are held there; the law on CutWords: its walk.
-/
import Derived.Test.YtljoipgpkmdjbaaDoorC8
namespace Go.Proofs.YtljoipgpkmdjbaaDoor
open Go.RowKit
set_option maxRecDepth 100000

def marked (xs : List Value) (k0 k : Nat) : Prop := ∀ j, j < k → xs[j * 2]? = some (.int .i64 ((k0 + j * 2 : Nat) : Int)) ∧ xs[j * 2 + 1]? = some (.string (markB (k0 + j * 2 + 1)))
theorem marked_succ {xs : List Value} {k0 k n : Nat} (h : marked xs k0 k) (hl : xs.length = n * 2) (hk : k < n) :
    marked ((xs.set (k * 2) (.int .i64 ((k0 + k * 2 : Nat) : Int))).set (k * 2 + 1) (.string (markB (k0 + k * 2 + 1)))) k0 (k + 1) := by
  intro j hj
  simp only [List.getElem?_set, List.length_set]
  by_cases e : j = k
  · subst e
    refine ⟨?_, ?_⟩
    · rw [if_neg (by omega), if_pos rfl, if_pos (by omega)]
    · rw [if_pos rfl, if_pos (by omega)]
  · have := h j (by omega)
    refine ⟨?_, ?_⟩
    · rw [if_neg (by omega), if_neg (by omega)]; exact this.1
    · rw [if_neg (by omega), if_neg (by omega)]; exact this.2
def MarkWRet (base e n k0 : Nat) (v : Value) (w : World) (en : Ending) (w' : World) : Prop :=
  en = .returned (.int .i64 ((k0 + n * 2 : Nat) : Int)) ∧ (∃ xs', w'.ownsRow base e 2 v n xs' ∧ marked xs' k0 n) ∧ Below base w w'


end Go.Proofs.YtljoipgpkmdjbaaDoor
