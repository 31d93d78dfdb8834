/-
  The model's WordValid and NumberOf, the program's NumberOf, and both laws' walks.
-/
import Derived.Test.YtoepehlndljkoaaDoorC4
import Derived.Test.YtoepehlndljkoaaDoorW1
namespace Go.Proofs.YtoepehlndljkoaaDoor
open Go.RowKit
set_option maxRecDepth 100000

theorem validB_two (s : ByteArray) : decide (0 ≤ numB s.data.toList) = ((l30F s).2 && decide (0 ≤ (l30F s).1 ∧ (l30F s).1 ≤ 255)) := by
  rw [numB_l30F]
  generalize l30F s = p
  obtain ⟨z, ok⟩ := p
  cases ok
  · simp
  · by_cases h : 0 ≤ z ∧ z ≤ 255
    · simp [h]
    · simp only [true_and]
      rw [if_neg h]
      simp [h]


/-- The number that a word tells. -/
def numOfB (n : Int) (s : ByteArray) : Int := if n = 2 then numB s.data.toList else -1


theorem numOf_yes {s : ByteArray} (h : 0 ≤ numB s.data.toList) : numB s.data.toList = (l30F s).1 := by
  rw [numB_l30F] at h ⊢
  split
  · rfl
  · rename_i hn; rw [if_neg hn] at h; omega


end Go.Proofs.YtoepehlndljkoaaDoor
