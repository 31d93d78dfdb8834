/-
  The law on CutWords: its walk.
-/
import Derived.Test.YtljoipgpkmdjbaaDoorMarkW
namespace Go.Proofs.YtljoipgpkmdjbaaDoor
open Go.RowKit
set_option maxRecDepth 100000

theorem words_own {w : World} {base e : Nat} {ws : List (Int × ByteArray)} {v : Value} (h : w.ownsRow base e 2 v ws.length (wordCells ws)) : ∃ A cap, v = .slice A ws.length cap ∧ Words w w.heap.size A ws := by
  rcases h.2 with ⟨rfl, h0⟩ | ⟨g, cap, cur, rfl, _⟩
  · exact ⟨none, 0, by rw [h0], fun hne => absurd (List.length_eq_zero_iff.1 h0) hne⟩
  · exact ⟨_, cap, rfl, Words.of_own h⟩
theorem cutRes_len (s : ByteArray) : (cutRes s).1.length ≤ 600 := by
  unfold cutRes
  split
  · simp
  · split
    · split
      · assumption
      · simp
    · simp
theorem words_self (ws : List (Int × ByteArray)) : decide (ws = ws) = true := by simp
theorem own_below {w w' : World} {base e size n : Nat} {v : Value} {xs : List Value} (h : w.ownsRow base e size v n xs) (hb : Below w.heap.size w w') : w'.ownsRow base e size v n xs :=
  h.kept (row := none) ⟨hb.os, hb.tape, hb.output, hb.size, fun i hi _ => hb.block i hi⟩ (Classical.em _)

end Go.Proofs.YtljoipgpkmdjbaaDoor
