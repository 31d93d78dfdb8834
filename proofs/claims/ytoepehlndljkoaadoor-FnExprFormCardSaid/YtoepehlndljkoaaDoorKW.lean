/-
  KeyWords: the law's walk.
-/
import Derived.Test.YtoepehlndljkoaaDoorC2
import Derived.Test.YtoepehlndljkoaaDoorMark
namespace Go.Proofs.YtoepehlndljkoaaDoor
open Go.RowKit
set_option maxRecDepth 100000

/-- A slice of texts that reads as a list; below block B. -/
def Strs (w : World) (B : Nat) (A : Option Addr) (ss : List ByteArray) : Prop :=
  ss ≠ [] → ∃ b o, A = some ⟨b, o, none⟩ ∧ b < B ∧ ∀ k, (h : k < ss.length) → w.cell? ⟨b, o + k, none⟩ = some (.string ss[k])
theorem Strs.at_ {w : World} {B : Nat} {A : Option Addr} {ss : List ByteArray} (h : Strs w B A ss) {k : Nat} (hk : k < ss.length) :
    ∃ b o, A = some ⟨b, o, none⟩ ∧ b < B ∧ w.cell? ⟨b, o + k, none⟩ = some (.string ss[k]) := by
  obtain ⟨b, o, e, hb, hc⟩ := h (by intro e; subst e; simp at hk)
  exact ⟨b, o, e, hb, hc k hk⟩
theorem Strs.below {w w' : World} {B : Nat} {A : Option Addr} {ss : List ByteArray} (h : Strs w B A ss) (hb : Below B w w') : Strs w' B A ss := by
  intro hne
  obtain ⟨b, o, e, hB, hc⟩ := h hne
  exact ⟨b, o, e, hB, fun k hk => (hb.cell (p := ⟨b, _, none⟩) hB).trans (hc k hk)⟩
theorem Strs.more {w : World} {B B' : Nat} {A : Option Addr} {ss : List ByteArray} (h : Strs w B A ss) (hB : B ≤ B') : Strs w B' A ss := by
  intro hne
  obtain ⟨b, o, e, hb, hc⟩ := h hne
  exact ⟨b, o, e, by omega, hc⟩


/-- The program's table of keys stands in the world. -/
structure KTab (w : World) : Prop where
  size : 1 ≤ w.heap.size
  keys : ∃ t fr, w.heap[1]? = some (.cells (keyL.map fun k => Value.string ⟨k.toArray⟩).toArray t fr)
theorem KTab.below {w w' : World} (T : KTab w) (hb : Below w.heap.size w w') : KTab w' := by
  obtain ⟨t, fr, hk⟩ := T.keys
  have hsz := T.size
  exact ⟨by have := hb.size; omega, t, fr, by rw [hb.block _ (Array.getElem?_eq_some_iff.1 hk).1]; exact hk⟩
/-- The keys' cells, and the block that the program's KeyWords makes. -/
def keyCells : List Value := keyL.map fun k => Value.string ⟨k.toArray⟩
def keyArr : Obj := .cells keyCells.toArray 103 (0, 0)
theorem keyCells_at : ∀ k, k < 9 → keyCells[k]? = some (.string (keyB k)) := by
  intro k hk
  have h : k = 0 ∨ k = 1 ∨ k = 2 ∨ k = 3 ∨ k = 4 ∨ k = 5 ∨ k = 6 ∨ k = 7 ∨ k = 8 := by omega
  rcases h with rfl | rfl | rfl | rfl | rfl | rfl | rfl | rfl | rfl <;> rfl
def keyS : List ByteArray := keyL.map fun k => ⟨k.toArray⟩
theorem keyS_len : keyS.length = 9 := rfl
theorem keyS_self : decide (keyS = keyS) = true := by simp
theorem keyS_at (k : Nat) (h : k < keyS.length) : keyS[k] = keyB k := by
  have h' : k < 9 := h
  have h : k = 0 ∨ k = 1 ∨ k = 2 ∨ k = 3 ∨ k = 4 ∨ k = 5 ∨ k = 6 ∨ k = 7 ∨ k = 8 := by omega
  rcases h with rfl | rfl | rfl | rfl | rfl | rfl | rfl | rfl | rfl <;> rfl
theorem keyArr_own (w : World) (base : Nat) (hb : base ≤ w.heap.size) : (w.alloc keyArr).ownsRow base 103 1 (.slice (some ⟨w.heap.size, 0, none⟩) 9 9) 9 keyCells := by
  refine ⟨rfl, .inr ⟨w.heap.size, 9, keyCells.toArray, rfl, hb, ?_, Nat.le_refl _, by unfold maxLen; omega, rfl, rfl⟩⟩
  show (w.heap.push keyArr)[w.heap.size]? = _
  simp [keyArr]
theorem strs_of_own {w : World} {base e g cap : Nat} {ss : List ByteArray} {xs : List Value} {n : Nat} (h : w.ownsRow base e 1 (.slice (some ⟨g, 0, none⟩) n cap) n xs) (hn : ss.length = n) (hx : ∀ k, (h : k < ss.length) → xs[k]? = some (.string ss[k])) : Strs w w.heap.size (some ⟨g, 0, none⟩) ss := by
  intro _
  refine ⟨g, 0, rfl, (h.lt g rfl).2, fun k hk => ?_⟩
  rw [Nat.zero_add, h.cellAt k (by omega), hx k hk]
theorem keyBlock_strs (w : World) : Strs (w.alloc keyBlock) (w.alloc keyBlock).heap.size (some ⟨w.heap.size, 0, none⟩) keyS := by
  intro _
  refine ⟨w.heap.size, 0, rfl, by show _ < (w.heap.push keyBlock).size; simp, fun k hk => ?_⟩
  rw [Nat.zero_add, keyBlock_cell w k hk, keyS_at k hk]

end Go.Proofs.YtoepehlndljkoaaDoor
