/-
  Words in memory: a slice of words that reads as a list; what the laws' own helpers on words return.
-/
import Derived.Test.YtoepehlndljkoaaDoorChecked
import Derived.Test.YtoepehlndljkoaaDoorMath
import Derived.WalkKit
import Derived.LoopTactic
import Derived.Lib.Hide
import Derived.Outline
import Derived.BigQuiet
import Derived.Deep.QuietTactic
import Derived.WalkSpells
import Derived.WalkLawsBesides
import Derived.Handy
import Derived.Deep.RegionHeld3
namespace Go.Proofs.YtoepehlndljkoaaDoor
open Go.RowKit
set_option maxRecDepth 100000

theorem bcell {W w1 : World} (hb : Below W.heap.size W w1) : ∀ b o, b < W.heap.size → w1.cell? ⟨b, o, none⟩ = W.cell? ⟨b, o, none⟩ :=
  fun b o h => hb.cell (p := ⟨b, o, none⟩) h
theorem alloc_cell (w : World) (cs : Array Value) (t : TypeId) (fr : Nat × Nat) (k : Nat) : (w.alloc (.cells cs t fr)).cell? ⟨w.heap.size, k, none⟩ = cs[k]? := by
  have hb : (w.alloc (.cells cs t fr)).heap[w.heap.size]? = some (.cells cs t fr) := by
    show (w.heap.push (.cells cs t fr))[w.heap.size]? = _
    simp
  unfold World.cell?
  rw [hb]
  rfl
theorem alloc_frozen (w : World) (cs : Array Value) (t : TypeId) (k : Nat) : (w.alloc (.cells cs t (0, 0))).frozen? ⟨w.heap.size, k, none⟩ = false :=
  frozen_of_row _ _ k cs t (by show (w.heap.push (.cells cs t (0, 0)))[w.heap.size]? = _; simp)
/-- What szWord returns. -/
def szW (s : ByteArray) (left : Int) : Int := if left - s.size < 0 then -1 else left - s.size



/-- A slice of words that reads as a list; below block B. -/
def Words (w : World) (B : Nat) (A : Option Addr) (ws : List (Int × ByteArray)) : Prop :=
  ws ≠ [] → ∃ b o, A = some ⟨b, o, none⟩ ∧ b < B ∧ ∀ k, (h : k < ws.length) → w.cell? ⟨b, o + k * 2, none⟩ = some (.int .i64 ws[k].1) ∧ w.cell? ⟨b, o + k * 2 + 1, none⟩ = some (.string ws[k].2)
theorem Words.at_ {w : World} {B : Nat} {A : Option Addr} {ws : List (Int × ByteArray)} (h : Words w B A ws) {k : Nat} (hk : k < ws.length) :
    ∃ b o, A = some ⟨b, o, none⟩ ∧ b < B ∧ w.cell? ⟨b, o + k * 2, none⟩ = some (.int .i64 ws[k].1) ∧ w.cell? ⟨b, o + k * 2 + 1, none⟩ = some (.string ws[k].2) := by
  obtain ⟨b, o, e, hb, hc⟩ := h (by intro e; subst e; simp at hk)
  exact ⟨b, o, e, hb, (hc k hk).1, (hc k hk).2⟩
theorem Words.below {w w' : World} {B : Nat} {A : Option Addr} {ws : List (Int × ByteArray)} (h : Words w B A ws) (hb : Below B w w') : Words w' B A ws := by
  intro hne
  obtain ⟨b, o, e, hB, hc⟩ := h hne
  exact ⟨b, o, e, hB, fun k hk => ⟨(hb.cell (p := ⟨b, _, none⟩) hB).trans (hc k hk).1, (hb.cell (p := ⟨b, _, none⟩) hB).trans (hc k hk).2⟩⟩
theorem Words.more {w : World} {B B' : Nat} {A : Option Addr} {ws : List (Int × ByteArray)} (h : Words w B A ws) (hB : B ≤ B') : Words w B' A ws := by
  intro hne
  obtain ⟨b, o, e, hb, hc⟩ := h hne
  exact ⟨b, o, e, by omega, hc⟩
/-- What szWordS comes to behind k words. -/
def szTo (ws : List (Int × ByteArray)) (left : Int) : Nat → Int
  | 0 => left
  | k + 1 => szTo ws left k - (ws.getD k (0, ByteArray.empty)).2.size
theorem szTo_le (ws : List (Int × ByteArray)) (left : Int) (k : Nat) : szTo ws left k ≤ left := by
  induction k with
  | zero => exact Int.le_refl _
  | succ k ih => unfold szTo; omega


/-- The cells of words. -/
def wordCells : List (Int × ByteArray) → List Value
  | [] => []
  | x :: l => .int .i64 x.1 :: .string x.2 :: wordCells l
theorem wordCells_length (l : List (Int × ByteArray)) : (wordCells l).length = l.length * 2 := by
  induction l with
  | nil => rfl
  | cons x l ih => simp only [wordCells, List.length_cons, ih]; omega
theorem wordCells_at : ∀ (l : List (Int × ByteArray)) (k : Nat) (h : k < l.length), (wordCells l)[k * 2]? = some (.int .i64 l[k].1) ∧ (wordCells l)[k * 2 + 1]? = some (.string l[k].2)
  | [], k, h => absurd h (by simp)
  | x :: l, 0, _ => ⟨rfl, rfl⟩
  | x :: l, k + 1, h => by
    have ih := wordCells_at l k (by simpa using h)
    have e1 : (k + 1) * 2 = k * 2 + 1 + 1 := by omega
    have e2 : (k + 1) * 2 + 1 = k * 2 + 1 + 1 + 1 := by omega
    refine ⟨?_, ?_⟩
    · rw [e1]; simpa [wordCells] using ih.1
    · rw [e2]; simpa [wordCells] using ih.2
theorem Words.of_own {w : World} {base : Nat} {e : TypeId} {g cap : Nat} {ws : List (Int × ByteArray)} (h : w.ownsRow base e 2 (.slice (some ⟨g, 0, none⟩) ws.length cap) ws.length (wordCells ws)) : Words w w.heap.size (some ⟨g, 0, none⟩) ws := by
  intro hne
  refine ⟨g, 0, rfl, (h.lt g rfl).2, fun k hk => ?_⟩
  have c := wordCells_at ws k hk
  exact ⟨by rw [Nat.zero_add, h.cellAt _ (by omega), c.1], by rw [Nat.zero_add, h.cellAt _ (by omega), c.2]⟩
/-- The cells behind k rounds: k words are there. -/
def partCells (ws : List (Int × ByteArray)) (k : Nat) (xs : List Value) : Prop := xs.length = ws.length * 2 ∧ ∀ j, j < k * 2 → xs[j]? = (wordCells ws)[j]?
theorem partCells_succ {ws : List (Int × ByteArray)} {k : Nat} {xs : List Value} (h : partCells ws k xs) (hk : k < ws.length) : partCells ws (k + 1) ((xs.set (k * 2) (.int .i64 ws[k].1)).set (k * 2 + 1) (.string ws[k].2)) := by
  refine ⟨by simpa using h.1, fun j hj => ?_⟩
  have hl := h.1
  have c := wordCells_at ws k hk
  rw [List.getElem?_set, List.getElem?_set]
  by_cases e1 : k * 2 + 1 = j
  · subst e1; rw [if_pos rfl, if_pos (by simp; omega)]; exact c.2.symm
  · rw [if_neg e1]
    by_cases e2 : k * 2 = j
    · subst e2; rw [if_pos rfl, if_pos (by omega)]; exact c.1.symm
    · rw [if_neg e2]; exact h.2 j (by omega)
theorem partCells_end {ws : List (Int × ByteArray)} {xs : List Value} (h : partCells ws ws.length xs) : xs = wordCells ws := by
  apply List.ext_getElem?
  intro j
  by_cases hj : j < ws.length * 2
  · exact h.2 j hj
  · rw [List.getElem?_eq_none (by have := h.1; omega), List.getElem?_eq_none (by rw [wordCells_length]; omega)]
theorem wordInfo : (Tryd.prog.info? 54).map (fun i => (i.zero, i.size, i.bytes)) = some (some (.agg #[.int .i64 0, .string ⟨#[]⟩]), 2, 24) := by kernel_rfl

end Go.Proofs.YtoepehlndljkoaaDoor
