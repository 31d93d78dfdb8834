/-
  CutWords: the model's and the program's cut a text into the same words.
-/
import Derived.Test.YtljoipgpkmdjbaaDoorC6
import Derived.Deep.DeepCutAuto
import Derived.Deep.CutBlock
namespace Go.Proofs.YtljoipgpkmdjbaaDoor
open Go.RowKit
set_option maxRecDepth 100000

/-- Words in memory of the call's own, and a flag. -/
def CutRet (p : List (Int × ByteArray) × Bool) (w : World) (e : Ending) (w' : World) : Prop :=
  (∃ v, e = .returned (.tuple #[v, .bool p.2]) ∧ w'.ownsRow w.heap.size 28 2 v p.1.length (wordCells p.1)) ∧ Below w.heap.size w w'
theorem wordCells_snoc : ∀ (l : List (Int × ByteArray)) (x : Int × ByteArray), wordCells (l ++ [x]) = wordCells l ++ [.int .i64 x.1, .string x.2]
  | [], _ => rfl
  | y :: l, x => by simp [wordCells, wordCells_snoc l x]
theorem wordOne (z : Int) (t : ByteArray) : ∀ u ∈ [Value.int .i64 z, Value.string t], u.oneCell' = true := by
  intro u hu
  simp at hu
  rcases hu with rfl | rfl <;> rfl
theorem new_word (w : World) (z : Int) (t : ByteArray) : ∀ (j : Nat) u, [Value.int .i64 z, Value.string t][j]? = some u → (w.alloc (.cells #[.int .i64 z, .string t] 28)).cell? ((⟨w.heap.size, 0, none⟩ : Addr).add j) = some u := by
  intro j u hu
  match j, hu with
  | 0, hu =>
    have : (⟨w.heap.size, 0, none⟩ : Addr).add 0 = ⟨w.heap.size, 0, none⟩ := rfl
    rw [this, alloc_cell]
    exact hu
  | 1, hu =>
    have : (⟨w.heap.size, 0, none⟩ : Addr).add 1 = ⟨w.heap.size, 1, none⟩ := rfl
    rw [this, alloc_cell]
    exact hu
  | j + 2, hu => simp at hu
theorem own_slice {w : World} {base e size n : Nat} {v : Value} {xs : List Value} (h : w.ownsRow base e size v n xs) : ∃ A cap, v = .slice A n cap := by
  rcases h.2 with ⟨rfl, rfl⟩ | ⟨g, cap, cur, rfl, _⟩
  · exact ⟨none, 0, rfl⟩
  · exact ⟨_, cap, rfl⟩
/-- Behind words acc, from i on. -/
def cutAt (s : ByteArray) (i : Nat) (acc : List (Int × ByteArray)) : Prop := cutF s 0 = (cutF s i).map (acc ++ ·) ∧ acc.length ≤ i
theorem cutAt_blank {s : ByteArray} {i : Nat} {acc : List (Int × ByteArray)} (h : cutAt s i acc) (hi : i < s.size) (hc : cls s[i].toNat = 4) : cutAt s (i + 1) acc := ⟨by rw [h.1, cutF_blank hi hc], by have := h.2; omega⟩
theorem cutAt_word {s : ByteArray} {i : Nat} {acc : List (Int × ByteArray)} (h : cutAt s i acc) (hi : i < s.size) (hc : cls s[i].toNat ≠ 4) (h0 : cls s[i].toNat ≠ 0) (hv : validB (wordKind (s.extract i (endC s i hi)) (cls s[i].toNat)) (s.extract i (endC s i hi)) = true) :
    cutAt s (endC s i hi) (acc ++ [(wordKind (s.extract i (endC s i hi)) (cls s[i].toNat), s.extract i (endC s i hi))]) := by
  refine ⟨?_, by have := h.2; have := endC_bd hi; simp; omega⟩
  rw [h.1, cutF_word hi hc h0 hv]
  cases cutF s (endC s i hi) <;> simp
theorem cutAt_bad {s : ByteArray} {i : Nat} {acc : List (Int × ByteArray)} (h : cutAt s i acc) (hn : cutF s i = none) : cutRes s = ([], false) := cutRes_none (by rw [h.1, hn]; rfl)
theorem cutAt_end {s : ByteArray} {i : Nat} {acc : List (Int × ByteArray)} (h : cutAt s i acc) (hi : ¬ i < s.size) : cutF s 0 = some acc := by rw [h.1, cutF_end hi]; simp
theorem endC_blank {s : ByteArray} {i : Nat} (h : i < s.size) (hc : 3 ≤ cls s[i].toNat) : endC s i h = i + 1 := by
  unfold endC
  refine scanP_stop (fun _ => ?_)
  unfold goCls
  rw [decide_eq_false (show ¬ cls s[i].toNat < 3 by omega), Bool.and_false]

theorem empty_own (w : World) (base : Nat) (hb : base ≤ w.heap.size) : (w.alloc (.cells #[] 28)).ownsRow base 28 2 (.slice (some ⟨w.heap.size, 0, none⟩) 0 0) 0 [] := by
  refine ⟨rfl, .inr ⟨w.heap.size, 0, #[], rfl, hb, ?_, Nat.le_refl _, by unfold maxLen; omega, rfl, rfl⟩⟩
  show (w.heap.push _)[w.heap.size]? = _
  simp
end Go.Proofs.YtljoipgpkmdjbaaDoor
