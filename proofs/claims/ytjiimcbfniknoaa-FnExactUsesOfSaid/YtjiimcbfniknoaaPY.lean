/-
  The numbers of a list, each once, ascending: put in one by one, and sorted and compacted. Nothing of a program stands here.
-/
import Derived.Test.YtjiimcbfniknoaaNA
import Derived.Lib.SlicesCompact
namespace Go.Proofs.Ytjiimcbfniknoaa
open Go.RowKit

/-- A number put into an ascending list. -/
def insU : List Int → Int → List Int
  | [], n => [n]
  | x :: xs, n => if x < n then x :: insU xs n else if x = n then x :: xs else n :: x :: xs
def usesTo (l : List Int) (k : Nat) : List Int := (l.take k).foldl insU []
theorem usesTo_succ {l : List Int} {k : Nat} (h : k < l.length) : usesTo l (k + 1) = insU (usesTo l k) l[k] := by
  unfold usesTo
  rw [List.take_succ_eq_append_getElem h, List.foldl_append]
  rfl
theorem insU_mem : ∀ (l : List Int) (n x : Int), x ∈ insU l n ↔ x = n ∨ x ∈ l
  | [], n, x => by simp [insU]
  | y :: ys, n, x => by
    unfold insU
    split
    · rw [List.mem_cons, insU_mem ys n x, List.mem_cons]
      constructor
      · rintro (h | h | h)
        · exact .inr (.inl h)
        · exact .inl h
        · exact .inr (.inr h)
      · rintro (h | h | h)
        · exact .inr (.inl h)
        · exact .inl h
        · exact .inr (.inr h)
    · split
      · rename_i h; subst h
        constructor
        · exact fun h => .inr h
        · rintro (h | h)
          · rw [h]; exact List.mem_cons_self
          · exact h
      · exact List.mem_cons
theorem insU_asc : ∀ (l : List Int) (n : Int), l.Pairwise (· < ·) → (insU l n).Pairwise (· < ·)
  | [], n, _ => by simp [insU]
  | y :: ys, n, h => by
    rw [List.pairwise_cons] at h
    unfold insU
    split
    · rename_i hy
      rw [List.pairwise_cons]
      refine ⟨fun a ha => ?_, insU_asc ys n h.2⟩
      rcases (insU_mem ys n a).1 ha with e | e
      · omega
      · exact h.1 a e
    · split
      · rw [List.pairwise_cons]; exact h
      · rename_i h1 h2
        rw [List.pairwise_cons]
        refine ⟨fun a ha => ?_, by rw [List.pairwise_cons]; exact h⟩
        rcases List.mem_cons.1 ha with e | e
        · omega
        · have := h.1 a e; omega
theorem insU_len : ∀ (l : List Int) (n : Int), (insU l n).length ≤ l.length + 1
  | [], n => by simp [insU]
  | y :: ys, n => by
    unfold insU
    split
    · have := insU_len ys n; simp only [List.length_cons]; omega
    · split <;> simp only [List.length_cons] <;> omega
theorem foldl_asc : ∀ (l acc : List Int), acc.Pairwise (· < ·) → (l.foldl insU acc).Pairwise (· < ·)
  | [], _, h => h
  | x :: xs, acc, h => foldl_asc xs _ (insU_asc acc x h)
theorem foldl_mem : ∀ (l acc : List Int) (x : Int), x ∈ l.foldl insU acc ↔ x ∈ l ∨ x ∈ acc
  | [], acc, x => by simp
  | y :: ys, acc, x => by
    show x ∈ ys.foldl insU (insU acc y) ↔ _
    rw [foldl_mem ys _ x, insU_mem, List.mem_cons]
    constructor
    · rintro (h | h | h)
      · exact .inl (.inr h)
      · exact .inl (.inl h)
      · exact .inr h
    · rintro ((h | h) | h)
      · exact .inr (.inl h)
      · exact .inl h
      · exact .inr (.inr h)
theorem foldl_len : ∀ (l acc : List Int), (l.foldl insU acc).length ≤ l.length + acc.length
  | [], acc => by simp
  | y :: ys, acc => by
    have := foldl_len ys (insU acc y)
    have := insU_len acc y
    show (ys.foldl insU (insU acc y)).length ≤ ys.length + 1 + acc.length
    omega
/-- Where a number is put. -/
theorem insU_at : ∀ (l : List Int) (n : Int) (k : Nat), k ≤ l.length → (∀ j, (h : j < l.length) → j < k → l[j] < n) → (∀ h : k < l.length, n < l[k]) → insU l n = l.take k ++ n :: l.drop k
  | [], n, k, hk, _, _ => by simp [insU]
  | y :: ys, n, 0, _, _, h => by
    have := h (by simp)
    simp only [List.getElem_cons_zero] at this
    unfold insU
    rw [if_neg (by omega), if_neg (by omega)]
    rfl
  | y :: ys, n, k + 1, hk, h1, h2 => by
    have h0 := h1 0 (by simp) (by omega)
    simp only [List.getElem_cons_zero] at h0
    unfold insU
    rw [if_pos h0, insU_at ys n k (by simpa using hk) (fun j hj hjk => by have := h1 (j + 1) (by simpa using hj) (by omega); simpa using this) (fun h => by have := h2 (by simpa using h); simpa using this)]
    rfl
theorem insU_has : ∀ (l : List Int) (n : Int) (k : Nat) (hk : k < l.length), (∀ j, (h : j < l.length) → j < k → l[j] < n) → l[k] = n → insU l n = l
  | [], n, k, hk, _, _ => absurd hk (by simp)
  | y :: ys, n, 0, _, _, h => by
    simp only [List.getElem_cons_zero] at h
    unfold insU
    rw [if_neg (by omega), if_pos h]
  | y :: ys, n, k + 1, hk, h1, h2 => by
    have h0 := h1 0 (by simp) (by omega)
    simp only [List.getElem_cons_zero] at h0
    unfold insU
    rw [if_pos h0, insU_has ys n k (by simpa using hk) (fun j hj hjk => by have := h1 (j + 1) (by simpa using hj) (by omega); simpa using this) (by simpa using h2)]
/-- Two ascending lists with the same members are one. -/
theorem asc_one : ∀ (a b : List Int), a.Pairwise (· < ·) → b.Pairwise (· < ·) → (∀ x, x ∈ a ↔ x ∈ b) → a = b
  | [], [], _, _, _ => rfl
  | [], y :: ys, _, _, h => by have := (h y).2 List.mem_cons_self; cases this
  | x :: xs, [], _, _, h => by have := (h x).1 List.mem_cons_self; cases this
  | x :: xs, y :: ys, ha, hb, h => by
    rw [List.pairwise_cons] at ha hb
    have e : x = y := by
      have h1 := (h x).1 List.mem_cons_self
      have h2 := (h y).2 List.mem_cons_self
      rcases List.mem_cons.1 h1 with e | e
      · exact e
      · rcases List.mem_cons.1 h2 with e' | e'
        · exact e'.symm
        · have := hb.1 x e; have := ha.1 y e'; omega
    subst e
    congr 1
    refine asc_one xs ys ha.2 hb.2 fun z => ?_
    constructor
    · intro hz
      rcases List.mem_cons.1 ((h z).1 (List.mem_cons_of_mem _ hz)) with e | e
      · have := ha.1 z hz; omega
      · exact e
    · intro hz
      rcases List.mem_cons.1 ((h z).2 (List.mem_cons_of_mem _ hz)) with e | e
      · have := hb.1 z hz; omega
      · exact e
/-- What is sorted, compacted, is ascending. -/
theorem compact_asc (zs : List Int) (hs : zs.Pairwise (· ≤ ·)) : (Lib.compact zs).Pairwise (· < ·) := by
  unfold Lib.compact Lib.compactUpTo
  rw [List.pairwise_map]
  have hr : ((List.range zs.length).filter (Lib.keeps zs.toArray)).Pairwise (· < ·) := List.Pairwise.filter _ List.pairwise_lt_range
  refine hr.imp_of_mem ?_
  intro i j hi hj hij
  have hj' : j < zs.length := List.mem_range.1 (List.mem_filter.1 hj).1
  have hk := (List.mem_filter.1 hj).2
  unfold Lib.keeps at hk
  have hk2 := of_decide_eq_true hk
  have hne : zs[j] ≠ zs[j - 1] := by
    rcases hk2 with h | h
    · omega
    · simpa [getElem!_pos, hj', show j - 1 < zs.length by omega] using h
  have hp := List.pairwise_iff_getElem.1 hs
  have h1 : zs[i] ≤ zs[j - 1] := by
    by_cases e : i = j - 1
    · subst e; exact Int.le_refl _
    · exact hp i (j - 1) (by omega) (by omega) (by omega)
  have h2 : zs[j - 1] ≤ zs[j] := hp (j - 1) j (by omega) hj' (by omega)
  have : zs[i] < zs[j] := by omega
  simpa [getElem!_pos, hj', show i < zs.length by omega] using this
theorem compact_mem (zs : List Int) (x : Int) : x ∈ Lib.compact zs ↔ x ∈ zs := by
  unfold Lib.compact Lib.compactUpTo
  rw [List.mem_map]
  constructor
  · rintro ⟨i, hi, rfl⟩
    have hi' : i < zs.length := List.mem_range.1 (List.mem_filter.1 hi).1
    simp [getElem!_pos, hi']
  · intro h
    obtain ⟨j, hj, rfl⟩ := List.getElem_of_mem h
    have main : ∀ N j, j ≤ N → (hj : j < zs.length) → ∃ i, i ∈ (List.range zs.length).filter (Lib.keeps zs.toArray) ∧ zs.toArray[i]! = zs[j] := by
      intro N
      induction N with
      | zero =>
        intro j hjN hj
        have : j = 0 := by omega
        subst this
        exact ⟨0, List.mem_filter.2 ⟨List.mem_range.2 hj, by simp [Lib.keeps]⟩, by simp [getElem!_pos, hj]⟩
      | succ N ih =>
        intro j hjN hj
        by_cases hk : Lib.keeps zs.toArray j = true
        · exact ⟨j, List.mem_filter.2 ⟨List.mem_range.2 hj, hk⟩, by simp [getElem!_pos, hj]⟩
        · have hk2 : ¬ (j = 0 ∨ zs.toArray[j]! ≠ zs.toArray[j - 1]!) := by
            intro h; exact hk (by unfold Lib.keeps; exact decide_eq_true h)
          have hj0 : j ≠ 0 := fun h => hk2 (.inl h)
          have he : zs.toArray[j]! = zs.toArray[j - 1]! := Classical.byContradiction fun h => hk2 (.inr h)
          obtain ⟨i, h1, h2⟩ := ih (j - 1) (by omega) (by omega)
          refine ⟨i, h1, h2.trans ?_⟩
          have : zs[j] = zs[j - 1] := by simpa [getElem!_pos, hj, show j - 1 < zs.length by omega] using he
          exact this.symm
    exact main j j (Nat.le_refl _) hj
theorem uses_one (l : List Int) : Lib.compact (l.mergeSort fun x y => decide (x ≤ y)) = usesTo l l.length := by
  refine asc_one _ _ (compact_asc _ ?_) (foldl_asc _ _ (by simp)) fun x => ?_
  · have := List.pairwise_mergeSort (le := fun (x y : Int) => decide (x ≤ y)) (fun a b c h1 h2 => by simp at *; omega) (fun a b => by simp; omega) l
    exact this.imp (fun h => by simpa using h)
  · rw [compact_mem, (List.mergeSort_perm l _).mem_iff]
    unfold usesTo
    rw [List.take_length, foldl_mem]
    simp
end Go.Proofs.Ytjiimcbfniknoaa
