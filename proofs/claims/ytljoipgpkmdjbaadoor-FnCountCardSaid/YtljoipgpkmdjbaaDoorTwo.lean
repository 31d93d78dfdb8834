/-
  The law that two texts with a space between have the words of both: its walk.
-/
import Derived.Test.YtljoipgpkmdjbaaDoorCutLaw
import Derived.Test.YtljoipgpkmdjbaaDoorDraw5
import Derived.Test.YtljoipgpkmdjbaaDoorWW
import Derived.Test.YtljoipgpkmdjbaaDoorCutL2
import Derived.Laws.OwnMore
namespace Go.Proofs.YtljoipgpkmdjbaaDoor
open Go.RowKit
set_option maxRecDepth 100000

theorem cut_joined (a b : ByteArray) : cutF (a ++ ⟨#[32]⟩ ++ b) 0 = both (cutF a 0) (cutF b 0) := by
  rw [cut_list, cut_list, cut_list, ByteArray.data_append, ByteArray.data_append, Array.toList_append, Array.toList_append]
  show cutL (a.data.toList ++ [32] ++ b.data.toList) = _
  rw [List.append_assoc]
  exact cutL_two _ _ (Nat.le_refl _) 32 _ (by decide)
theorem joined_size (a b : ByteArray) : (a ++ ⟨#[32]⟩ ++ b).size = a.size + b.size + 1 := by
  have e : (⟨#[32]⟩ : ByteArray).size = 1 := rfl
  rw [ByteArray.size_append, ByteArray.size_append]
  omega
theorem two_no {a b : ByteArray} {ws vs : List (Int × ByteArray)} {one two : Bool} (ha : cutRes a = (ws, one)) (hb : cutRes b = (vs, two))
    (h : 3000 < a.size + b.size + 1 ∨ 600 < ws.length + vs.length ∨ one = false ∨ two = false) : cutRes (a ++ ⟨#[32]⟩ ++ b) = ([], false) := by
  by_cases hs : 3000 < a.size + b.size + 1
  · exact cutRes_long (by rw [joined_size]; exact hs)
  · apply cutRes_many
    intro us hu
    rw [cut_joined] at hu
    cases hca : cutF a 0 with
    | none => rw [hca, both_none] at hu; cases hu
    | some x =>
      cases hcb : cutF b 0 with
      | none => rw [hca, hcb] at hu; cases hu
      | some y =>
        rw [hca, hcb] at hu
        have e : us = x ++ y := by injection hu with hu; exact hu.symm
        rw [e, List.length_append]
        cases one
        · have := (cutRes_off ha).2 (by omega) x hca
          omega
        · cases two
          · have := (cutRes_off hb).2 (by omega) y hcb
            omega
          · have h1 := (cutRes_inv ha).2.1
            have h2 := (cutRes_inv hb).2.1
            rw [hca] at h1
            rw [hcb] at h2
            injection h1 with h1
            injection h2 with h2
            subst h1; subst h2
            rcases h with h | h | h | h
            · omega
            · exact h
            · cases h
            · cases h
theorem two_yes {a b : ByteArray} {ws vs : List (Int × ByteArray)} (ha : cutRes a = (ws, true)) (hb : cutRes b = (vs, true))
    (hs : ¬ 3000 < a.size + b.size + 1) (hn : ¬ 600 < ws.length + vs.length) : cutRes (a ++ ⟨#[32]⟩ ++ b) = (ws ++ vs, true) := by
  refine cutRes_yes (by rw [joined_size]; omega) ?_ (by rw [List.length_append]; omega)
  rw [cut_joined, (cutRes_inv ha).2.1, (cutRes_inv hb).2.1]
  rfl
theorem wordCells_append : ∀ (a b : List (Int × ByteArray)), wordCells (a ++ b) = wordCells a ++ wordCells b
  | [], _ => rfl
  | x :: r, b => by
    show _ :: _ :: wordCells (r ++ b) = _ :: _ :: (wordCells r ++ wordCells b)
    rw [wordCells_append r b]
theorem wordCells_one : ∀ (ws : List (Int × ByteArray)), ∀ u ∈ wordCells ws, u.oneCell' = true
  | [], u, hu => by cases hu
  | x :: r, u, hu => by
    have h : u = .int .i64 x.1 ∨ u = .string x.2 ∨ u ∈ wordCells r := by simpa [wordCells] using hu
    rcases h with rfl | rfl | h
    · rfl
    · rfl
    · exact wordCells_one r u h
/-- Words appended to words of the call's own, nil or not, guarded or not. -/
theorem append_words {ops : Array Oper} {rest : List Oper} {o : Oper} {a : Act} {w : World} {Q : Exit → Act → World → Prop} (hw : Region.wanted o (yielded ops a.tmps) = true) (s x : Operand)
    (ho : o.op = .call { callee := .builtin .append, args := #[s, x], argTypes := #[23, 23] })
    (base base' n : Nat) (v u : Value) (xs : List Value) (ws : List (Int × ByteArray)) (hs : a.eval s = v) (hx : a.eval x = u)
    (hv : w.ownsRow base 28 2 v n xs) (hu : w.ownsRow base' 28 2 u ws.length (wordCells ws)) (hn : n + ws.length ≤ 100000) (hbase : base ≤ w.heap.size)
    (h : ∀ v' w', w'.ownsRow base 28 2 v' (n + ws.length) (xs ++ wordCells ws) → Below base w w' → wpList Tryd.prog ops Q rest (a.put o.dst v') w') : wpList Tryd.prog ops Q (o :: rest) a w := by
  obtain ⟨i0, hi, hz0, hz1, hz2⟩ := info_parts wordInfo
  refine wpList_step fun K hK => ?_
  rw [if_pos hw]
  rcases hu.2 with ⟨rfl, h0⟩ | ⟨g, cap, cur, rfl, hg1, hg2, hg3, hg4, hg5, hg6⟩
  · have hrun := run_append_owned_none (P := Tryd.prog) (w := w) base 23 o.type 28 i0 2 Tryd.underlying23 hi v n xs hv
    have hws : ws = [] := List.length_eq_zero_iff.1 h0
    subst hws
    have hk := hK _ _ (h v w (by simpa [wordCells] using hv) (Below.refl _ _))
    unfold Oper.wp
    simp [execOp, ho, resolve, invoke, builtin, hs, hx, hrun, Result.andThen]
    exact hk
  · refine wp_append_own w s x 23 ho base 28 i0 (.agg #[.int .i64 0, .string ⟨#[]⟩]) 2 24 Tryd.underlying23 hi hz0 hz1 hz2 rfl (by decide) v n xs hs hv
      ⟨g, 0, none⟩ ws.length cap (wordCells ws) hx (wordCells_length ws) (fun j y hy => ?_) (wordCells_one ws) (by unfold maxLen; omega) (by omega) hbase (fun v' w' h1 h2 _ => hK _ _ (h v' w' h1 ((Below.refl base w).grown h2 hbase (fun k e => (hv.lt k e).1))))
    have hj : j < (wordCells ws).length := (List.getElem?_eq_some_iff.1 hy).1
    have hadd : (⟨g, 0, none⟩ : Addr).add j = ⟨g, j, none⟩ := by
      unfold Addr.add
      by_cases e : j = 0
      · rw [if_pos e, e]
      · rw [if_neg e, Nat.zero_add]
    rw [hadd, hu.cellAt j (by rw [wordCells_length] at hj; exact hj)]
    exact hy

end Go.Proofs.YtljoipgpkmdjbaaDoor
