/-
  Drawn expressions with calls.
-/
import Derived.Test.YtoepehlndljkoaaDoorG12
import Derived.Deep.LoopGhost
import Derived.Deep.AppendLies
import Derived.Deep.RegionLaw
namespace Go.Proofs.YtoepehlndljkoaaDoor
open Go.RowKit
set_option maxRecDepth 100000

theorem bulkL_snoc (ks : List E) (e : E) : bulkL (ks ++ [e]) = bulkL ks + (1 + bulkE e) := by rw [bulkL_app]; show _ + (1 + bulkE e + 0) = _; omega
/-- One Kid more. -/
theorem DrK.snoc {w w' : World} {lo n g cap : Nat} {v : Value} {ks : List E} {xs : List Value} (k : Kd)
    (hx : ∀ j, (h : j < ks.length) → xs[j * 4]? = some (.int .i64 ks[j].op) ∧ xs[j * 4 + 1]? = some (.int .i64 ks[j].n) ∧ xs[j * 4 + 2]? = some (.string ks[j].name) ∧ ∃ A c, xs[j * 4 + 3]? = some (.slice A ks[j].kids.length c) ∧ PdS w (fun b => Between w lo w.heap.size b ∧ v.ownBlock ≠ some b) ks[j].kids A)
    (hl : xs.length = ks.length * 4) (hn : ks.length = n) (hown : w'.ownsRow lo 30 4 (.slice (some ⟨g, 0, none⟩) (n + 1) cap) (n + 1) (xs ++ k.cells)) (hg : w.grownBy w' v.ownBlock) (hat : v.ownBlock = some g ∨ g = w.heap.size)
    (hk : PdS w (fun b => Between w lo w.heap.size b ∧ v.ownBlock ≠ some b) k.e.kids k.A) : DrK w' lo (.slice (some ⟨g, 0, none⟩) (n + 1) cap) (ks ++ [k.e]) := by
  have keep : ∀ {ls : List E} {A : Option Addr}, PdS w (fun b => Between w lo w.heap.size b ∧ v.ownBlock ≠ some b) ls A → PdS w' (fun b => Between w' lo w'.heap.size b ∧ (Value.slice (some ⟨g, 0, none⟩) (n + 1) cap).ownBlock ≠ some b) ls A := by
    intro ls A h
    refine h.keep (fun b o hb => World.cell?_of_block (hg.block b hb.1.2.1 (fun e => hb.2 e.symm))) (fun b hb => ⟨⟨hb.1.1, Nat.lt_of_lt_of_le hb.1.2.1 hg.size, flat_of_eq hb.1.2.2 (hg.block b hb.1.2.1 (fun e => hb.2 e.symm))⟩, ?_⟩)
    intro e
    have e : g = b := by injection e
    rcases hat with h1 | h1
    · exact hb.2 (by rw [h1, e])
    · have := hb.1.2.1; omega
  refine ⟨xs ++ k.cells, ?_, fun j hj => ?_⟩
  · rw [List.length_append, hn]; exact hown
  · by_cases hjk : j < ks.length
    · obtain ⟨a, b, c, A, d, e, f⟩ := hx j hjk
      rw [List.getElem_append_left hjk]
      refine ⟨?_, ?_, ?_, A, d, ?_, keep f⟩ <;> (rw [List.getElem?_append_left (by omega)]; assumption)
    · have hj' : j = ks.length := by simp at hj; omega
      subst hj'
      simp only [List.getElem_concat_length]
      have at_ : ∀ i, i < 4 → (xs ++ k.cells)[ks.length * 4 + i]? = k.cells[i]? := by
        intro i hi
        rw [List.getElem?_append_right (by omega), hl]
        congr 1
        omega
      exact ⟨at_ 0 (by omega), at_ 1 (by omega), at_ 2 (by omega), k.A, k.c, at_ 3 (by omega), keep hk⟩
/-- A Kid that lies behind all that a row owns. -/
theorem DrK.apart {w : World} {lo lo' n c : Nat} {A : Option Addr} {v : Value} {ks : List E} (h : DrK w lo' (.slice A n c) ks) (hl : lo ≤ lo') (hv : ∀ k, v.ownBlock = some k → k < lo') : PdS w (fun b => Between w lo w.heap.size b ∧ v.ownBlock ≠ some b) ks A :=
  h.pd.keep (fun _ _ _ => rfl) (fun b hb => ⟨⟨Nat.le_trans hl hb.1, hb.2⟩, fun e => by have := hv b e; have := hb.1; omega⟩)
theorem DrK.slice {w : World} {lo : Nat} {v : Value} {ks : List E} (h : DrK w lo v ks) : ∃ A c, v = .slice A ks.length c := by
  obtain ⟨xs, ho, _⟩ := h
  rcases ho.2 with ⟨rfl, h0⟩ | ⟨g, cap, cur, rfl, _⟩
  · exact ⟨none, 0, by rw [h0]⟩
  · exact ⟨_, cap, rfl⟩
theorem DrK.owned {w : World} {lo : Nat} {v : Value} {ks : List E} (h : DrK w lo v ks) : ∀ k, v.ownBlock = some k → lo ≤ k ∧ k < w.heap.size := by
  obtain ⟨xs, ho, _⟩ := h
  exact World.ownsRow.lt ho
/-- What holds while Kids of a call are drawn. -/
def AnyRel (w0 : World) (R lo p bc : Nat) (nm : ByteArray) (gk : Nat) (c : Value) (wr : World) : Prop :=
  ∃ (k : Nat) (v : Value) (ks : List E), c = .int .i64 k ∧ k = gk ∧ k + ks.length ≤ 3 ∧ Res wr bc (.int .i64 13) (.int .i64 0) (.string nm) v ∧ DrK wr lo v ks ∧ bulkL ks ≤ ks.length * 100 ∧ DrewT R (p + ks.length * 40) w0 wr
end Go.Proofs.YtoepehlndljkoaaDoor
