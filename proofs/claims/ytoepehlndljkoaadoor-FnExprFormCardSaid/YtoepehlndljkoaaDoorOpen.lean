/-
  Arguments that are words, opened: a struct of a number and a text, and a slice of such. Nothing of a program stands here.
-/
import Derived.Test.YtoepehlndljkoaaDoorW1
import Derived.Test.YtoepehlndljkoaaDoorLaw
import Derived.Deep.Slices
import Derived.Deep.Fields
import Derived.ShapedOpen
namespace Go.Proofs.YtoepehlndljkoaaDoor
open Go.ChangeShapes Go.WideShapes Go.ChangeAt Go.RowKit Go.WideMaps Go.Deep

section
variable {H : Type} {enc : TypeId × Value → H} {P : Program} {w : World} {base : Nat} {spare : Nat → Bool} {held : Bool}
theorem word_trod {e : TypeId} {f0 f1 : Field} {n : Nat} {cs : List Value} {x : DataW H × List MemPlace} (he : P.underlying e = some (.struct #[f0, f1])) (hone : oneCellFields P #[f0, f1] = true) (hC : P.cellsOf e = 2)
    (hi : P.underlying f0.type = some (.int .i64)) (hs : P.underlying f1.type = some .string) (h : DataW.trod enc P w base spare held n e cs = some x) :
    ∃ (k : Int) (s : ByteArray), cs = [.int .i64 k, .string s] ∧ s.size ≤ maxLen := by
  obtain ⟨ys, n', _, _, hl, hyl, hf⟩ := DataW.trod_struct he h
  rw [hC] at hl
  obtain ⟨o0, c0⟩ := hone_of hone 0 f0 rfl
  obtain ⟨o1, c1⟩ := hone_of hone 1 f1 rfl
  match cs, hl with
  | [a, b], _ =>
    match ys, hyl with
    | [y0, y1], _ =>
      have h0 := hf 0 f0 rfl
      have h1 := hf 1 f1 rfl
      rw [o0, c0] at h0
      rw [o1, c1] at h1
      obtain ⟨k, e1, _, _⟩ := DataW.trod_int hi (show DataW.trod enc P w base spare held n' f0.type [a] = some y0 from h0)
      obtain ⟨s, e2, _, e3⟩ := DataW.trod_string hs (show DataW.trod enc P w base spare held n' f1.type [b] = some y1 from h1)
      injection e1 with e1 _
      injection e2 with e2 _
      subst e1; subst e2
      exact ⟨k, s, rfl, e3⟩

theorem open_word {r : Reach} {b0 : Nat} {e : TypeId} {f0 f1 : Field} {v : Value} {d : DataW H} {p : List MemPlace} (he : P.underlying e = some (.struct #[f0, f1])) (hone : oneCellFields P #[f0, f1] = true) (hC : P.cellsOf e = 2)
    (hi : P.underlying f0.type = some (.int .i64)) (hs : P.underlying f1.type = some .string) (hv : Value.okWide P w r b0 e v) (h : DataW.Trod enc P w base spare held e v d p) :
    ∃ (k : Int) (s : ByteArray), v = .agg #[.int .i64 k, .string s] ∧ s.size ≤ maxLen := by
  obtain ⟨cs, rfl, hsz⟩ := okWide_struct he hv
  obtain ⟨n, hn⟩ := h
  obtain ⟨k, s, e1, e2⟩ := word_trod he hone hC hi hs hn
  refine ⟨k, s, ?_, e2⟩
  congr 1
  exact Array.ext' (by simpa [Value.cells] using e1)

theorem cell_addr {a : Addr} {v : Value} (h : w.cell? a = some v) : a = ⟨a.block, a.off, none⟩ ∧ a.block < w.heap.size := by
  obtain ⟨b, o, x⟩ := a
  unfold World.cell? at h
  cases hb : w.heap[b]? with
  | none => rw [hb] at h; simp at h
  | some ob =>
    have hlt : b < w.heap.size := (Array.getElem?_eq_some_iff.1 hb).1
    rw [hb] at h
    cases ob with
    | cells c t fr =>
      simp only at h
      split at h
      · cases h
      · rename_i hx
        cases x with
        | none => exact ⟨rfl, hlt⟩
        | some y => simp at hx
    | _ => simp at h

theorem open_words {r : Reach} {b0 : Nat} {t e : TypeId} {f0 f1 : Field} {v : Value} {d : DataW H} {p : List MemPlace} (ht : P.underlying t = some (.slice e)) (he : P.underlying e = some (.struct #[f0, f1])) (hone : oneCellFields P #[f0, f1] = true) (hC : P.cellsOf e = 2)
    (hi : P.underlying f0.type = some (.int .i64)) (hs : P.underlying f1.type = some .string) (hv : Value.okWide P w r b0 t v) (h : DataW.Trod enc P w base spare held t v d p) :
    ∃ (A : Option Addr) (ws : List (Int × ByteArray)) (cap : Nat), v = .slice A ws.length cap ∧ Words w w.heap.size A ws ∧ (∀ x ∈ ws, x.2.size ≤ maxLen) ∧ ws.length ≤ 9223372036854775807 := by
  obtain ⟨A, len, cap, rfl⟩ := okWide_slice ht hv
  obtain ⟨n, hn⟩ := h
  rcases open_slice ht hn with ⟨h0, _⟩ | ⟨a, len', cap', m, n', D, Pl, hcs, _, hl, hm, hmm, hxx, hx⟩
  · simp only [Value.cells, List.cons.injEq, Value.slice.injEq, and_true] at h0
    obtain ⟨rfl, rfl, rfl⟩ := h0
    exact ⟨none, [], 0, rfl, fun h => absurd rfl h, (fun x hx => by cases hx), by simp⟩
  · simp only [Value.cells, List.cons.injEq, Value.slice.injEq, and_true] at hcs
    obtain ⟨rfl, rfl, rfl⟩ := hcs
    have hlm : len ≤ m := by rw [hmm]; split <;> omega
    have each : ∀ i, i < len → ∃ (k : Int) (s : ByteArray), w.cell? (a.add (i * 2)) = some (.int .i64 k) ∧ w.cell? (a.add (i * 2 + 1)) = some (.string s) ∧ s.size ≤ maxLen := by
      intro i hi'
      obtain ⟨cs', hc, htr⟩ := hx i (by omega)
      rw [hC] at hc
      obtain ⟨k, s, rfl, e3⟩ := word_trod he hone hC hi hs htr
      obtain ⟨_, _, hat⟩ := World.cells?_some hc
      have c0 := hat 0 (by omega)
      have c1 := hat 1 (by omega)
      rw [add_add] at c0 c1
      exact ⟨k, s, c0, c1, e3⟩
    obtain ⟨ws, hwl, hws⟩ : ∃ ws : List (Int × ByteArray), ws.length = len ∧ ∀ i, (h : i < ws.length) → w.cell? (a.add (i * 2)) = some (.int .i64 ws[i].1) ∧ w.cell? (a.add (i * 2 + 1)) = some (.string ws[i].2) ∧ ws[i].2.size ≤ maxLen := by
      clear hx hm hlm hmm hl hv hn hxx
      induction len with
      | zero => exact ⟨[], rfl, fun i h => absurd h (by simp)⟩
      | succ len ih =>
        obtain ⟨ws, e1, e2⟩ := ih (fun i h => each i (by omega))
        obtain ⟨k, s, c0, c1, c2⟩ := each len (by omega)
        refine ⟨ws ++ [(k, s)], by simp [e1], fun i h => ?_⟩
        by_cases hi' : i < ws.length
        · rw [List.getElem_append_left hi']; exact e2 i hi'
        · have : i = ws.length := by simp at h; omega
          subst this
          simp only [List.getElem_concat_length]
          rw [e1]
          exact ⟨c0, c1, c2⟩
    subst hwl
    refine ⟨some a, ws, cap, rfl, fun hne => ?_, fun x hx' => ?_, by unfold maxLen at hm; omega⟩
    · have h0 : 0 < ws.length := by cases ws with
        | nil => exact absurd rfl hne
        | cons _ _ => simp
      have c0 := (hws 0 h0).1
      obtain ⟨ea, eb⟩ := cell_addr c0
      obtain ⟨b, o, x⟩ := a
      have hx0 : x = none := by
        have e0 : (⟨b, o, x⟩ : Addr).add (0 * 2) = ⟨b, o, x⟩ := by simp [Addr.add]
        rw [e0] at ea
        injection ea
      subst hx0
      have hadd : ∀ j, (⟨b, o, none⟩ : Addr).add j = ⟨b, o + j, none⟩ := by
        intro j
        unfold Addr.add
        by_cases hj : j = 0
        · rw [if_pos hj, hj, Nat.add_zero]
        · rw [if_neg hj]
      refine ⟨b, o, rfl, ?_, fun k hk => ?_⟩
      · have := hadd (0 * 2); rw [this] at eb; exact eb
      · have := hws k hk
        rw [hadd, hadd] at this
        exact ⟨this.1, this.2.1⟩
    · obtain ⟨j, hj, rfl⟩ := List.getElem_of_mem hx'
      exact (hws j hj).2.2
end
end Go.Proofs.YtoepehlndljkoaaDoor
