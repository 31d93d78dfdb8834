/-
  Arguments that are expressions, opened. Nothing of a program stands here.
-/
import Derived.Test.YtoepehlndljkoaaDoorG1
import Derived.Test.YtoepehlndljkoaaDoorOpen
namespace Go.Proofs.YtoepehlndljkoaaDoor
open Go.ChangeShapes Go.WideShapes Go.ChangeAt Go.RowKit Go.WideMaps Go.Deep

theorem list_of {α : Type} {p : Nat → α → Prop} : ∀ (len : Nat), (∀ i, i < len → ∃ x, p i x) → ∃ l : List α, l.length = len ∧ ∀ i, (h : i < l.length) → p i l[i]
  | 0, _ => ⟨[], rfl, fun i h => absurd h (by simp)⟩
  | len + 1, h => by
    obtain ⟨l, h1, h2⟩ := list_of len (fun i hi => h i (by omega))
    obtain ⟨x, hx⟩ := h len (by omega)
    refine ⟨l ++ [x], by simp [h1], fun i hi => ?_⟩
    by_cases hi' : i < l.length
    · rw [List.getElem_append_left hi']; exact h2 i hi'
    · have : i = l.length := by simp at hi; omega
      subst this
      simp only [List.getElem_concat_length]
      rw [h1]; exact hx
theorem addr_add (b o j : Nat) : (⟨b, o, none⟩ : Addr).add j = ⟨b, o + j, none⟩ := by
  unfold Addr.add
  by_cases hj : j = 0
  · rw [if_pos hj, hj, Nat.add_zero]
  · rw [if_neg hj]
section
variable {H : Type} {enc : TypeId × Value → H} {P : Program} {w : World} {base : Nat} {spare : Nat → Bool} {held : Bool}
/-- A slice that can be read: its elements can, with less fuel. -/
theorem slice_elems {t e : TypeId} {fuel : Nat} {cs : List Value} {x : DataW H × List MemPlace} (ht : P.underlying t = some (.slice e)) (h : DataW.trod enc P w base spare held fuel t cs = some x) :
    cs = [.slice none 0 0] ∨ ∃ (a : Addr) (len cap n : Nat), fuel = n + 1 ∧ cs = [.slice (some a) len cap] ∧ len ≤ maxLen ∧
      ∀ i, i < len → ∃ cs' y, cs'.length = P.cellsOf e ∧ (∀ j, j < P.cellsOf e → w.cell? (a.add (i * P.cellsOf e + j)) = cs'[j]?) ∧ DataW.trod enc P w base spare held n e cs' = some y := by
  rcases DataW.trod_slice ht h with ⟨h0, _⟩ | ⟨a, len, cap, elems, rest, n, hf, rfl, _, _, hl, hm, hlen, hel, _, _⟩
  · exact .inl h0
  · refine .inr ⟨a, len, cap, n, hf, rfl, by omega, fun i hi => ?_⟩
    have key := hel i hi
    rw [List.getElem?_eq_getElem (by omega)] at key
    obtain ⟨cs', h1, h2⟩ := Option.bind_eq_some_iff.1 key
    obtain ⟨_, e1, e2⟩ := World.cells?_some h1
    refine ⟨cs', _, e1, fun j hj => ?_, h2⟩
    rw [← e2 j hj, add_add]
variable {e : TypeId} {f0 f1 f2 f3 : Field}
theorem expr_trod (he : P.underlying e = some (.struct #[f0, f1, f2, f3])) (hone : oneCellFields P #[f0, f1, f2, f3] = true) (hC : P.cellsOf e = 4)
    (hi0 : P.underlying f0.type = some (.int .i64)) (hi1 : P.underlying f1.type = some (.int .i64)) (hs : P.underlying f2.type = some .string) (ht : P.underlying f3.type = some (.slice e)) :
    ∀ (N n : Nat) (_ : n ≤ N) (cs : List Value) (x : DataW H × List MemPlace), DataW.trod enc P w base spare held n e cs = some x →
    ∃ (k : E) (A : Option Addr) (cap : Nat), cs = [.int .i64 k.op, .int .i64 k.n, .string k.name, .slice A k.kids.length cap] ∧ RdS w w.heap.size k.kids A ∧ SmE k := by
  intro N
  induction N with
  | zero =>
    intro n hn cs x h
    obtain ⟨_, _, hf, _⟩ := DataW.trod_struct he h
    omega
  | succ N ih =>
    intro n hn cs x h
    obtain ⟨ys, n', hfu, _, hl, hyl, hf⟩ := DataW.trod_struct he h
    rw [hC] at hl
    obtain ⟨o0, c0⟩ := hone_of hone 0 f0 rfl
    obtain ⟨o1, c1⟩ := hone_of hone 1 f1 rfl
    obtain ⟨o2, c2⟩ := hone_of hone 2 f2 rfl
    obtain ⟨o3, c3⟩ := hone_of hone 3 f3 rfl
    match cs, hl with
    | [a, b, c, d], _ =>
      match ys, hyl with
      | [y0, y1, y2, y3], _ =>
        have h0 := hf 0 f0 rfl
        have h1 := hf 1 f1 rfl
        have h2 := hf 2 f2 rfl
        have h3 := hf 3 f3 rfl
        rw [o0, c0] at h0
        rw [o1, c1] at h1
        rw [o2, c2] at h2
        rw [o3, c3] at h3
        obtain ⟨op, e1, _, _⟩ := DataW.trod_int hi0 (show DataW.trod enc P w base spare held n' f0.type [a] = some y0 from h0)
        obtain ⟨z, e2, _, _⟩ := DataW.trod_int hi1 (show DataW.trod enc P w base spare held n' f1.type [b] = some y1 from h1)
        obtain ⟨s, e3, _, e4⟩ := DataW.trod_string hs (show DataW.trod enc P w base spare held n' f2.type [c] = some y2 from h2)
        injection e1 with e1 _
        injection e2 with e2 _
        injection e3 with e3 _
        subst e1; subst e2; subst e3
        rcases slice_elems ht (show DataW.trod enc P w base spare held n' f3.type [d] = some y3 from h3) with hd | ⟨ad, len, cap, n2, hf2, hd, hm, hel⟩
        · injection hd with hd _
          subst hd
          exact ⟨.mk op z s [], none, 0, rfl, .inl rfl, by rw [SmE_mk]; exact ⟨e4, Nat.zero_le _, by rw [E.kids, SmL]; trivial⟩⟩
        · injection hd with hd _
          subst hd
          rw [hC] at hel
          obtain ⟨l, hll, hlp⟩ := list_of (p := fun i (k : E) => (∃ A cap, w.cell? (ad.add (i * 4)) = some (.int .i64 k.op) ∧ w.cell? (ad.add (i * 4 + 1)) = some (.int .i64 k.n) ∧ w.cell? (ad.add (i * 4 + 2)) = some (.string k.name) ∧ w.cell? (ad.add (i * 4 + 3)) = some (.slice A k.kids.length cap) ∧ RdS w w.heap.size k.kids A) ∧ SmE k) len (fun i hi => by
            obtain ⟨cs', y, _, hc', htr⟩ := hel i hi
            obtain ⟨k, A, cp, rfl, hr, hsm⟩ := ih n2 (by omega) cs' y htr
            exact ⟨k, ⟨A, cp, hc' 0 (by omega), hc' 1 (by omega), hc' 2 (by omega), hc' 3 (by omega), hr⟩, hsm⟩)
          subst hll
          refine ⟨.mk op z s l, some ad, cap, rfl, ?_, ?_⟩
          · show RdS w w.heap.size l (some ad)
            cases l with
            | nil => exact .inl rfl
            | cons k0 kr =>
              obtain ⟨⟨A0, cp0, q0, _⟩, _⟩ := hlp 0 (by simp)
              obtain ⟨ea, eb⟩ := cell_addr q0
              obtain ⟨b, o, xx⟩ := ad
              have hx0 : xx = none := by
                have e0 : (⟨b, o, xx⟩ : Addr).add (0 * 4) = ⟨b, o, xx⟩ := by simp [Addr.add]
                rw [e0] at ea
                injection ea
              subst hx0
              rw [addr_add] at eb
              refine .inr ⟨b, o, rfl, eb, RdC.mk fun i hi => ?_⟩
              obtain ⟨⟨Ai, cpi, r0, r1, r2, r3, rr⟩, _⟩ := hlp i hi
              rw [addr_add] at r0 r1 r2 r3
              exact ⟨⟨r0, r1, r2⟩, Ai, cpi, r3, rr⟩
          · rw [SmE_mk]
            refine ⟨e4, hm, SmL_mk fun k hk => ?_⟩
            obtain ⟨j, hj, rfl⟩ := List.getElem_of_mem hk
            exact (hlp j hj).2
theorem open_expr {r : Reach} {b0 : Nat} {v : Value} {d : DataW H} {p : List MemPlace} (he : P.underlying e = some (.struct #[f0, f1, f2, f3])) (hone : oneCellFields P #[f0, f1, f2, f3] = true) (hC : P.cellsOf e = 4)
    (hi0 : P.underlying f0.type = some (.int .i64)) (hi1 : P.underlying f1.type = some (.int .i64)) (hs : P.underlying f2.type = some .string) (ht : P.underlying f3.type = some (.slice e)) (hv : Value.okWide P w r b0 e v) (h : DataW.Trod enc P w base spare held e v d p) :
    ∃ (k : E) (A : Option Addr) (cap : Nat), v = exV k A cap ∧ RdS w w.heap.size k.kids A ∧ SmE k := by
  obtain ⟨cs, rfl, hsz⟩ := okWide_struct he hv
  obtain ⟨n, hn⟩ := h
  obtain ⟨k, A, cap, e1, e2, e3⟩ := expr_trod he hone hC hi0 hi1 hs ht n n (Nat.le_refl _) _ _ hn
  refine ⟨k, A, cap, ?_, e2, e3⟩
  unfold exV
  congr 1
  exact Array.ext' (by simpa [Value.cells] using e1)
end
end Go.Proofs.YtoepehlndljkoaaDoor
