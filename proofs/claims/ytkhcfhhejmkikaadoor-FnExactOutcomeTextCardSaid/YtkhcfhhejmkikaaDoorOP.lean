/-
  Arguments that are outcomes, opened, with what their numbers are.
-/
import Derived.Test.YtkhcfhhejmkikaaDoorOU
import Derived.Test.YtkhcfhhejmkikaaDoorG4
import Derived.DataShut
namespace Go.Proofs.YtkhcfhhejmkikaaDoor
open Go.ChangeShapes Go.WideShapes Go.ChangeAt Go.RowKit Go.WideMaps Go.Deep

section
variable {H : Type} {enc : TypeId × Value → H} {P : Program} {w : World} {base : Nat} {spare : Nat → Bool} {held : Bool}
theorem open_intsM {t e : TypeId} {fuel : Nat} {cs : List Value} {x : DataW H × List MemPlace} (hi : P.underlying e = some (.int .i64)) (hk : P.cellsOf e = 1) (ht : P.underlying t = some (.slice e))
    (h : DataW.trod enc P w base spare held fuel t cs = some x) :
    ∃ (l : List Int) (A : Option Addr) (cap : Nat), cs = [.slice A l.length cap] ∧ l.length ≤ maxLen ∧ Ints w w.heap.size A l ∧ Mach l := by
  rcases slice_elems ht h with hd | ⟨ad, len, cap, n2, hf2, hd, hm, he⟩
  · exact ⟨[], none, 0, hd, Nat.zero_le _, fun h => absurd rfl h, fun x hx => by cases hx⟩
  · rw [hk] at he
    obtain ⟨l, hll, hlp⟩ := list_of (p := fun i (a : Int) => w.cell? (ad.add (i * 1)) = some (.int .i64 a) ∧ (-9223372036854775808 ≤ a ∧ a ≤ 9223372036854775807)) len (fun i hi' => by
      obtain ⟨cs', y, hl', hc', htr⟩ := he i hi'
      obtain ⟨a, rfl, _, hwf⟩ := DataW.trod_int hi htr
      exact ⟨a, hc' 0 (by omega), (Lit.wf_int_iff .i64 a).1 hwf⟩)
    subst hll
    refine ⟨l, some ad, cap, hd, hm, fun hne => ?_, fun x hx => ?_⟩
    case refine_2 =>
      obtain ⟨j, hj, rfl⟩ := List.getElem_of_mem hx
      exact (hlp j hj).2
    have h0 : 0 < l.length := List.length_pos_iff.2 hne
    obtain ⟨ea, eb⟩ := cell_addr (hlp 0 h0).1
    obtain ⟨b, o, xx⟩ := ad
    have hx0 : xx = none := by
      have e0 : (⟨b, o, xx⟩ : Addr).add (0 * 1) = ⟨b, o, xx⟩ := by simp [Addr.add]
      rw [e0] at ea
      injection ea
    subst hx0
    rw [addr_add] at eb
    refine ⟨b, o, rfl, eb, fun i hi' => ?_⟩
    have := (hlp i hi').1
    rw [addr_add, Nat.mul_one] at this
    exact this
theorem open_outcomeM {r : Reach} {b0 : Nat} {v : Value} {d : DataW H} {p : List MemPlace} {e i : TypeId} {f0 f1 f2 f3 : Field} (he : P.underlying e = some (.struct #[f0, f1, f2, f3])) (hone : oneCellFields P #[f0, f1, f2, f3] = true) (hC : P.cellsOf e = 4)
    (h0 : P.underlying f0.type = some (.slice i)) (h1 : P.underlying f1.type = some (.int .i64)) (h2 : P.underlying f2.type = some (.int .i64)) (h3 : P.underlying f3.type = some (.slice i)) (hi : P.underlying i = some (.int .i64)) (hCi : P.cellsOf i = 1)
    (hv : Value.okWide P w r b0 e v) (h : DataW.Trod enc P w base spare held e v d p) :
    ∃ (o : Oc) (A : Option Addr) (c : Nat) (A' : Option Addr) (c' : Nat), v = ocV o A c A' c' ∧ OcR w o A A' ∧ SmO o ∧ MachO o := by
  obtain ⟨cs, rfl, hsz⟩ := okWide_struct he hv
  obtain ⟨n, hn⟩ := h
  obtain ⟨ys, n', hfu, _, hl, hyl, hf⟩ := DataW.trod_struct he hn
  rw [hC] at hl
  obtain ⟨o0, c0⟩ := hone_of hone 0 f0 rfl
  obtain ⟨o1, c1⟩ := hone_of hone 1 f1 rfl
  obtain ⟨o2, c2⟩ := hone_of hone 2 f2 rfl
  obtain ⟨o3, c3⟩ := hone_of hone 3 f3 rfl
  have key : ∃ (o : Oc) (A : Option Addr) (c : Nat) (A' : Option Addr) (c' : Nat), (Value.agg cs).cells.toList = [.slice A o.said.length c, .int .i64 o.en, .int .i64 o.val, .slice A' o.cells.length c'] ∧ OcR w o A A' ∧ SmO o ∧ MachO o := by
    generalize (Value.agg cs).cells.toList = L at *
    match L, hl with
    | [a, b, c, d], _ =>
      match ys, hyl with
      | [y0, y1, y2, y3], _ =>
        have g0 := hf 0 f0 rfl
        have g1 := hf 1 f1 rfl
        have g2 := hf 2 f2 rfl
        have g3 := hf 3 f3 rfl
        rw [o0, c0] at g0
        rw [o1, c1] at g1
        rw [o2, c2] at g2
        rw [o3, c3] at g3
        obtain ⟨l0, A0, cp0, e0, m0, r0, q0⟩ := open_intsM hi hCi h0 (show DataW.trod enc P w base spare held n' f0.type [a] = some y0 from g0)
        obtain ⟨x1, e1, _, _⟩ := DataW.trod_int h1 (show DataW.trod enc P w base spare held n' f1.type [b] = some y1 from g1)
        obtain ⟨x2, e2, _, q2⟩ := DataW.trod_int h2 (show DataW.trod enc P w base spare held n' f2.type [c] = some y2 from g2)
        obtain ⟨l3, A3, cp3, e3, m3, r3, q3⟩ := open_intsM hi hCi h3 (show DataW.trod enc P w base spare held n' f3.type [d] = some y3 from g3)
        injection e0 with e0 _
        injection e1 with e1 _
        injection e2 with e2 _
        injection e3 with e3 _
        subst e0; subst e1; subst e2; subst e3
        exact ⟨⟨l0, x1, x2, l3⟩, A0, cp0, A3, cp3, rfl, ⟨r0, r3⟩, ⟨m0, m3⟩, ⟨q0, q3, (Lit.wf_int_iff .i64 x2).1 q2⟩⟩
  obtain ⟨o, A, c, A', c', e1, e2, e3, e4⟩ := key
  refine ⟨o, A, c, A', c', ?_, e2, e3, e4⟩
  unfold ocV
  congr 1
  exact Array.ext' (by simpa [Value.cells] using e1)
end
end Go.Proofs.YtkhcfhhejmkikaaDoor
