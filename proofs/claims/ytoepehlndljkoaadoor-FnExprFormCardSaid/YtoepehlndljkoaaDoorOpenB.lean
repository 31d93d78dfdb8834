/-
  An argument that is a slice of bytes, opened.
-/
import Derived.Test.YtoepehlndljkoaaDoorOpen
import Derived.Test.YtoepehlndljkoaaDoorDraw
import Derived.OpenShut
namespace Go.Proofs.YtoepehlndljkoaaDoor
open Go.ChangeShapes Go.WideShapes Go.ChangeAt Go.RowKit Go.WideMaps Go.Deep

section
variable {H : Type} {enc : TypeId × Value → H} {P : Program} {w : World} {base : Nat} {spare : Nat → Bool} {held : Bool}
theorem open_byteS {r : Reach} {b0 : Nat} {t e : TypeId} {v : Value} {d : DataW H} {p : List MemPlace} (ht : P.underlying t = some (.slice e)) (he : P.underlying e = some (.int .u8)) (hC : P.cellsOf e = 1)
    (hv : Value.okWide P w r b0 t v) (h : DataW.Trod enc P w base spare held t v d p) :
    ∃ (A : Option Addr) (l : List UInt8) (cap : Nat), v = .slice A l.length cap ∧ Bytes w w.heap.size A l ∧ l.length ≤ cap ∧ cap ≤ 9223372036854775807 := by
  obtain ⟨A, len, cap, rfl⟩ := okWide_slice ht hv
  obtain ⟨fuel, hf⟩ := h
  rcases open_ints ht he hC hf with ⟨hcs, hx⟩ | ⟨a, len', cap', zs, hcs, _, hl, hm, hz, hx, hcell, hwz⟩
  · simp only [Value.cells, List.cons.injEq, Value.slice.injEq, and_true] at hcs
    obtain ⟨rfl, rfl, rfl⟩ := hcs
    exact ⟨none, [], 0, rfl, fun h => absurd rfl h, Nat.le_refl _, by simp⟩
  · simp only [Value.cells, List.cons.injEq, Value.slice.injEq, and_true] at hcs
    obtain ⟨rfl, rfl, rfl⟩ := hcs
    have hlz : len ≤ zs.length := by rw [hz]; split <;> omega
    have hlen : ((zs.take len).map fun n => UInt8.ofNat n.toNat).length = len := by simp; omega
    refine ⟨some a, (zs.take len).map fun n => UInt8.ofNat n.toNat, cap, by rw [hlen], fun hne => ?_, by rw [hlen]; exact hl, by unfold maxLen at hm; omega⟩
    have h0 : 0 < len := by
      rcases Nat.eq_zero_or_pos len with h | h
      · subst h; exact absurd (by simp) hne
      · exact h
    have c0 := hcell 0 (by omega)
    obtain ⟨ea, eb⟩ := cell_addr c0
    obtain ⟨b, o, x⟩ := a
    have hx0 : x = none := by
      have e0 : (⟨b, o, x⟩ : Addr).add 0 = ⟨b, o, x⟩ := by simp [Addr.add]
      rw [e0] at ea
      injection ea
    subst hx0
    have hadd : ∀ j, (⟨b, o, none⟩ : Addr).add j = ⟨b, o + j, none⟩ := by
      intro j
      unfold Addr.add
      by_cases hj : j = 0
      · rw [if_pos hj, hj, Nat.add_zero]
      · rw [if_neg hj]
    refine ⟨b, o, rfl, by have := hadd 0; rw [this] at eb; exact eb, fun k hk => ?_⟩
    rw [hlen] at hk
    have hck := hcell k (by omega)
    rw [hadd] at hck
    rw [hck]
    have hb := range_u8 hwz k
    have e1 : zs[k]? = some (zs[k]'(by omega)) := List.getElem?_eq_getElem (by omega)
    rw [e1] at hb
    simp only [List.getElem_map, List.getElem_take]
    have e2 : zs.getD k 0 = zs[k]'(by omega) := by rw [List.getD_eq_getElem?_getD, e1]; rfl
    rw [e2]
    replace hb : 0 ≤ zs[k]'(by omega) ∧ zs[k]'(by omega) ≤ 255 := hb
    congr 2
    simp only [UInt8.toNat_ofNat']
    omega
end
end Go.Proofs.YtoepehlndljkoaaDoor
