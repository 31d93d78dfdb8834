/-
  Drawing, with what stays as it was: one block turns, and new ones are there.
-/
import Derived.Test.YtoepehlndljkoaaDoorDraw2
import Derived.Test.YtoepehlndljkoaaDoorB0
namespace Go.Proofs.YtoepehlndljkoaaDoor
open Go.RowKit
set_option maxRecDepth 100000

/-- A reader that has gone on by so much; nothing else that was there has turned. -/
def DrewT (R p : Nat) (w w' : World) : Prop := (∃ p', p' ≤ p ∧ Rd w' R p') ∧ Touch R w w'
theorem DrewT.trans {R p p' : Nat} {a b c : World} (h : DrewT R p a b) (k : DrewT R p' b c) : DrewT R p' a c := ⟨k.1, h.2.trans k.2⟩
theorem DrewT.more {R p p' : Nat} {a b : World} (h : DrewT R p a b) (hp : p ≤ p') : DrewT R p' a b := by
  obtain ⟨⟨q, hq, hr⟩, ht⟩ := h
  exact ⟨⟨q, Nat.le_trans hq hp, hr⟩, ht⟩
theorem Touch.frozen {g : Nat} {a b : World} (h : Touch g a b) {k o : Nat} (h1 : g < k) (h2 : k < a.heap.size) : b.frozen? ⟨k, o, none⟩ = a.frozen? ⟨k, o, none⟩ := World.frozen?_of_block (h.above k h1 h2)
theorem touch_pickW (w : World) (R p q : Nat) : Touch R w (pickW w R p q) := by
  refine ⟨below_pickW w, fun k h1 h2 => ?_⟩
  show (w.heap.modify R _)[k]? = _
  rw [Array.getElem?_modify, if_neg (by omega)]
theorem Rd.set {w : World} {R p : Nat} (h : Rd w R p) {b : Nat} (hb : R < b) (o : Nat) (v : Value) : Rd (w.setCell ⟨b, o, none⟩ v) R p := by
  obtain ⟨A, l, cap, h0, h1, h2⟩ := h.ex
  refine ⟨A, l, cap, h0, ?_, h2.below ((Below.refl R w).setCell (p := ⟨b, o, none⟩) (Nat.le_of_lt hb) v)⟩
  show (w.heap.modify b _)[R]? = _
  rw [Array.getElem?_modify, if_neg (by omega)]
  exact h1
theorem DrewT.set {R p : Nat} {w w1 : World} (h : DrewT R p w w1) {b : Nat} (hb : w.heap.size ≤ b) (hR : R < w.heap.size) (o : Nat) (v : Value) : DrewT R p w (w1.setCell ⟨b, o, none⟩ v) := by
  obtain ⟨⟨q, hq, hr⟩, ht⟩ := h
  refine ⟨⟨q, hq, hr.set (by omega) o v⟩, ht.below.setCell (p := ⟨b, o, none⟩) (by show R ≤ b; omega) v, fun k h1 h2 => ?_⟩
  show (w1.heap.modify b _)[k]? = _
  rw [Array.getElem?_modify, if_neg (by omega)]
  exact ht.above k h1 h2
theorem DrewT.below {R p : Nat} {w w' : World} (h : Rd w R p) (hb : Below w.heap.size w w') : DrewT R p w w' := ⟨⟨p, Nat.le_refl _, h.keep hb⟩, Touch.of_below hb h.lt⟩
theorem pick_t (R p n : Nat) (w : World) (h : Rd w R p) (hp : p ≤ 1000000) (hn1 : 1 ≤ n) (hn2 : n ≤ 1000) :
    Calls Tryd.prog 39 #[.pointer (some ⟨R, 0, none⟩), .int .i64 (n : Int)] w fun e w' => ∃ r : Nat, r < n ∧ e = .returned (.int .i64 (r : Int)) ∧ DrewT R (p + 1) w w' :=
  (pick_any R p n w h hp hn1 hn2).mono fun e w' ⟨r, hr, he, q, hw⟩ => ⟨r, hr, he, by rw [hw]; exact ⟨⟨p + 1, Nat.le_refl _, h.pick q⟩, touch_pickW _ _ _ _⟩⟩
/-- A list of names at a block behind the reader. -/
def NmS (w : World) (R b o : Nat) (ss : List ByteArray) : Prop := R < b ∧ b < w.heap.size ∧ ∀ k, (h : k < ss.length) → w.cell? ⟨b, o + k, none⟩ = some (.string ss[k])
theorem NmS.touch {w w' : World} {R b o : Nat} {ss : List ByteArray} (h : NmS w R b o ss) (ht : Touch R w w') : NmS w' R b o ss :=
  ⟨h.1, Nat.lt_of_lt_of_le h.2.1 ht.below.size, fun k hk => (ht.cell h.1 h.2.1).trans (h.2.2 k hk)⟩
theorem NmS.lit {w : World} {R : Nat} (ss : List ByteArray) (t : TypeId) (fr : Nat × Nat) (hR : R < w.heap.size) : NmS (w.alloc (.cells (ss.map Value.string).toArray t fr)) R w.heap.size 0 ss :=
  ⟨hR, by rw [World.size_alloc]; omega, fun k hk => lit_cell w _ t fr k _ (by simp [hk])⟩
theorem of_t (R p : Nat) (b o cap : Nat) (ss : List ByteArray) (w : World) (h : Rd w R p) (hp : p ≤ 1000000) (hn1 : 1 ≤ ss.length) (hn2 : ss.length ≤ 1000) (hN : NmS w R b o ss) :
    Calls Tryd.prog 41 #[.pointer (some ⟨R, 0, none⟩), .slice (some ⟨b, o, none⟩) ss.length cap] w fun e w' => ∃ s, s ∈ ss ∧ e = .returned (.string s) ∧ DrewT R (p + 1) w w' :=
  (of_any R p b o cap ss w h hp hn1 hn2 (by have := hN.1; omega) hN.2.2).mono fun e w' ⟨s, hs, he, q, hw⟩ => ⟨s, hs, he, by rw [hw]; exact ⟨⟨p + 1, Nat.le_refl _, h.pick q⟩, touch_pickW _ _ _ _⟩⟩
theorem num_t (R p : Nat) (ss : List Int) (w : World) (t : TypeId) (fr : Nat × Nat) (h : Rd w R p) (hp : p ≤ 1000000) (hn1 : 1 ≤ ss.length) (hn2 : ss.length ≤ 1000) :
    Calls Tryd.prog 40 #[.pointer (some ⟨R, 0, none⟩), .slice (some ⟨w.heap.size, 0, none⟩) ss.length ss.length] (w.alloc (.cells (ss.map (Value.int .i64)).toArray t fr)) fun e w' => ∃ s, s ∈ ss ∧ e = .returned (.int .i64 s) ∧ DrewT R (p + 1) w w' := by
  have hlt := h.lt
  have hb : Below w.heap.size w (w.alloc (.cells (ss.map (Value.int .i64)).toArray t fr)) := (Below.refl _ _).alloc (Nat.le_refl _) _
  refine (num_any R p w.heap.size 0 ss.length ss _ (h.keep hb) hp hn1 hn2 (by omega) ?_).mono ?_
  · intro k hk
    exact lit_cell w _ t fr k _ (by simp [hk])
  · rintro e w' ⟨s, hs, rfl, q, rfl⟩
    exact ⟨s, hs, rfl, ⟨p + 1, Nat.le_refl _, (h.keep hb).pick q⟩, (Touch.of_below hb hlt).trans (touch_pickW _ _ _ _)⟩
theorem oflit_t (R p : Nat) (ss : List ByteArray) (w : World) (t : TypeId) (fr : Nat × Nat) (h : Rd w R p) (hp : p ≤ 1000000) (hn1 : 1 ≤ ss.length) (hn2 : ss.length ≤ 1000) :
    Calls Tryd.prog 41 #[.pointer (some ⟨R, 0, none⟩), .slice (some ⟨w.heap.size, 0, none⟩) ss.length ss.length] (w.alloc (.cells (ss.map Value.string).toArray t fr)) fun e w' => ∃ s, s ∈ ss ∧ e = .returned (.string s) ∧ DrewT R (p + 1) w w' := by
  have hb : Below w.heap.size w (w.alloc (.cells (ss.map Value.string).toArray t fr)) := (Below.refl _ _).alloc (Nat.le_refl _) _
  exact (of_t R p w.heap.size 0 ss.length ss _ (h.keep hb) hp hn1 hn2 (NmS.lit ss t fr h.lt)).mono fun e w' ⟨s, hs, he, hd⟩ => ⟨s, hs, he, hd.1, (Touch.of_below hb h.lt).trans hd.2⟩

end Go.Proofs.YtoepehlndljkoaaDoor
