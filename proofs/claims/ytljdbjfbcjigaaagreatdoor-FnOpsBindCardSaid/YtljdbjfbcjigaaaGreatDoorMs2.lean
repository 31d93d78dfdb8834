/-
  Drawing: expressions without Kids.
-/
import Derived.Test.YtljdbjfbcjigaaaGreatDoorMg12
import Derived.Test.YtljdbjfbcjigaaaGreatDoorMg19
import Derived.Test.YtljdbjfbcjigaaaGreatDoorMs1
import Derived.OpenShut
namespace Go.Proofs.YtljdbjfbcjigaaaGreatDoor
open Go.ChangeShapes Go.WideShapes Go.ChangeAt Go.RowKit Go.WideMaps Go.Deep

section
variable {H : Type} {enc : TypeId × Value → H} {P : Program} {w : World} {base : Nat} {spare : Nat → Bool} {held : Bool}
theorem open_byteS {r : Reach} {b0 : Nat} {t e : TypeId} {v : Value} {d : DataW H} {p : List MemPlace} (ht : P.underlying t = some (.slice e)) (he : P.underlying e = some (.int .u8)) (hC : P.cellsOf e = 1)
    (hv : Value.okWide P w r b0 t v) (h : DataW.Trod enc P w base spare held t v d p) :
    ∃ (A : Option Addr) (l : List UInt8) (cap : Nat), v = .slice A l.length cap ∧ Bytes w w.heap.size A l ∧ l.length ≤ cap ∧ cap ≤ 9223372036854775807 := by
  obtain ⟨A, len, cap, rfl⟩ := okWide_slice ht hv
  obtain ⟨fuel, hf⟩ := h
  rcases open_ints ht he hC hf with ⟨hcs, hx⟩ | ⟨a, len', cap', zs, hcs, _, hl, hm, hz, hx, hcell, hwz⟩
  · simp only [Value.cells, List.cons.injEq, Value.slice.injEq, and_true] at hcs
    obtain ⟨rfl, rfl, rfl⟩ := hcs
    exact ⟨none, [], 0, rfl, fun h => absurd rfl h, Nat.le_refl _, by simp⟩
  · simp only [Value.cells, List.cons.injEq, Value.slice.injEq, and_true] at hcs
    obtain ⟨rfl, rfl, rfl⟩ := hcs
    have hlz : len ≤ zs.length := by rw [hz]; split <;> omega
    have hlen : ((zs.take len).map fun n => UInt8.ofNat n.toNat).length = len := by simp; omega
    refine ⟨some a, (zs.take len).map fun n => UInt8.ofNat n.toNat, cap, by rw [hlen], fun hne => ?_, by rw [hlen]; exact hl, by unfold maxLen at hm; omega⟩
    have h0 : 0 < len := by
      rcases Nat.eq_zero_or_pos len with h | h
      · subst h; exact absurd (by simp) hne
      · exact h
    have c0 := hcell 0 (by omega)
    obtain ⟨ea, eb⟩ := cell_addr c0
    obtain ⟨b, o, x⟩ := a
    have hx0 : x = none := by
      have e0 : (⟨b, o, x⟩ : Addr).add 0 = ⟨b, o, x⟩ := by simp [Addr.add]
      rw [e0] at ea
      injection ea
    subst hx0
    have hadd : ∀ j, (⟨b, o, none⟩ : Addr).add j = ⟨b, o + j, none⟩ := by
      intro j
      unfold Addr.add
      by_cases hj : j = 0
      · rw [if_pos hj, hj, Nat.add_zero]
      · rw [if_neg hj]
    refine ⟨b, o, rfl, by have := hadd 0; rw [this] at eb; exact eb, fun k hk => ?_⟩
    rw [hlen] at hk
    have hck := hcell k (by omega)
    rw [hadd] at hck
    rw [hck]
    have hb := range_u8 hwz k
    have e1 : zs[k]? = some (zs[k]'(by omega)) := List.getElem?_eq_getElem (by omega)
    rw [e1] at hb
    simp only [List.getElem_map, List.getElem_take]
    have e2 : zs.getD k 0 = zs[k]'(by omega) := by rw [List.getD_eq_getElem?_getD, e1]; rfl
    rw [e2]
    replace hb : 0 ≤ zs[k]'(by omega) ∧ zs[k]'(by omega) ≤ 255 := hb
    congr 2
    simp only [UInt8.toNat_ofNat']
    omega
end
end Go.Proofs.YtljdbjfbcjigaaaGreatDoor

namespace Go.Proofs.YtljdbjfbcjigaaaGreatDoor
open Go.RowKit
set_option maxRecDepth 100000

/-- What a drawer leaves: a reader that has gone on by so much, and nothing else below it turned. -/
def Drew (R p : Nat) (w w' : World) : Prop := (∃ p', p' ≤ p ∧ Rd w' R p') ∧ Below R w w'
theorem below_pickW {R p q : Nat} (w : World) : Below R w (pickW w R p q) := below_drewN ((Below.refl R w).setCell (Nat.le_refl _) _) q
theorem pickW_cell {R p q : Nat} (w : World) {a : Addr} (h : a.block ≠ R) : (pickW w R p q).cell? a = w.cell? a := by
  apply World.cell?_of_block
  exact Below.heap_setCell w ⟨R, 1, none⟩ _ a.block h

set_option maxHeartbeats 1000000 in
theorem of_any (R p : Nat) (b o cap : Nat) (ss : List ByteArray) (w : World) (h : Rd w R p) (hp : p ≤ 1000000) (hn1 : 1 ≤ ss.length) (hn2 : ss.length ≤ 1000)
    (hbR : b ≠ R) (hc : ∀ k, (h : k < ss.length) → w.cell? ⟨b, o + k, none⟩ = some (.string ss[k])) :
    Calls Tryz.prog 92 #[.pointer (some ⟨R, 0, none⟩), .slice (some ⟨b, o, none⟩) ss.length cap] w fun e w' => ∃ s, s ∈ ss ∧ e = .returned (.string s) ∧ ∃ q, w' = pickW w R p q := by
  have PK := Lib.hid (pick_any R p ss.length w h hp hn1 hn2)
  have HC := Lib.hid hc
  clear hc h
  go_enter Tryz.func92, Tryz.ntmps92
  go_wp2_with fail
  refine PK.out.mono ?_
  rintro e w1 ⟨r, hr, rfl, q, hw1⟩
  have hc1 : w1.cell? ⟨b, o + r, none⟩ = some (.string ss[r]) := by rw [hw1]; exact (pickW_cell w hbR).trans (HC.out r hr)
  have hm : ss[r] ∈ ss := List.getElem_mem hr
  generalize ss[r] = s at *
  replace hw1 := Lib.hid hw1
  go_wp2
  go_ret
  exact ⟨s, hm, rfl, q, hw1.out⟩

set_option maxHeartbeats 1000000 in
theorem num_any (R p : Nat) (b o cap : Nat) (ss : List Int) (w : World) (h : Rd w R p) (hp : p ≤ 1000000) (hn1 : 1 ≤ ss.length) (hn2 : ss.length ≤ 1000)
    (hbR : b ≠ R) (hc : ∀ k, (h : k < ss.length) → w.cell? ⟨b, o + k, none⟩ = some (.int .i64 ss[k])) :
    Calls Tryz.prog 93 #[.pointer (some ⟨R, 0, none⟩), .slice (some ⟨b, o, none⟩) ss.length cap] w fun e w' => ∃ s, s ∈ ss ∧ e = .returned (.int .i64 s) ∧ ∃ q, w' = pickW w R p q := by
  have PK := Lib.hid (pick_any R p ss.length w h hp hn1 hn2)
  have HC := Lib.hid hc
  clear hc h
  go_enter Tryz.func93, Tryz.ntmps93
  go_wp2_with fail
  refine PK.out.mono ?_
  rintro e w1 ⟨r, hr, rfl, q, hw1⟩
  have hc1 : w1.cell? ⟨b, o + r, none⟩ = some (.int .i64 ss[r]) := by rw [hw1]; exact (pickW_cell w hbR).trans (HC.out r hr)
  have hm : ss[r] ∈ ss := List.getElem_mem hr
  generalize ss[r] = s at *
  replace hw1 := Lib.hid hw1
  go_wp2
  go_ret
  exact ⟨s, hm, rfl, q, hw1.out⟩

theorem lit_cell (w : World) (vs : List Value) (t : TypeId) (fr : Nat × Nat) (k : Nat) (v : Value) (h : vs[k]? = some v) : (w.alloc (.cells vs.toArray t fr)).cell? ⟨w.heap.size, 0 + k, none⟩ = some v := by
  have e : (w.alloc (.cells vs.toArray t fr)).heap[w.heap.size]? = some (.cells vs.toArray t fr) := by
    show (w.heap.push _)[w.heap.size]? = _
    simp
  unfold World.cell?
  rw [e]
  show vs.toArray[0 + k]? = some v
  simpa using h

/-- of, upon a list that is written out. -/
theorem of_lit (R p : Nat) (ss : List ByteArray) (w : World) (t : TypeId) (fr : Nat × Nat) (h : Rd w R p) (hp : p ≤ 1000000) (hn1 : 1 ≤ ss.length) (hn2 : ss.length ≤ 1000) :
    Calls Tryz.prog 92 #[.pointer (some ⟨R, 0, none⟩), .slice (some ⟨w.heap.size, 0, none⟩) ss.length ss.length] (w.alloc (.cells (ss.map Value.string).toArray t fr)) fun e w' => ∃ s, s ∈ ss ∧ e = .returned (.string s) ∧ Drew R (p + 1) w w' := by
  have hlt := h.lt
  have hb : Below w.heap.size w (w.alloc (.cells (ss.map Value.string).toArray t fr)) := (Below.refl _ _).alloc (Nat.le_refl _) _
  refine (of_any R p w.heap.size 0 ss.length ss _ (h.keep hb) hp hn1 hn2 (by omega) ?_).mono ?_
  · intro k hk
    exact lit_cell w _ t fr k _ (by simp [hk])
  · rintro e w' ⟨s, hs, rfl, q, rfl⟩
    exact ⟨s, hs, rfl, ⟨p + 1, Nat.le_refl _, (h.keep hb).pick q⟩, (hb.mono (Nat.le_of_lt hlt)).trans (below_pickW _)⟩
theorem num_lit (R p : Nat) (ss : List Int) (w : World) (t : TypeId) (fr : Nat × Nat) (h : Rd w R p) (hp : p ≤ 1000000) (hn1 : 1 ≤ ss.length) (hn2 : ss.length ≤ 1000) :
    Calls Tryz.prog 93 #[.pointer (some ⟨R, 0, none⟩), .slice (some ⟨w.heap.size, 0, none⟩) ss.length ss.length] (w.alloc (.cells (ss.map (Value.int .i64)).toArray t fr)) fun e w' => ∃ s, s ∈ ss ∧ e = .returned (.int .i64 s) ∧ Drew R (p + 1) w w' := by
  have hlt := h.lt
  have hb : Below w.heap.size w (w.alloc (.cells (ss.map (Value.int .i64)).toArray t fr)) := (Below.refl _ _).alloc (Nat.le_refl _) _
  refine (num_any R p w.heap.size 0 ss.length ss _ (h.keep hb) hp hn1 hn2 (by omega) ?_).mono ?_
  · intro k hk
    exact lit_cell w _ t fr k _ (by simp [hk])
  · rintro e w' ⟨s, hs, rfl, q, rfl⟩
    exact ⟨s, hs, rfl, ⟨p + 1, Nat.le_refl _, (h.keep hb).pick q⟩, (hb.mono (Nat.le_of_lt hlt)).trans (below_pickW _)⟩
theorem Drew.trans {R p p' : Nat} {a b c : World} (h : Drew R p a b) (k : Drew R p' b c) : Drew R p' a c := ⟨k.1, h.2.trans k.2⟩
theorem pick_drew (R p n : Nat) (w : World) (h : Rd w R p) (hp : p ≤ 1000000) (hn1 : 1 ≤ n) (hn2 : n ≤ 1000) :
    Calls Tryz.prog 55 #[.pointer (some ⟨R, 0, none⟩), .int .i64 (n : Int)] w fun e w' => ∃ r : Nat, r < n ∧ e = .returned (.int .i64 (r : Int)) ∧ Drew R (p + 1) w w' := by
  refine (pick_any R p n w h hp hn1 hn2).mono ?_
  rintro e w' ⟨r, hr, rfl, q, rfl⟩
  exact ⟨r, hr, rfl, ⟨p + 1, Nat.le_refl _, h.pick q⟩, below_pickW _⟩

set_option maxHeartbeats 1000000 in
theorem l30Open_any (A : Option Addr) (l : List UInt8) (cap : Nat) (w : World) (h : Bytes w w.heap.size A l) (hn : l.length ≤ cap) (hcap : cap ≤ 9223372036854775807) :
    Calls Tryz.prog 53 #[.slice A l.length cap] w fun e w' => e = .returned (.pointer (some ⟨w.heap.size, 0, none⟩)) ∧ Rd w' w.heap.size 0 ∧ Below w.heap.size w w' := by
  have key : ∀ (l' : List UInt8) (cap' : Nat), l'.length ≤ 2000 → Bytes w w.heap.size A l' → Rd (w.alloc (.cells #[.slice A l'.length cap', .int .i64 0] 126 (0, 0))) w.heap.size 0 := by
    intro l' cap' h1 h2
    refine ⟨A, l', cap', h1, ?_, h2.below ((Below.refl _ _).alloc (Nat.le_refl _) _)⟩
    show (w.heap.push _)[w.heap.size]? = _
    simp
  by_cases hl : l.length ≤ 2000
  · have K := Lib.hid (key l cap hl h)
    clear key h
    go_enter Tryz.func53, Tryz.ntmps53
    go_wp2
    go_ways
    go_ret
    exact ⟨rfl, K.out, (Below.refl _ _).alloc (Nat.le_refl _) _⟩
  · have h2 : Bytes w w.heap.size A (l.take 2000) := by
      intro _
      obtain ⟨b, o, e, hb, hc⟩ := h.at_ (k := 0) (by omega)
      refine ⟨b, o, e, hb, fun k hk => ?_⟩
      rw [List.length_take] at hk
      rw [hc k (by omega)]
      simp
    obtain ⟨b, o, rfl, hb, hc⟩ := h.at_ (k := 0) (by omega)
    have ht : (l.take 2000).length = 2000 := by rw [List.length_take]; omega
    have K := Lib.hid (key (l.take 2000) cap (by omega) h2)
    rw [ht] at K
    clear key h h2 hc ht
    go_enter Tryz.func53, Tryz.ntmps53
    go_wp2
    go_ways
    go_ret
    exact ⟨rfl, K.out, (Below.refl _ _).alloc (Nat.le_refl _) _⟩
end Go.Proofs.YtljdbjfbcjigaaaGreatDoor

namespace Go.Proofs.YtljdbjfbcjigaaaGreatDoor
open Go.RowKit
set_option maxRecDepth 100000

/-- A reader that has gone on by so much; nothing else that was there has turned. -/
def DrewT (R p : Nat) (w w' : World) : Prop := (∃ p', p' ≤ p ∧ Rd w' R p') ∧ Touch R w w'
theorem DrewT.trans {R p p' : Nat} {a b c : World} (h : DrewT R p a b) (k : DrewT R p' b c) : DrewT R p' a c := ⟨k.1, h.2.trans k.2⟩
theorem DrewT.more {R p p' : Nat} {a b : World} (h : DrewT R p a b) (hp : p ≤ p') : DrewT R p' a b := by
  obtain ⟨⟨q, hq, hr⟩, ht⟩ := h
  exact ⟨⟨q, Nat.le_trans hq hp, hr⟩, ht⟩
theorem Touch.frozen {g : Nat} {a b : World} (h : Touch g a b) {k o : Nat} (h1 : g < k) (h2 : k < a.heap.size) : b.frozen? ⟨k, o, none⟩ = a.frozen? ⟨k, o, none⟩ := World.frozen?_of_block (h.above k h1 h2)
theorem touch_pickW (w : World) (R p q : Nat) : Touch R w (pickW w R p q) := by
  refine ⟨below_pickW w, fun k h1 h2 => ?_⟩
  show (w.heap.modify R _)[k]? = _
  rw [Array.getElem?_modify, if_neg (by omega)]
theorem Rd.set {w : World} {R p : Nat} (h : Rd w R p) {b : Nat} (hb : R < b) (o : Nat) (v : Value) : Rd (w.setCell ⟨b, o, none⟩ v) R p := by
  obtain ⟨A, l, cap, h0, h1, h2⟩ := h.ex
  refine ⟨A, l, cap, h0, ?_, h2.below ((Below.refl R w).setCell (p := ⟨b, o, none⟩) (Nat.le_of_lt hb) v)⟩
  show (w.heap.modify b _)[R]? = _
  rw [Array.getElem?_modify, if_neg (by omega)]
  exact h1
theorem DrewT.set {R p : Nat} {w w1 : World} (h : DrewT R p w w1) {b : Nat} (hb : w.heap.size ≤ b) (hR : R < w.heap.size) (o : Nat) (v : Value) : DrewT R p w (w1.setCell ⟨b, o, none⟩ v) := by
  obtain ⟨⟨q, hq, hr⟩, ht⟩ := h
  refine ⟨⟨q, hq, hr.set (by omega) o v⟩, ht.below.setCell (p := ⟨b, o, none⟩) (by show R ≤ b; omega) v, fun k h1 h2 => ?_⟩
  show (w1.heap.modify b _)[k]? = _
  rw [Array.getElem?_modify, if_neg (by omega)]
  exact ht.above k h1 h2
theorem DrewT.below {R p : Nat} {w w' : World} (h : Rd w R p) (hb : Below w.heap.size w w') : DrewT R p w w' := ⟨⟨p, Nat.le_refl _, h.keep hb⟩, Touch.of_below hb h.lt⟩
theorem pick_t (R p n : Nat) (w : World) (h : Rd w R p) (hp : p ≤ 1000000) (hn1 : 1 ≤ n) (hn2 : n ≤ 1000) :
    Calls Tryz.prog 55 #[.pointer (some ⟨R, 0, none⟩), .int .i64 (n : Int)] w fun e w' => ∃ r : Nat, r < n ∧ e = .returned (.int .i64 (r : Int)) ∧ DrewT R (p + 1) w w' :=
  (pick_any R p n w h hp hn1 hn2).mono fun e w' ⟨r, hr, he, q, hw⟩ => ⟨r, hr, he, by rw [hw]; exact ⟨⟨p + 1, Nat.le_refl _, h.pick q⟩, touch_pickW _ _ _ _⟩⟩
/-- A list of names at a block behind the reader. -/
def NmS (w : World) (R b o : Nat) (ss : List ByteArray) : Prop := R < b ∧ b < w.heap.size ∧ ∀ k, (h : k < ss.length) → w.cell? ⟨b, o + k, none⟩ = some (.string ss[k])
theorem NmS.touch {w w' : World} {R b o : Nat} {ss : List ByteArray} (h : NmS w R b o ss) (ht : Touch R w w') : NmS w' R b o ss :=
  ⟨h.1, Nat.lt_of_lt_of_le h.2.1 ht.below.size, fun k hk => (ht.cell h.1 h.2.1).trans (h.2.2 k hk)⟩
theorem NmS.lit {w : World} {R : Nat} (ss : List ByteArray) (t : TypeId) (fr : Nat × Nat) (hR : R < w.heap.size) : NmS (w.alloc (.cells (ss.map Value.string).toArray t fr)) R w.heap.size 0 ss :=
  ⟨hR, by rw [World.size_alloc]; omega, fun k hk => lit_cell w _ t fr k _ (by simp [hk])⟩
theorem of_t (R p : Nat) (b o cap : Nat) (ss : List ByteArray) (w : World) (h : Rd w R p) (hp : p ≤ 1000000) (hn1 : 1 ≤ ss.length) (hn2 : ss.length ≤ 1000) (hN : NmS w R b o ss) :
    Calls Tryz.prog 92 #[.pointer (some ⟨R, 0, none⟩), .slice (some ⟨b, o, none⟩) ss.length cap] w fun e w' => ∃ s, s ∈ ss ∧ e = .returned (.string s) ∧ DrewT R (p + 1) w w' :=
  (of_any R p b o cap ss w h hp hn1 hn2 (by have := hN.1; omega) hN.2.2).mono fun e w' ⟨s, hs, he, q, hw⟩ => ⟨s, hs, he, by rw [hw]; exact ⟨⟨p + 1, Nat.le_refl _, h.pick q⟩, touch_pickW _ _ _ _⟩⟩
theorem num_t (R p : Nat) (ss : List Int) (w : World) (t : TypeId) (fr : Nat × Nat) (h : Rd w R p) (hp : p ≤ 1000000) (hn1 : 1 ≤ ss.length) (hn2 : ss.length ≤ 1000) :
    Calls Tryz.prog 93 #[.pointer (some ⟨R, 0, none⟩), .slice (some ⟨w.heap.size, 0, none⟩) ss.length ss.length] (w.alloc (.cells (ss.map (Value.int .i64)).toArray t fr)) fun e w' => ∃ s, s ∈ ss ∧ e = .returned (.int .i64 s) ∧ DrewT R (p + 1) w w' := by
  have hlt := h.lt
  have hb : Below w.heap.size w (w.alloc (.cells (ss.map (Value.int .i64)).toArray t fr)) := (Below.refl _ _).alloc (Nat.le_refl _) _
  refine (num_any R p w.heap.size 0 ss.length ss _ (h.keep hb) hp hn1 hn2 (by omega) ?_).mono ?_
  · intro k hk
    exact lit_cell w _ t fr k _ (by simp [hk])
  · rintro e w' ⟨s, hs, rfl, q, rfl⟩
    exact ⟨s, hs, rfl, ⟨p + 1, Nat.le_refl _, (h.keep hb).pick q⟩, (Touch.of_below hb hlt).trans (touch_pickW _ _ _ _)⟩
theorem oflit_t (R p : Nat) (ss : List ByteArray) (w : World) (t : TypeId) (fr : Nat × Nat) (h : Rd w R p) (hp : p ≤ 1000000) (hn1 : 1 ≤ ss.length) (hn2 : ss.length ≤ 1000) :
    Calls Tryz.prog 92 #[.pointer (some ⟨R, 0, none⟩), .slice (some ⟨w.heap.size, 0, none⟩) ss.length ss.length] (w.alloc (.cells (ss.map Value.string).toArray t fr)) fun e w' => ∃ s, s ∈ ss ∧ e = .returned (.string s) ∧ DrewT R (p + 1) w w' := by
  have hb : Below w.heap.size w (w.alloc (.cells (ss.map Value.string).toArray t fr)) := (Below.refl _ _).alloc (Nat.le_refl _) _
  exact (of_t R p w.heap.size 0 ss.length ss _ (h.keep hb) hp hn1 hn2 (NmS.lit ss t fr h.lt)).mono fun e w' ⟨s, hs, he, hd⟩ => ⟨s, hs, he, hd.1, (Touch.of_below hb h.lt).trans hd.2⟩

end Go.Proofs.YtljdbjfbcjigaaaGreatDoor

namespace Go.Proofs.YtljdbjfbcjigaaaGreatDoor
open Go.RowKit
set_option maxRecDepth 100000

/-- What drawing an expression without Kids leaves. -/
def LeafRet (R p : Nat) (w : World) (ee : Ending) (w' : World) : Prop := ∃ (op n : Int) (s : ByteArray), s.size ≤ 8 ∧ ee = .returned (.agg #[.int .i64 op, .int .i64 n, .string s, .slice none 0 0]) ∧ DrewT R p w w'
/-- A block of four cells behind the reader, which is the call's own. -/
structure Res (w : World) (b : Nat) (v0 v1 v2 v3 : Value) : Prop where
  c : Bx4 w b v0 v1 v2 v3
  f : ∀ o, w.frozen? ⟨b, o, none⟩ = false
  lt : b < w.heap.size
theorem Res.touch {w w' : World} {R b : Nat} {v0 v1 v2 v3 : Value} (h : Res w b v0 v1 v2 v3) (ht : Touch R w w') (hR : R < b) : Res w' b v0 v1 v2 v3 :=
  ⟨⟨(ht.cell hR h.lt).trans h.c.1, (ht.cell hR h.lt).trans h.c.2.1, (ht.cell hR h.lt).trans h.c.2.2.1, (ht.cell hR h.lt).trans h.c.2.2.2⟩, fun o => (ht.frozen hR h.lt).trans (h.f o), Nat.lt_of_lt_of_le h.lt ht.below.size⟩
theorem Res.new (w : World) (v0 v1 v2 v3 : Value) (t : TypeId) : Res (w.alloc (.cells #[v0, v1, v2, v3] t)) w.heap.size v0 v1 v2 v3 :=
  ⟨Bx4.new w _ _ _ _ t, fun o => alloc_frozen w _ t o, by rw [World.size_alloc]; omega⟩
set_option maxHeartbeats 2000000 in
theorem leaf_names (R p b o cap : Nat) (ss : List ByteArray) (w : World) (h : Rd w R p) (hp : p ≤ 900000) (hn1 : 1 ≤ ss.length) (hn2 : ss.length ≤ 1000) (hs : ∀ s ∈ ss, s.size ≤ 8) (hN : NmS w R b o ss) :
    Calls Tryz.prog 58 #[.pointer (some ⟨R, 0, none⟩), .slice (some ⟨b, o, none⟩) ss.length cap] w (LeafRet R (p + 2) w) := by
  have hlt := h.lt
  have q0 : ((ss.length : Int) == 0) = false := beq_no (by omega)
  have hb0 := (Below.refl w.heap.size w).alloc (Nat.le_refl _) (.cells #[.int .i64 0, .int .i64 0, .string ⟨#[]⟩, .slice none 0 0] 28)
  have D0 := Lib.hid (DrewT.below h hb0)
  have R0 := Lib.hid (Res.new w (.int .i64 0) (.int .i64 0) (.string ⟨#[]⟩) (.slice none 0 0) 28)
  have PK := Lib.hid (pick_t R p 3 _ (h.keep hb0) (by omega) (by omega) (by omega))
  have N0 := Lib.hid (hN.touch (Touch.of_below hb0 hlt))
  have HS := Lib.hid hs
  clear hN hs hb0 h
  go_enter Tryz.func58, Tryz.ntmps58
  go_wp2_with fail
  refine Calls.mono PK.out ?_
  rintro ee w1 ⟨r, hr, rfl, hd1⟩
  have D1 := Lib.hid (D0.out.trans hd1)
  have R1 := Lib.hid (R0.out.touch hd1.2 hlt)
  have N1 := Lib.hid (N0.out.touch hd1.2)
  obtain ⟨p1, hp1, hr1⟩ := hd1.1
  clear hd1 D0 R0 N0 PK q0
  have hl1 := R1.out.lt
  by_cases hz : r = 0
  · subst hz
    have NM := Lib.hid (num_t R p1 [0, 1, 2, 3, 5, 7, 15, 16, 100, 255] w1 3 (0, 0) hr1 (by omega) (by simp) (by simp))
    go_wp2_with fail
    refine Calls.mono NM.out ?_
    rintro ee w2 ⟨z, hz, rfl, hd2⟩
    have D2 := Lib.hid ((D1.out.trans hd2).more (show p1 + 1 ≤ p + 2 by omega))
    have R2 := R1.out.touch hd2.2 hlt
    obtain ⟨c0, c1, c2, c3⟩ := R2.c
    have f0 := R2.f 0
    have f1 := R2.f 1
    have f2 := R2.f 2
    have f3 := R2.f 3
    clear hd2 NM D1 R1 N1 R2 HS
    go_wp2_with fail
    refine bodyPost_ret (v := .agg #[.int .i64 1, .int .i64 z, .string ⟨#[]⟩, .slice none 0 0]) (by simp [results, Tryz.results58, go_sem, c0, c1, c2, c3]) rfl ⟨1, z, ⟨#[]⟩, Nat.zero_le _, rfl, ?_⟩
    exact (((D2.out.set (Nat.le_refl _) hlt 0 _).set (Nat.le_refl _) hlt 1 _).set (Nat.le_refl _) hlt 2 _).set (Nat.le_refl _) hlt 3 _
  · have q1 : ((r : Int) == 0) = false := beq_no (by omega)
    have NM := Lib.hid (of_t R p1 b o cap ss w1 hr1 (by omega) hn1 hn2 N1.out)
    go_wp2_with fail
    refine Calls.mono NM.out ?_
    rintro ee w2 ⟨s, hs, rfl, hd2⟩
    have hs8 := HS.out s hs
    have D2 := Lib.hid ((D1.out.trans hd2).more (show p1 + 1 ≤ p + 2 by omega))
    have R2 := R1.out.touch hd2.2 hlt
    obtain ⟨c0, c1, c2, c3⟩ := R2.c
    have f0 := R2.f 0
    have f1 := R2.f 1
    have f2 := R2.f 2
    have f3 := R2.f 3
    clear hd2 NM D1 R1 N1 R2 HS hs
    go_wp2_with fail
    refine bodyPost_ret (v := .agg #[.int .i64 2, .int .i64 0, .string s, .slice none 0 0]) (by simp [results, Tryz.results58, go_sem, c0, c1, c2, c3]) rfl ⟨2, 0, s, hs8, rfl, ?_⟩
    exact (((D2.out.set (Nat.le_refl _) hlt 0 _).set (Nat.le_refl _) hlt 1 _).set (Nat.le_refl _) hlt 2 _).set (Nat.le_refl _) hlt 3 _
set_option maxHeartbeats 2000000 in
theorem leaf_nil (R p : Nat) (w : World) (h : Rd w R p) (hp : p ≤ 900000) :
    Calls Tryz.prog 58 #[.pointer (some ⟨R, 0, none⟩), .slice none 0 0] w (LeafRet R (p + 2) w) := by
  have hlt := h.lt
  have hb0 := (Below.refl w.heap.size w).alloc (Nat.le_refl _) (.cells #[.int .i64 0, .int .i64 0, .string ⟨#[]⟩, .slice none 0 0] 28)
  have D0 := Lib.hid (DrewT.below h hb0)
  have R0 := Lib.hid (Res.new w (.int .i64 0) (.int .i64 0) (.string ⟨#[]⟩) (.slice none 0 0) 28)
  have NM := Lib.hid (num_t R p [0, 1, 2, 3, 5, 7, 15, 16, 100, 255] _ 3 (0, 0) (h.keep hb0) (by omega) (by simp) (by simp))
  clear hb0 h
  go_enter Tryz.func58, Tryz.ntmps58
  go_wp2_with fail
  rw [World.size_alloc] at NM
  refine Calls.mono NM.out ?_
  rintro ee w2 ⟨z, hz, rfl, hd2⟩
  have D2 := Lib.hid ((D0.out.trans hd2).more (show p + 1 ≤ p + 2 by omega))
  have R2 := R0.out.touch hd2.2 hlt
  obtain ⟨c0, c1, c2, c3⟩ := R2.c
  have f0 := R2.f 0
  have f1 := R2.f 1
  have f2 := R2.f 2
  have f3 := R2.f 3
  clear hd2 NM D0 R0 R2
  go_wp2_with fail
  refine bodyPost_ret (v := .agg #[.int .i64 1, .int .i64 z, .string ⟨#[]⟩, .slice none 0 0]) (by simp [results, Tryz.results58, go_sem, c0, c1, c2, c3]) rfl ⟨1, z, ⟨#[]⟩, Nat.zero_le _, rfl, ?_⟩
  exact (((D2.out.set (Nat.le_refl _) hlt 0 _).set (Nat.le_refl _) hlt 1 _).set (Nat.le_refl _) hlt 2 _).set (Nat.le_refl _) hlt 3 _
end Go.Proofs.YtljdbjfbcjigaaaGreatDoor
