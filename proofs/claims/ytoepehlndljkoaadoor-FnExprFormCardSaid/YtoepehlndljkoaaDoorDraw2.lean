/-
  The drawing kit, second part: of, num, l30Open, and lists that are written out.
-/
import Derived.Test.YtoepehlndljkoaaDoorDraw
namespace Go.Proofs.YtoepehlndljkoaaDoor
open Go.RowKit
set_option maxRecDepth 100000

/-- What a drawer leaves: a reader that has gone on by so much, and nothing else below it turned. -/
def Drew (R p : Nat) (w w' : World) : Prop := (∃ p', p' ≤ p ∧ Rd w' R p') ∧ Below R w w'
theorem below_pickW {R p q : Nat} (w : World) : Below R w (pickW w R p q) := below_drewN ((Below.refl R w).setCell (Nat.le_refl _) _) q
theorem pickW_cell {R p q : Nat} (w : World) {a : Addr} (h : a.block ≠ R) : (pickW w R p q).cell? a = w.cell? a := by
  apply World.cell?_of_block
  exact Below.heap_setCell w ⟨R, 1, none⟩ _ a.block h

set_option maxHeartbeats 1000000 in
theorem of_any (R p : Nat) (b o cap : Nat) (ss : List ByteArray) (w : World) (h : Rd w R p) (hp : p ≤ 1000000) (hn1 : 1 ≤ ss.length) (hn2 : ss.length ≤ 1000)
    (hbR : b ≠ R) (hc : ∀ k, (h : k < ss.length) → w.cell? ⟨b, o + k, none⟩ = some (.string ss[k])) :
    Calls Tryd.prog 41 #[.pointer (some ⟨R, 0, none⟩), .slice (some ⟨b, o, none⟩) ss.length cap] w fun e w' => ∃ s, s ∈ ss ∧ e = .returned (.string s) ∧ ∃ q, w' = pickW w R p q := by
  have PK := Lib.hid (pick_any R p ss.length w h hp hn1 hn2)
  have HC := Lib.hid hc
  clear hc h
  go_enter Tryd.func41, Tryd.ntmps41
  go_wp2_with fail
  refine PK.out.mono ?_
  rintro e w1 ⟨r, hr, rfl, q, hw1⟩
  have hc1 : w1.cell? ⟨b, o + r, none⟩ = some (.string ss[r]) := by rw [hw1]; exact (pickW_cell w hbR).trans (HC.out r hr)
  have hm : ss[r] ∈ ss := List.getElem_mem hr
  generalize ss[r] = s at *
  replace hw1 := Lib.hid hw1
  go_wp2
  go_ret
  exact ⟨s, hm, rfl, q, hw1.out⟩

set_option maxHeartbeats 1000000 in
theorem num_any (R p : Nat) (b o cap : Nat) (ss : List Int) (w : World) (h : Rd w R p) (hp : p ≤ 1000000) (hn1 : 1 ≤ ss.length) (hn2 : ss.length ≤ 1000)
    (hbR : b ≠ R) (hc : ∀ k, (h : k < ss.length) → w.cell? ⟨b, o + k, none⟩ = some (.int .i64 ss[k])) :
    Calls Tryd.prog 40 #[.pointer (some ⟨R, 0, none⟩), .slice (some ⟨b, o, none⟩) ss.length cap] w fun e w' => ∃ s, s ∈ ss ∧ e = .returned (.int .i64 s) ∧ ∃ q, w' = pickW w R p q := by
  have PK := Lib.hid (pick_any R p ss.length w h hp hn1 hn2)
  have HC := Lib.hid hc
  clear hc h
  go_enter Tryd.func40, Tryd.ntmps40
  go_wp2_with fail
  refine PK.out.mono ?_
  rintro e w1 ⟨r, hr, rfl, q, hw1⟩
  have hc1 : w1.cell? ⟨b, o + r, none⟩ = some (.int .i64 ss[r]) := by rw [hw1]; exact (pickW_cell w hbR).trans (HC.out r hr)
  have hm : ss[r] ∈ ss := List.getElem_mem hr
  generalize ss[r] = s at *
  replace hw1 := Lib.hid hw1
  go_wp2
  go_ret
  exact ⟨s, hm, rfl, q, hw1.out⟩

theorem lit_cell (w : World) (vs : List Value) (t : TypeId) (fr : Nat × Nat) (k : Nat) (v : Value) (h : vs[k]? = some v) : (w.alloc (.cells vs.toArray t fr)).cell? ⟨w.heap.size, 0 + k, none⟩ = some v := by
  have e : (w.alloc (.cells vs.toArray t fr)).heap[w.heap.size]? = some (.cells vs.toArray t fr) := by
    show (w.heap.push _)[w.heap.size]? = _
    simp
  unfold World.cell?
  rw [e]
  show vs.toArray[0 + k]? = some v
  simpa using h

/-- of, upon a list that is written out. -/
theorem of_lit (R p : Nat) (ss : List ByteArray) (w : World) (t : TypeId) (fr : Nat × Nat) (h : Rd w R p) (hp : p ≤ 1000000) (hn1 : 1 ≤ ss.length) (hn2 : ss.length ≤ 1000) :
    Calls Tryd.prog 41 #[.pointer (some ⟨R, 0, none⟩), .slice (some ⟨w.heap.size, 0, none⟩) ss.length ss.length] (w.alloc (.cells (ss.map Value.string).toArray t fr)) fun e w' => ∃ s, s ∈ ss ∧ e = .returned (.string s) ∧ Drew R (p + 1) w w' := by
  have hlt := h.lt
  have hb : Below w.heap.size w (w.alloc (.cells (ss.map Value.string).toArray t fr)) := (Below.refl _ _).alloc (Nat.le_refl _) _
  refine (of_any R p w.heap.size 0 ss.length ss _ (h.keep hb) hp hn1 hn2 (by omega) ?_).mono ?_
  · intro k hk
    exact lit_cell w _ t fr k _ (by simp [hk])
  · rintro e w' ⟨s, hs, rfl, q, rfl⟩
    exact ⟨s, hs, rfl, ⟨p + 1, Nat.le_refl _, (h.keep hb).pick q⟩, (hb.mono (Nat.le_of_lt hlt)).trans (below_pickW _)⟩
theorem num_lit (R p : Nat) (ss : List Int) (w : World) (t : TypeId) (fr : Nat × Nat) (h : Rd w R p) (hp : p ≤ 1000000) (hn1 : 1 ≤ ss.length) (hn2 : ss.length ≤ 1000) :
    Calls Tryd.prog 40 #[.pointer (some ⟨R, 0, none⟩), .slice (some ⟨w.heap.size, 0, none⟩) ss.length ss.length] (w.alloc (.cells (ss.map (Value.int .i64)).toArray t fr)) fun e w' => ∃ s, s ∈ ss ∧ e = .returned (.int .i64 s) ∧ Drew R (p + 1) w w' := by
  have hlt := h.lt
  have hb : Below w.heap.size w (w.alloc (.cells (ss.map (Value.int .i64)).toArray t fr)) := (Below.refl _ _).alloc (Nat.le_refl _) _
  refine (num_any R p w.heap.size 0 ss.length ss _ (h.keep hb) hp hn1 hn2 (by omega) ?_).mono ?_
  · intro k hk
    exact lit_cell w _ t fr k _ (by simp [hk])
  · rintro e w' ⟨s, hs, rfl, q, rfl⟩
    exact ⟨s, hs, rfl, ⟨p + 1, Nat.le_refl _, (h.keep hb).pick q⟩, (hb.mono (Nat.le_of_lt hlt)).trans (below_pickW _)⟩
theorem Drew.trans {R p p' : Nat} {a b c : World} (h : Drew R p a b) (k : Drew R p' b c) : Drew R p' a c := ⟨k.1, h.2.trans k.2⟩
theorem pick_drew (R p n : Nat) (w : World) (h : Rd w R p) (hp : p ≤ 1000000) (hn1 : 1 ≤ n) (hn2 : n ≤ 1000) :
    Calls Tryd.prog 39 #[.pointer (some ⟨R, 0, none⟩), .int .i64 (n : Int)] w fun e w' => ∃ r : Nat, r < n ∧ e = .returned (.int .i64 (r : Int)) ∧ Drew R (p + 1) w w' := by
  refine (pick_any R p n w h hp hn1 hn2).mono ?_
  rintro e w' ⟨r, hr, rfl, q, rfl⟩
  exact ⟨r, hr, rfl, ⟨p + 1, Nat.le_refl _, h.pick q⟩, below_pickW _⟩

set_option maxHeartbeats 1000000 in
theorem l30Open_any (A : Option Addr) (l : List UInt8) (cap : Nat) (w : World) (h : Bytes w w.heap.size A l) (hn : l.length ≤ cap) (hcap : cap ≤ 9223372036854775807) :
    Calls Tryd.prog 22 #[.slice A l.length cap] w fun e w' => e = .returned (.pointer (some ⟨w.heap.size, 0, none⟩)) ∧ Rd w' w.heap.size 0 ∧ Below w.heap.size w w' := by
  have key : ∀ (l' : List UInt8) (cap' : Nat), l'.length ≤ 2000 → Bytes w w.heap.size A l' → Rd (w.alloc (.cells #[.slice A l'.length cap', .int .i64 0] 78 (0, 0))) w.heap.size 0 := by
    intro l' cap' h1 h2
    refine ⟨A, l', cap', h1, ?_, h2.below ((Below.refl _ _).alloc (Nat.le_refl _) _)⟩
    show (w.heap.push _)[w.heap.size]? = _
    simp
  by_cases hl : l.length ≤ 2000
  · have K := Lib.hid (key l cap hl h)
    clear key h
    go_enter Tryd.func22, Tryd.ntmps22
    go_wp2
    go_ways
    go_ret
    exact ⟨rfl, K.out, (Below.refl _ _).alloc (Nat.le_refl _) _⟩
  · have h2 : Bytes w w.heap.size A (l.take 2000) := by
      intro _
      obtain ⟨b, o, e, hb, hc⟩ := h.at_ (k := 0) (by omega)
      refine ⟨b, o, e, hb, fun k hk => ?_⟩
      rw [List.length_take] at hk
      rw [hc k (by omega)]
      simp
    obtain ⟨b, o, rfl, hb, hc⟩ := h.at_ (k := 0) (by omega)
    have ht : (l.take 2000).length = 2000 := by rw [List.length_take]; omega
    have K := Lib.hid (key (l.take 2000) cap (by omega) h2)
    rw [ht] at K
    clear key h h2 hc ht
    go_enter Tryd.func22, Tryd.ntmps22
    go_wp2
    go_ways
    go_ret
    exact ⟨rfl, K.out, (Below.refl _ _).alloc (Nat.le_refl _) _⟩
end Go.Proofs.YtoepehlndljkoaaDoor
