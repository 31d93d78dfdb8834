/-
  UsesOf of the program: the copy, sorted and compacted.
-/
import Derived.Test.YtjiimcbfniknoaaPY
import Derived.Test.YtjiimcbfniknoaaPW
import Derived.Test.YtjiimcbfniknoaaShelf
import Derived.Sort.OwnSortedInts
import Derived.Lib.OwnBridge
import Derived.Deep.Onto
namespace Go.Proofs.Ytjiimcbfniknoaa
open Go.RowKit Go.Sort
set_option maxRecDepth 100000

theorem uses_left {B : Nat} {w w1 : World} {g cap n nn q : Nat} {os : Array Obj} {ss : List Int} (hown : w1.ownsRow B 3 1 (.slice (some ⟨g, 0, none⟩) n cap) n (ss.map (Value.int .i64))) (hbel : Below B w w1) (hbg : B ≤ g) (hBw : B ≤ w1.heap.size) (hlen : ss.length = n) :
    OwnN B (putRow (Value.int .i64) (Sort.ahead (grow (putRow (Value.int .i64) (Sort.ahead w1 nn) g 0 (ss.mergeSort fun x y => decide (x ≤ y)).toArray) os) q) g 0 (Lib.compact (ss.mergeSort fun x y => decide (x ≤ y)) ++ List.replicate (n - (Lib.compact (ss.mergeSort fun x y => decide (x ≤ y))).length) 0).toArray) (Lib.compact (ss.mergeSort fun x y => decide (x ≤ y))) (.slice (some ⟨g, 0, none⟩) (Lib.compact (ss.mergeSort fun x y => decide (x ≤ y))).length cap) ∧
      Below B w (putRow (Value.int .i64) (Sort.ahead (grow (putRow (Value.int .i64) (Sort.ahead w1 nn) g 0 (ss.mergeSort fun x y => decide (x ≤ y)).toArray) os) q) g 0 (Lib.compact (ss.mergeSort fun x y => decide (x ≤ y)) ++ List.replicate (n - (Lib.compact (ss.mergeSort fun x y => decide (x ≤ y))).length) 0).toArray) := by
  have hl2 : (ss.mergeSort fun x y => decide (x ≤ y)).length = ss.length := List.length_mergeSort ss
  have hle := Lib.compact_length_le (ss.mergeSort fun x y => decide (x ≤ y))
  subst hlen
  rcases hown.2 with ⟨h0, _⟩ | ⟨g', cap', cur, hv, hbase, hb, h1, h2, h3, h4⟩
  · cases h0
  cases hv
  have hs := ownsRow_sortedI (n := nn) (os := os) (ts := ss.mergeSort fun x y => decide (x ≤ y)) hl2 hbase hb h1 h2 h3
  have hc := Lib.ownsRow_putRow (q := q) (k := (Lib.compact (ss.mergeSort fun x y => decide (x ≤ y))).length) (ys := Lib.compact (ss.mergeSort fun x y => decide (x ≤ y)) ++ List.replicate (ss.length - (Lib.compact (ss.mergeSort fun x y => decide (x ≤ y))).length) 0) hs (by simp; omega) (by omega)
  rw [List.take_left] at hc
  exact ⟨hc, Lib.below_putRow (hbel.grown (grownBy_sortedI _) hBw (fun j hj => by cases hj; exact hbase)) hbg⟩
set_option maxHeartbeats 4000000 in
theorem implUses_tail (l : List Int) (hn : l.length ≤ 1048576) (op to nn : Int) (A : Option Addr) (c : Nat) (w : World)
    (CL : ∀ W : World, Below w.heap.size w W → Calls Try.prog 29 #[.slice A l.length c] W fun e w' => ∃ v', e = .returned v' ∧ w'.ownsRow W.heap.size 3 1 v' l.length (l.map (Value.int .i64)) ∧ v' ≠ .slice none 0 0 ∧ Below W.heap.size W w') :
    Calls Try.prog 9 #[.agg #[.int .i64 op, .int .i64 to, .slice A l.length c, .int .i64 nn]] w (PRet (Lib.compact (l.mergeSort fun x y => decide (x ≤ y))) w) := by
  have hb := (Below.refl w.heap.size w).alloc (Nat.le_refl _) (.cells #[.int .i64 op, .int .i64 to, .slice A l.length c, .int .i64 nn] 27)
  have CL1 := Lib.hid (CL _ hb)
  clear CL
  generalize hnl : l.length = n at *
  go_enter Try.func9, Try.ntmps9
  go_wp2_with fail
  (with_reducible refine Calls.mono CL1.out ?_)
  rintro e w1 ⟨v1, rfl, hown, hnn, hbel⟩
  have hb1 := hb.trans (hbel.mono hb.size)
  have hown' := World.ownsRow.mono hown hb.size
  obtain ⟨g, cap, rfl, hbg, hgl, hncap, hcm, hlen, hH⟩ := Lib.holds_of_ownsRow hown' hnn
  have hsort := Lib.hid (Try.slices_Sort_int g 0 cap l w1 hH hgl (by omega))
  rw [hlen] at hsort
  have X := Lib.hid (show w1.ownsRow w.heap.size 3 1 (.slice (some ⟨g, 0, none⟩) n cap) n (l.map (Value.int .i64)) ∧ Below w.heap.size w w1 ∧ w.heap.size ≤ g ∧ g < w1.heap.size ∧ n ≤ cap ∧ cap ≤ maxLen ∧ l.length = n ∧ Holds (Value.int .i64) w1 g 0 l.toArray from ⟨hown', hb1, hbg, hgl, hncap, hcm, hlen, hH⟩)
  clear hown hown' hbel hH hnn hb hb1 CL1
  go_wp2_with fail
  (with_reducible refine Calls.mono hsort.out ?_)
  rintro e w2 ⟨rfl, nn', os, rfl⟩
  have hl2 : (l.mergeSort fun x y => decide (x ≤ y)).length = n := by rw [List.length_mergeSort]; exact X.out.2.2.2.2.2.2.1
  have hH2 : Holds (Value.int .i64) (grow (putRow (Value.int .i64) (Sort.ahead w1 nn') g 0 (l.mergeSort fun x y => decide (x ≤ y)).toArray) os) g 0 (l.mergeSort fun x y => decide (x ≤ y)).toArray :=
    holds_grow (Value.int .i64) _ os g 0 _ (by simpa [putRow, mapBlock, Sort.ahead] using X.out.2.2.2.1) (holds_putRow (Value.int .i64) _ g 0 _ _ (holds_ahead (Value.int .i64) w1 nn' g 0 _ X.out.2.2.2.2.2.2.2) (by simp))
  have hcomp := Lib.hid (Try.slices_Compact_int g 0 cap (l.mergeSort fun x y => decide (x ≤ y)) _ hH2 (by omega) (by have := X.out.2.2.2.2.1; omega))
  rw [hl2] at hcomp
  clear hH2 hsort
  go_wp2_with fail
  (with_reducible refine Calls.mono hcomp.out ?_)
  rintro e w3 ⟨rfl, q, rfl⟩
  have HL := Lib.hid (uses_left (nn := nn') (os := os) (q := q) X.out.1 X.out.2.1 X.out.2.2.1 X.out.2.1.size X.out.2.2.2.2.2.2.1)
  generalize putRow (Value.int .i64) (Sort.ahead (grow _ os) q) g 0 _ = w3 at *
  clear hcomp X
  go_wp2_with fail
  go_ret
  exact ⟨⟨_, rfl, HL.out.1⟩, HL.out.2⟩
theorem implUses_any (l : List Int) (hn : l.length ≤ 1048576) (op to nn : Int) (a : Addr) (c : Nat) (w : World) (hR : NumS w (Lt w.heap.size) l (some a)) :
    Calls Try.prog 9 #[.agg #[.int .i64 op, .int .i64 to, .slice (some a) l.length c, .int .i64 nn]] w (PRet (usesTo l l.length) w) := by
  rw [← uses_one]
  refine implUses_tail l hn op to nn (some a) c w fun W hb => ?_
  rcases hR.on hb hb.size with rfl | ⟨b, o, e, hB, hc⟩
  · exact Try.slices_Clone_int_zero a c W
  · cases e
    have h := Try.slices_Clone_int b o l.length c l W (Nat.le_refl _) (by omega) (fun j hj => by
      have := hc j hj
      rw [Nat.mul_one] at this
      rw [this, List.getD_eq_getElem?_getD, List.getElem?_eq_getElem hj]; rfl)
    rw [List.take_length] at h
    exact h
end Go.Proofs.Ytjiimcbfniknoaa
