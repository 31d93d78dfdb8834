/-
  Three lists of numbers, one slice of them: how they lie, how they are marked, how they are compared.
-/
import Derived.Test.YtomhomnibikceaaDoorNC
import Derived.Test.YtomhomnibikceaaDoorNZ
import Derived.Deep.RegionHeld3
namespace Go.Proofs.YtomhomnibikceaaDoor
open Go.RowKit
set_option maxRecDepth 100000

/-- A block of its own kind, whole. -/
def Bz (w : World) (k : Nat) (T : TypeId) (cs : List Value) : Prop := w.heap[k]? = some (.cells cs.toArray T (0, 0))
theorem Bz.new (w : World) (T : TypeId) (cs : List Value) : Bz (w.alloc (.cells cs.toArray T)) w.heap.size T cs := by
  show (w.heap.push (.cells cs.toArray T (0, 0)))[w.heap.size]? = _
  simp
theorem Bz.lt {w : World} {k : Nat} {T : TypeId} {cs : List Value} (h : Bz w k T cs) : k < w.heap.size := (Array.getElem?_eq_some_iff.1 h).1
theorem Bz.below {B : Nat} {w w' : World} {k : Nat} {T : TypeId} {cs : List Value} (h : Bz w k T cs) (hb : Below B w w') (hk : k < B) : Bz w' k T cs := by
  unfold Bz at *
  rw [hb.block k hk, h]
theorem Bz.on {w w' : World} {k : Nat} {T : TypeId} {cs : List Value} (h : Bz w k T cs) (hb : Below w.heap.size w w') : Bz w' k T cs := h.below hb (Bz.lt h)
theorem Bz.cell {w : World} {k : Nat} {T : TypeId} {cs : List Value} (h : Bz w k T cs) (i : Nat) : w.cell? ⟨k, i, none⟩ = cs[i]? := by
  unfold World.cell?
  rw [show w.heap[(⟨k, i, none⟩ : Addr).block]? = w.heap[k]? from rfl, show w.heap[k]? = _ from h]
  show cs.toArray[i]? = _
  simp
theorem Bz.free {w : World} {k : Nat} {T : TypeId} {cs : List Value} (h : Bz w k T cs) (i : Nat) : w.frozen? ⟨k, i, none⟩ = false := by
  unfold World.frozen?
  rw [show w.heap[(⟨k, i, none⟩ : Addr).block]? = w.heap[k]? from rfl, show w.heap[k]? = _ from h]
  simp
theorem Bz.set {w : World} {k : Nat} {T : TypeId} {cs : List Value} (h : Bz w k T cs) (i : Nat) (v : Value) : Bz (w.setCell ⟨k, i, none⟩ v) k T (cs.set i v) := by
  have hlt := Bz.lt h
  have h' : w.heap[k] = .cells cs.toArray T (0, 0) := by
    have := h
    unfold Bz at this
    simpa [Array.getElem?_eq_getElem hlt] using this
  show (w.heap.modify k _)[k]? = _
  rw [Array.getElem?_eq_getElem (by simpa using hlt), Array.getElem_modify_self, h']
  simp
theorem Bz.other {w : World} {k g : Nat} {T : TypeId} {cs : List Value} (h : Bz w k T cs) (hg : k ≠ g) (i : Nat) (v : Value) : Bz (w.setCell ⟨g, i, none⟩ v) k T cs := by
  unfold Bz at *
  rw [Below.heap_setCell _ _ _ _ hg, h]
/-- One block alone is written. -/
structure Only (g : Nat) (w w' : World) : Prop where
  below : Below g w w'
  same : ∀ j, j ≠ g → w'.heap[j]? = w.heap[j]?
theorem Only.refl (g : Nat) (w : World) : Only g w w := ⟨Below.refl _ _, fun _ _ => rfl⟩
theorem Only.put {g : Nat} {w w' : World} (h : Only g w w') (i : Nat) (v : Value) : Only g w (w'.setCell ⟨g, i, none⟩ v) :=
  ⟨h.below.setCell (p := ⟨g, i, none⟩) (Nat.le_refl _) v, fun j hj => by rw [Below.heap_setCell _ _ _ _ hj, h.same j hj]⟩
theorem Bz.only {w w' : World} {k g : Nat} {T : TypeId} {cs : List Value} (h : Bz w k T cs) (ho : Only g w w') (hg : k ≠ g) : Bz w' k T cs := by
  unfold Bz at *
  rw [ho.same k hg, h]
/-- The numbers of the three lists. -/
def numsI (i : Nat) : List Int := if i = 0 then [0, 0, 0] else if i = 1 then [1, 2, 3] else [255, 16, 7]
def listI (n i : Nat) : List Int := (numsI i).take n
theorem listI_len {n i : Nat} (h : n ≤ 3) : (listI n i).length = n := by
  have h3 : (numsI i).length = 3 := by
    unfold numsI
    split
    · rfl
    · split <;> rfl
  unfold listI
  rw [List.length_take, h3]; omega
/-- Some rows of numbers that read as the lists. -/
def RdSS (w : World) (Q : Nat → Prop) (m n : Nat) (A : Option Addr) : Prop := m = 0 ∨ ∃ b o, A = some ⟨b, o, none⟩ ∧ Q b ∧ ∀ i, i < m → ∃ A' c, w.cell? ⟨b, o + i, none⟩ = some (.slice A' n c) ∧ NumS w Q (listI n i) A'
theorem RdSS.on {w w' : World} {B B' m n : Nat} {A : Option Addr} (h : RdSS w (Lt B) m n A) (hb : Below B w w') (hB : B ≤ B') : RdSS w' (Lt B') m n A := by
  rcases h with h | ⟨b, o, e, hq, hc⟩
  · exact .inl h
  · refine .inr ⟨b, o, e, Nat.lt_of_lt_of_le hq hB, fun i hi => ?_⟩
    obtain ⟨A', c, h1, h2⟩ := hc i hi
    exact ⟨A', c, (hb.cell (p := ⟨b, _, none⟩) hq).trans h1, h2.on hb hB⟩
set_option maxHeartbeats 2000000 in
theorem eqIntSS_any (m n : Nat) (hm : m ≤ 3) (hn : n ≤ 3) (A : Option Addr) (c : Nat) (A' : Option Addr) (c' : Nat) (w : World) (h : RdSS w (Lt w.heap.size) m n A) (h' : RdSS w (Lt w.heap.size) m n A') :
    Calls Tryd.prog 10 #[.slice A m c, .slice A' m c'] w (BoolB true w) := by
  have H := Lib.hid h
  have H' := Lib.hid h'
  clear h h'
  go_enter Tryd.func10, Tryd.ntmps10
  go_wp2_with fail
  go_loopw [5] (fun i wr => ∃ k : Nat, k ≤ m ∧ i = .int .i64 k ∧ Below w.heap.size w wr) (fun i _ => m - (intOf i).toNat)
  case atStart => exact ⟨0, Nat.zero_le _, rfl, Below.refl _ _⟩
  case round =>
    obtain ⟨k, hk, rfl, hb⟩ := hrel
    by_cases hlt : k < m
    · rcases H.out.on hb hb.size with h | ⟨b, o, rfl, hq, hc⟩
      · omega
      rcases H'.out.on hb hb.size with h | ⟨b', o', rfl, hq', hc'⟩
      · omega
      obtain ⟨B1, c1, d1, n1⟩ := hc k hlt
      obtain ⟨B2, c2, d2, n2⟩ := hc' k hlt
      have hl := listI_len (i := k) hn
      have EI := eqIntS_self (listI n k) B1 c1 B2 c2 wr.drew n1 n2 (by omega)
      rw [hl] at EI
      unfold BoolB at EI
      replace EI := Lib.hid EI
      have hq0 : b < wr.drew.heap.size := hq
      have hq1 : b' < wr.drew.heap.size := hq'
      have g1 : wr.drew.cell? ⟨b, o + k, none⟩ = some (.slice B1 n c1) := d1
      have g2 : wr.drew.cell? ⟨b', o' + k, none⟩ = some (.slice B2 n c2) := d2
      have hi1 : ((k : Nat) : Int) < m := by omega
      clear hc hc' n1 n2 hl
      go_wp2_with fail
      go_region_held3 (fun u => u.cell? ⟨b, o + k, none⟩ = some (.slice B1 n c1) ∧ u.cell? ⟨b', o' + k, none⟩ = some (.slice B2 n c2)) (go_keep)
        (first
          | (go_at_call 26; (with_reducible refine Calls.mono EI.out ?_); rintro ee w1 ⟨rfl, hb1⟩; have m1 := (hb1.cell (p := ⟨b, o + k, none⟩) hq0).trans g1; have m2 := (hb1.cell (p := ⟨b', o' + k, none⟩) hq1).trans g2))
      all_goals
        have hb2 := hb.drew.trans (hb1.mono hb.size)
        go_wp2_with fail
        go_roundw
        case rel => exact ⟨k + 1, by omega, by go_num, hb2⟩
        case measure => simp only [intOf]; omega
    · obtain rfl : k = m := by omega
      go_wp2_with fail
      go_ret
      exact ⟨rfl, hb⟩
/-- Marks in the first cells of a row. -/
def mk3 (n : Nat) (k : Int) (l : List Value) : List Value := ((List.range n).map fun (j : Nat) => Value.int .i64 (k + j)) ++ l.drop n
theorem mk3_zero (k : Int) (l : List Value) : mk3 0 k l = l := rfl
theorem mk3_len {n : Nat} {k : Int} {l : List Value} (h : n ≤ l.length) : (mk3 n k l).length = l.length := by
  unfold mk3
  rw [List.length_append, List.length_map, List.length_range, List.length_drop]; omega
theorem mk3_get {n j : Nat} {k : Int} {l : List Value} (h : j < n) : (mk3 n k l)[j]? = some (.int .i64 (k + j)) := by
  unfold mk3
  rw [List.getElem?_append_left (by simpa using h), List.getElem?_map, List.getElem?_range h]
  rfl
theorem mk3_rest {n j : Nat} {k : Int} {l : List Value} (h : n ≤ j) (hn : n ≤ l.length) : (mk3 n k l)[j]? = l[j]? := by
  unfold mk3
  rw [List.getElem?_append_right (by simpa using h), List.length_map, List.length_range, List.getElem?_drop]
  congr 1; omega
theorem mk3_succ {n : Nat} {k : Int} {l : List Value} (h : n < l.length) : (mk3 n k l).set n (.int .i64 (k + n)) = mk3 (n + 1) k l := by
  apply List.ext_getElem?
  intro j
  rw [List.getElem?_set]
  rcases Nat.lt_trichotomy j n with hj | hj | hj
  · rw [if_neg (by omega), mk3_get hj, mk3_get (by omega)]
  · subst hj
    rw [if_pos rfl, if_pos (by rw [mk3_len (by omega)]; exact h), mk3_get (by omega)]
  · rw [if_neg (by omega), mk3_rest (by omega) (by omega), mk3_rest (by omega) (by omega)]
set_option maxHeartbeats 1000000 in
theorem markIntS_bz (g n : Nat) (l : List Value) (hl : l.length = 3) (hn : n ≤ 3) (k : Int) (h0 : 0 ≤ k) (h1 : k ≤ 1000) (w : World) (h : Bz w g 3 l) :
    Calls Tryd.prog 29 #[.slice (some ⟨g, 0, none⟩) n 3, .int .i64 k] w fun e w' => e = .returned (.int .i64 (k + n)) ∧ Bz w' g 3 (mk3 n k l) ∧ Only g w w' := by
  have H := Lib.hid h
  clear h
  go_enter Tryd.func29, Tryd.ntmps29
  go_wp2_with fail
  go_loopw [1, 5] (fun m i wr => ∃ (j : Nat), j ≤ n ∧ i = .int .i64 j ∧ m = .int .i64 (k + j) ∧ Bz wr g 3 (mk3 j k l) ∧ Only g w wr) (fun _ i _ => n - (intOf i).toNat)
  case atStart => exact ⟨0, Nat.zero_le _, rfl, by simp, H.out, Only.refl _ _⟩
  case round =>
    clear H
    obtain ⟨j, hj, rfl, rfl, hz, ho⟩ := hrel
    by_cases hlt : j < n
    · have d1 := hz.cell j
      rw [mk3_rest (Nat.le_refl j) (by omega), List.getElem?_eq_getElem (by omega)] at d1
      have f1 := hz.free j
      have HZ := Lib.hid (hz.set j (.int .i64 (k + j)))
      rw [mk3_succ (by omega)] at HZ
      have HO := Lib.hid (ho.put j (.int .i64 (k + j)))
      generalize l[j] = y at *
      clear hz ho
      go_wp2_with fail
      go_roundw
      case rel => exact ⟨j + 1, by omega, by go_num, by go_num, HZ.out, HO.out⟩
      case measure => simp only [intOf]; omega
    · obtain rfl : j = n := by omega
      have HZ := Lib.hid hz
      clear hz
      go_wp2_with fail
      go_ret
      exact ⟨rfl, HZ.out, ho⟩
set_option maxHeartbeats 1000000 in
theorem heldIntS_bz (g n : Nat) (l : List Value) (hl : l.length = 3) (hn : n ≤ 3) (k : Int) (h0 : 0 ≤ k) (h1 : k ≤ 1000) (w : World) (h : Bz w g 3 (mk3 n k l)) :
    Calls Tryd.prog 30 #[.slice (some ⟨g, 0, none⟩) n 3, .int .i64 k] w fun e w' => e = .returned (.int .i64 (k + n)) ∧ w' = w := by
  have H := Lib.hid h
  clear h
  go_enter Tryd.func30, Tryd.ntmps30
  go_wp2_with fail
  go_loopw [1, 5] (fun m i wr => ∃ (j : Nat), j ≤ n ∧ i = .int .i64 j ∧ m = .int .i64 (k + j) ∧ wr = w) (fun _ i _ => n - (intOf i).toNat)
  case atStart => exact ⟨0, Nat.zero_le _, rfl, by simp, rfl⟩
  case round =>
    obtain ⟨j, hj, rfl, rfl, rfl⟩ := hrel
    by_cases hlt : j < n
    · have d1 := H.out.cell j
      rw [mk3_get hlt] at d1
      have q1 : ((k + (j : Nat)) != (k + (j : Nat))) = false := by simp
      go_wp2_with fail
      go_roundw
      case rel => exact ⟨j + 1, by omega, by go_num, by go_num, by first | rfl | trivial⟩
      case measure => simp only [intOf]; omega
    · obtain rfl : j = n := by omega
      go_wp2_with fail
      go_ret
      first | exact ⟨rfl, rfl⟩ | exact ⟨rfl, trivial⟩
end Go.Proofs.YtomhomnibikceaaDoor
