/-
  Marks written into a slice of words are held there; the law on CutWords: its walk.
-/
import Derived.Test.YtkgjdmojlpkeeaaDoorC8
namespace Go.Proofs.YtkgjdmojlpkeeaaDoor
open Go.RowKit
set_option maxRecDepth 100000

def marked (xs : List Value) (k0 k : Nat) : Prop := ∀ j, j < k → xs[j * 2]? = some (.int .i64 ((k0 + j * 2 : Nat) : Int)) ∧ xs[j * 2 + 1]? = some (.string (markB (k0 + j * 2 + 1)))
theorem marked_succ {xs : List Value} {k0 k n : Nat} (h : marked xs k0 k) (hl : xs.length = n * 2) (hk : k < n) :
    marked ((xs.set (k * 2) (.int .i64 ((k0 + k * 2 : Nat) : Int))).set (k * 2 + 1) (.string (markB (k0 + k * 2 + 1)))) k0 (k + 1) := by
  intro j hj
  simp only [List.getElem?_set, List.length_set]
  by_cases e : j = k
  · subst e
    refine ⟨?_, ?_⟩
    · rw [if_neg (by omega), if_pos rfl, if_pos (by omega)]
    · rw [if_pos rfl, if_pos (by omega)]
  · have := h j (by omega)
    refine ⟨?_, ?_⟩
    · rw [if_neg (by omega), if_neg (by omega)]; exact this.1
    · rw [if_neg (by omega), if_neg (by omega)]; exact this.2
def MarkWRet (base e n k0 : Nat) (v : Value) (w : World) (en : Ending) (w' : World) : Prop :=
  en = .returned (.int .i64 ((k0 + n * 2 : Nat) : Int)) ∧ (∃ xs', w'.ownsRow base e 2 v n xs' ∧ marked xs' k0 n) ∧ Below base w w'

set_option maxHeartbeats 1000000 in
theorem markWordS_some (base e g n cap k0 : Nat) (xs : List Value) (w : World) (hown : w.ownsRow base e 2 (.slice (some ⟨g, 0, none⟩) n cap) n xs) (hbase : base ≤ w.heap.size) (hn : n ≤ 1000000) (h0 : 0 < k0) (h1 : k0 ≤ 1000000) :
    Calls Tryd.prog 35 #[.slice (some ⟨g, 0, none⟩) n cap, .int .i64 k0] w (MarkWRet base e n k0 (.slice (some ⟨g, 0, none⟩) n cap) w) := by
  have hg := hown.lt g rfl
  have HO := Lib.hid hown
  clear hown
  go_enter Tryd.func35, Tryd.ntmps35
  go_wp2
  go_loopw [1, 5] (fun m i wr => ∃ (k : Nat) (xs' : List Value), k ≤ n ∧ i = .int .i64 k ∧ m = .int .i64 ((k0 + k * 2 : Nat) : Int) ∧ wr.ownsRow base e 2 (.slice (some ⟨g, 0, none⟩) n cap) n xs' ∧ marked xs' k0 k ∧ Below base w wr) (fun _ i _ => n - (intOf i).toNat)
  case atStart => exact ⟨0, xs, Nat.zero_le _, rfl, by simp, HO.out, fun j hj => absurd hj (by omega), Below.refl _ _⟩
  case round =>
    clear HO
    obtain ⟨k, xs', hk, rfl, rfl, hown, hall, hb⟩ := hrel
    by_cases hlt : k < n
    · have hxl := hown.1
      have HA := Lib.hid (marked_succ hall hxl hlt)
      clear hall
      have d0 := hown.cellAt (k * 2) (by omega)
      have f0 := hown.frozenAt (k * 2)
      rw [List.getElem?_eq_getElem (by omega)] at d0
      have d1 := hown.cellAt (k * 2 + 1) (by omega)
      rw [List.getElem?_eq_getElem (by omega)] at d1
      generalize xs'[k * 2] = y0 at *
      generalize xs'[k * 2 + 1] = y1 at *
      have hown1 := (hown.stored (k * 2) (.int .i64 ((k0 + k * 2 : Nat) : Int))).1
      have hb0 := hb.setCell (p := ⟨g, k * 2, none⟩) hg.1 (.int .i64 ((k0 + k * 2 : Nat) : Int))
      have HO1 := Lib.hid hown1
      have MT := fun W => Lib.hid (markText_any (k0 + k * 2 + 1) W (by omega) (by omega))
      clear hown hown1 d1 hxl
      generalize hmb : markB (k0 + k * 2 + 1) = mb at *
      clear hmb
      go_wp2_with fail
      refine (MT _).out.mono ?_
      rintro en w2 ⟨rfl, hb1⟩
      have HO2 := HO1.out.kept (w' := w2) (row := none) ⟨hb1.os, hb1.tape, hb1.output, hb1.size, fun i hi _ => hb1.block i hi⟩ (by simp [Value.ownBlock])
      have hb2 := hb0.trans (hb1.mono (show base ≤ _ from Nat.le_trans hbase hb0.size))
      have e1 := HO2.cellAt (k * 2 + 1) (by omega)
      have f1 := HO2.frozenAt (k * 2 + 1)
      rw [List.getElem?_eq_getElem (by have := HO2.1; omega)] at e1
      generalize (xs'.set (k * 2) (Value.int .i64 ((k0 + k * 2 : Nat) : Int)))[k * 2 + 1]'(by have := HO2.1; omega) = y2 at *
      have HO := Lib.hid HO2
      clear HO2 hb hb0 hb1 d0 f0 HO1
      go_wp2
      go_roundw
      case rel =>
        have hs := HO.out.stored (k * 2 + 1) (.string mb)
        exact ⟨k + 1, _, by omega, by go_num, by go_num, hs.1, HA.out, hb2.setCell hg.1 _⟩
      case measure => simp only [intOf]; omega
    · obtain rfl : k = n := by omega
      have HA := Lib.hid hall
      have HO := Lib.hid hown
      clear hall hown
      go_wp2
      go_ret
      exact ⟨rfl, ⟨xs', HO.out, HA.out⟩, hb⟩
set_option maxHeartbeats 1000000 in
theorem markWordS_any (base e n k0 : Nat) (v : Value) (xs : List Value) (w : World) (hown : w.ownsRow base e 2 v n xs) (hbase : base ≤ w.heap.size) (hn : n ≤ 1000000) (h0 : 0 < k0) (h1 : k0 ≤ 1000000) :
    Calls Tryd.prog 35 #[v, .int .i64 k0] w (MarkWRet base e n k0 v w) := by
  rcases hown.2 with ⟨rfl, rfl⟩ | ⟨g, cap, cur, rfl, _⟩
  · have HO := Lib.hid hown
    clear hown
    go_enter Tryd.func35, Tryd.ntmps35
    go_wp2
    refine wp_loop_rounds 1 ?_
    rw [rounds_succ]
    go_wp2
    go_ret
    exact ⟨rfl, ⟨xs, HO.out, fun j hj => absurd hj (by omega)⟩, Below.refl _ _⟩
  · exact markWordS_some base e g n cap k0 xs w hown hbase hn h0 h1

set_option maxHeartbeats 1000000 in
theorem heldWordS_some (base e g n cap k0 : Nat) (xs : List Value) (w : World) (hown : w.ownsRow base e 2 (.slice (some ⟨g, 0, none⟩) n cap) n xs) (hm : marked xs k0 n) (hn : n ≤ 1000000) (h0 : 0 < k0) (h1 : k0 ≤ 1000000) :
    Calls Tryd.prog 36 #[.slice (some ⟨g, 0, none⟩) n cap, .int .i64 k0] w (IntBelow ((k0 + n * 2 : Nat) : Int) w) := by
  have hg := hown.lt g rfl
  have HO := Lib.hid hown
  have HM := Lib.hid hm
  clear hown hm
  go_enter Tryd.func36, Tryd.ntmps36
  go_wp2
  go_loopw [1, 5] (fun m i wr => ∃ (k : Nat), k ≤ n ∧ i = .int .i64 k ∧ m = .int .i64 ((k0 + k * 2 : Nat) : Int) ∧ Below w.heap.size w wr) (fun _ i _ => n - (intOf i).toNat)
  case atStart => exact ⟨0, Nat.zero_le _, rfl, by simp, Below.refl _ _⟩
  case round =>
    obtain ⟨k, hk, rfl, rfl, hb⟩ := hrel
    by_cases hlt : k < n
    · have hc0 : wr.cell? ⟨g, k * 2, none⟩ = some (.int .i64 ((k0 + k * 2 : Nat) : Int)) := by
        rw [hb.cell (p := ⟨g, k * 2, none⟩) hg.2, HO.out.cellAt (k * 2) (by omega), (HM.out k hlt).1]
      have hc : wr.cell? ⟨g, k * 2 + 1, none⟩ = some (.string (markB (k0 + k * 2 + 1))) := by
        rw [hb.cell (p := ⟨g, k * 2 + 1, none⟩) hg.2, HO.out.cellAt (k * 2 + 1) (by omega), (HM.out k hlt).2]
      have hgr : g < wr.heap.size := Nat.lt_of_lt_of_le hg.2 hb.size
      have CM := fun W => Lib.hid (markText_any (k0 + k * 2 + 1) W (by omega) (by omega))
      have e1 : ((markB (k0 + k * 2 + 1)).toList == (markB (k0 + k * 2 + 1)).toList) = true := by simp
      generalize markB (k0 + k * 2 + 1) = mb at *
      go_wp2_with fail
      go_region_held3 (fun u => u.cell? ⟨g, k * 2 + 1, none⟩ = some (.string mb)) (go_keep)
        (first | (go_at_call 53; refine (CM _).out.mono ?_; rintro en w' ⟨rfl, hb1⟩; have g1 := (hb1.cell (p := ⟨g, k * 2 + 1, none⟩) hgr).trans hc))
      all_goals
        have hb2 := hb.drew.trans (hb1.mono (show w.heap.size ≤ wr.heap.size from hb.size))
        clear hb hb1 hc g1 hc0
        go_wp2
        go_roundw
        case rel => exact ⟨k + 1, by omega, by go_num, by go_num, hb2⟩
        case measure => simp only [intOf]; omega
    · obtain rfl : k = n := by omega
      go_wp2
      go_ret
      exact ⟨rfl, hb⟩
set_option maxHeartbeats 1000000 in
theorem heldWordS_any (base e n k0 : Nat) (v : Value) (xs : List Value) (w : World) (hown : w.ownsRow base e 2 v n xs) (hm : marked xs k0 n) (hn : n ≤ 1000000) (h0 : 0 < k0) (h1 : k0 ≤ 1000000) :
    Calls Tryd.prog 36 #[v, .int .i64 k0] w (IntBelow ((k0 + n * 2 : Nat) : Int) w) := by
  rcases hown.2 with ⟨rfl, rfl⟩ | ⟨g, cap, cur, rfl, _⟩
  · clear hown hm
    go_enter Tryd.func36, Tryd.ntmps36
    go_wp2
    refine wp_loop_rounds 1 ?_
    rw [rounds_succ]
    go_wp2
    go_ret
    exact ⟨rfl, Below.refl _ _⟩
  · exact heldWordS_some base e g n cap k0 xs w hown hm hn h0 h1
end Go.Proofs.YtkgjdmojlpkeeaaDoor
