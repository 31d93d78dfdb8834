/-
  Slices of numbers in memory: what the laws' helpers and both sides do with them.
-/
import Derived.Test.YtomhomnibikceaaDoorW1
import Derived.Test.YtomhomnibikceaaDoorB0
import Derived.Test.YtomhomnibikceaaDoorG1
namespace Go.Proofs.YtomhomnibikceaaDoor
open Go.RowKit
set_option maxRecDepth 100000

/-- A slice of numbers that reads as a list; below block B. -/
def Ints (w : World) (B : Nat) (A : Option Addr) (xs : List Int) : Prop :=
  xs ≠ [] → ∃ b o, A = some ⟨b, o, none⟩ ∧ b < B ∧ ∀ k, (h : k < xs.length) → w.cell? ⟨b, o + k, none⟩ = some (.int .i64 xs[k])
theorem Ints.at_ {w : World} {B : Nat} {A : Option Addr} {xs : List Int} (h : Ints w B A xs) {k : Nat} (hk : k < xs.length) :
    ∃ b o, A = some ⟨b, o, none⟩ ∧ b < B ∧ w.cell? ⟨b, o + k, none⟩ = some (.int .i64 xs[k]) := by
  obtain ⟨b, o, e, hb, hc⟩ := h (by intro e; subst e; simp at hk)
  exact ⟨b, o, e, hb, hc k hk⟩
theorem Ints.below {w w' : World} {B : Nat} {A : Option Addr} {xs : List Int} (h : Ints w B A xs) (hb : Below B w w') : Ints w' B A xs := by
  intro hne
  obtain ⟨b, o, e, hB, hc⟩ := h hne
  exact ⟨b, o, e, hB, fun k hk => (hb.cell (p := ⟨b, _, none⟩) hB).trans (hc k hk)⟩
theorem Ints.more {w : World} {B B' : Nat} {A : Option Addr} {xs : List Int} (h : Ints w B A xs) (hB : B ≤ B') : Ints w B' A xs := by
  intro hne
  obtain ⟨b, o, e, hb, hc⟩ := h hne
  exact ⟨b, o, e, by omega, hc⟩
theorem Ints.on {w w' : World} {A : Option Addr} {xs : List Int} (h : Ints w w.heap.size A xs) (hb : Below w.heap.size w w') : Ints w' w'.heap.size A xs := (h.below hb).more hb.size
set_option maxHeartbeats 400000 in
theorem szIntS_any (A : Option Addr) (n cap : Nat) (left : Int) (w : World) (h0 : 0 ≤ left) (h1 : left ≤ 1048576) (hn : n ≤ 9223372036854775807) :
    Calls Tryd.prog 113 #[.slice A n cap, .int .i64 left] w fun ee w' => ee = .returned (.int .i64 (szR left n)) ∧ Below w.heap.size w w' := by
  unfold szR
  by_cases h : left < n
  · rw [if_pos h]
    go_enter Tryd.func113, Tryd.ntmps113
    go_wp2
    go_ret
    exact ⟨rfl, Below.refl _ _⟩
  · rw [if_neg h]
    go_enter Tryd.func113, Tryd.ntmps113
    go_wp2
    go_ret
    exact ⟨rfl, Below.refl _ _⟩
set_option maxHeartbeats 1000000 in
theorem eqIntS_any (A : Option Addr) (xs : List Int) (cap : Nat) (A' : Option Addr) (ys : List Int) (cap' : Nat) (w : World) (hW : Ints w w.heap.size A xs) (hW' : Ints w w.heap.size A' ys) (hn : xs.length ≤ 140737488351232) (hn' : ys.length ≤ 140737488351232) :
    Calls Tryd.prog 26 #[.slice A xs.length cap, .slice A' ys.length cap'] w fun e w' => e = .returned (.bool (decide (xs = ys))) ∧ Below w.heap.size w w' := by
  by_cases hl : xs.length = ys.length
  · have e1 : ((xs.length : Int) == (ys.length : Int)) = true := by rw [beq_iff_eq]; omega
    have e2 : ((xs.length : Int) != (ys.length : Int)) = false := by rw [bne, e1]; rfl
    have HL := Lib.hid hl; clear hl
    go_enter Tryd.func26, Tryd.ntmps26
    go_wp2
    clear e1 e2
    go_loopw [5] (fun i wr => ∃ (k : Nat), k ≤ xs.length ∧ i = .int .i64 k ∧ (∀ j, (h : j < xs.length) → (h' : j < ys.length) → j < k → xs[j] = ys[j]) ∧ Below w.heap.size w wr) (fun i _ => xs.length - (intOf i).toNat)
    case atStart => exact ⟨0, Nat.zero_le _, rfl, fun j _ _ hj => absurd hj (by omega), Below.refl _ _⟩
    case round =>
      obtain ⟨k, hk, rfl, hall, hb⟩ := hrel
      by_cases hlt : k < xs.length
      · have hlt' : k < ys.length := by have := HL.out; omega
        obtain ⟨b, o, rfl, hB, hc1⟩ := (hW.below hb).at_ hlt
        obtain ⟨b', o', rfl, hB', hc1'⟩ := (hW'.below hb).at_ hlt'
        have HA := Lib.hid hall; clear hall
        generalize hs0 : xs[k] = x at *
        generalize hs1 : ys[k] = y at *
        have HS := Lib.hid hs0; clear hs0
        have HS' := Lib.hid hs1; clear hs1
        by_cases hx : x = y
        · have e1 : (x == y) = true := by rw [beq_iff_eq]; exact hx
          have e2 : (x != y) = false := by rw [bne, e1]; rfl
          have HX := Lib.hid hx
          clear hx
          go_wp2
          go_quiet (fail)
          all_goals
            have hb2 := below_drewN hb nq
            go_wp2
            go_roundw
            case rel => exact ⟨k + 1, by omega, by go_num, fun j h1 h2 hjk => by
              by_cases e : j = k
              · subst e; exact (HS.out.trans HX.out).trans HS'.out.symm
              · exact HA.out j h1 h2 (by omega), hb2⟩
            case measure => simp only [intOf]; omega
        · have e1 : (x == y) = false := by rw [beq_eq_false_iff_ne]; exact hx
          have e2 : (x != y) = true := by rw [bne, e1]; rfl
          have HX := Lib.hid (show xs ≠ ys by rintro rfl; exact hx (HS.out.symm.trans HS'.out))
          clear hx
          go_wp2
          go_quiet (fail)
          all_goals
            have hb2 := below_drewN hb nq
            go_wp2
            go_ret
            exact ⟨ret_bool (by simp [HX.out]), hb2⟩
      · obtain rfl : k = xs.length := by omega
        go_wp2
        go_ret
        refine ⟨ret_bool ?_, hb⟩
        rw [eq_comm, decide_eq_true_eq]
        exact List.ext_getElem HL.out (fun j h1 h2 => hall j h1 h2 h1)
  · have e1 : ((xs.length : Int) == (ys.length : Int)) = false := by rw [beq_eq_false_iff_ne]; omega
    have e2 : ((xs.length : Int) != (ys.length : Int)) = true := by rw [bne, e1]; rfl
    have HL := Lib.hid hl; clear hl
    go_enter Tryd.func26, Tryd.ntmps26
    go_wp2
    go_ret
    refine ⟨ret_bool ?_, Below.refl _ _⟩
    rw [eq_comm, decide_eq_false_iff_not]
    rintro rfl
    exact HL.out rfl
theorem intInfo : (Tryd.prog.info? 3).map (fun i => (i.zero, i.size, i.bytes)) = some (some (.int .i64 0), 1, 8) := by kernel_rfl
def iPart (ks : List Int) (k : Nat) (xs : List Value) : Prop := xs.length = ks.length ∧ ∀ j, (h : j < ks.length) → j < k → xs[j]? = some (.int .i64 ks[j])
set_option maxHeartbeats 2000000 in
theorem toIntS_any (ks : List Int) (hn : ks.length ≤ 1048576) (A : Option Addr) (cap : Nat) (w : World) (hR : Ints w w.heap.size A ks) :
    Calls Tryd.prog 116 #[.slice A ks.length cap] w fun ee w' => ee = .returned (.slice (some ⟨w.heap.size, 0, none⟩) ks.length ks.length) ∧ Ints w' w'.heap.size (some ⟨w.heap.size, 0, none⟩) ks ∧ Below w.heap.size w w' := by
  have HR := Lib.hid hR
  clear hR
  obtain ⟨i0, hi, hz0, hz1, hz2⟩ := info_parts intInfo
  go_enter Tryd.func116, Tryd.ntmps116
  go_wp2_with (first
    | (with_reducible refine wpList_make_full _ rfl _ _ 48 rfl w.heap.size 3 i0 (.int .i64 0) 1 Tryd.underlying48 hi hz0 hz1 _ _ _ _ ks.length rfl rfl rfl rfl ?c1 ?c2 ?c3 ?_)
    | fail)
  case c1 => rw [hz2]; omega
  case c2 => unfold maxLen; omega
  case c3 => exact Nat.le_refl _
  intro w1 hown hgrow
  have hb0 : Below w.heap.size w w1 := (Below.refl _ _).grown hgrow (Nat.le_refl _) (fun k e => by cases e)
  obtain ⟨xs0, hown0, hp0⟩ : ∃ xs0, w1.ownsRow w.heap.size 3 1 (.slice (some ⟨w.heap.size, 0, none⟩) ks.length ks.length) ks.length xs0 ∧ iPart ks 0 xs0 := ⟨_, hown, by have := hown.1; simpa using this, fun j _ hj => absurd hj (by omega)⟩
  clear hown
  have HO0 := Lib.hid hown0
  have HP0 := Lib.hid hp0
  clear hown0 hgrow hp0
  go_wp2_with fail
  go_loopw [4] (fun i wr => ∃ (k : Nat) (xs : List Value), k ≤ ks.length ∧ i = .int .i64 k ∧ wr.ownsRow w.heap.size 3 1 (.slice (some ⟨w.heap.size, 0, none⟩) ks.length ks.length) ks.length xs ∧ iPart ks k xs ∧ Below w.heap.size w wr) (fun i _ => ks.length - (intOf i).toNat)
  case atStart => exact ⟨0, xs0, Nat.zero_le _, rfl, HO0.out, HP0.out, hb0⟩
  case round =>
    clear HO0 hb0 HP0
    obtain ⟨k, xs, hk, rfl, hown, hp, hb⟩ := hrel
    by_cases hlt : k < ks.length
    · obtain ⟨b, o, rfl, hB, c0⟩ := (HR.out.below hb).at_ hlt
      have HP := Lib.hid hp
      have hxl : xs.length = ks.length := hp.1
      clear hp
      generalize hkd : ks[k] = kid at c0
      have HKD := Lib.hid hkd
      clear hkd
      have d0 := hown.cellAt k (by omega)
      have f0 := hown.frozenAt k
      rw [List.getElem?_eq_getElem (by omega)] at d0
      generalize xs[k] = y0 at *
      have HO := Lib.hid hown
      have HXL := Lib.hid hxl
      clear hown hxl
      go_wp2_with fail
      go_roundw
      case rel =>
        have hs0 := HO.out.stored k (.int .i64 kid)
        refine ⟨k + 1, _, by omega, by go_num, hs0.1, ⟨by simpa using HXL.out, fun j hj hjk => ?_⟩, hb.setCell (Nat.le_refl _) _⟩
        rw [List.getElem?_set]
        by_cases e : k = j
        · subst e
          rw [if_pos rfl, if_pos (by have := HXL.out; omega), HKD.out]
        · rw [if_neg e]; exact HP.out.2 j hj (by omega)
      case measure => simp only [intOf]; omega
    · obtain rfl : k = ks.length := by omega
      have HO := Lib.hid (show Ints wr wr.heap.size (some ⟨w.heap.size, 0, none⟩) ks from fun _ => ⟨w.heap.size, 0, rfl, (hown.lt _ rfl).2, fun i hi => by
        rw [Nat.zero_add, hown.cellAt i (by omega)]; exact hp.2 i hi hi⟩)
      clear hown hp
      go_wp2_with fail
      go_ret
      exact ⟨rfl, HO.out, hb⟩
end Go.Proofs.YtomhomnibikceaaDoor
