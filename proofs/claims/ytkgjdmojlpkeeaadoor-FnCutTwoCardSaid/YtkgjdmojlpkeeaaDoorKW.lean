/-
  KeyWords: the law's walk.
-/
import Derived.Test.YtkgjdmojlpkeeaaDoorC2
import Derived.Test.YtkgjdmojlpkeeaaDoorMark
namespace Go.Proofs.YtkgjdmojlpkeeaaDoor
open Go.RowKit
set_option maxRecDepth 100000

/-- A slice of texts that reads as a list; below block B. -/
def Strs (w : World) (B : Nat) (A : Option Addr) (ss : List ByteArray) : Prop :=
  ss ≠ [] → ∃ b o, A = some ⟨b, o, none⟩ ∧ b < B ∧ ∀ k, (h : k < ss.length) → w.cell? ⟨b, o + k, none⟩ = some (.string ss[k])
theorem Strs.at_ {w : World} {B : Nat} {A : Option Addr} {ss : List ByteArray} (h : Strs w B A ss) {k : Nat} (hk : k < ss.length) :
    ∃ b o, A = some ⟨b, o, none⟩ ∧ b < B ∧ w.cell? ⟨b, o + k, none⟩ = some (.string ss[k]) := by
  obtain ⟨b, o, e, hb, hc⟩ := h (by intro e; subst e; simp at hk)
  exact ⟨b, o, e, hb, hc k hk⟩
theorem Strs.below {w w' : World} {B : Nat} {A : Option Addr} {ss : List ByteArray} (h : Strs w B A ss) (hb : Below B w w') : Strs w' B A ss := by
  intro hne
  obtain ⟨b, o, e, hB, hc⟩ := h hne
  exact ⟨b, o, e, hB, fun k hk => (hb.cell (p := ⟨b, _, none⟩) hB).trans (hc k hk)⟩
theorem Strs.more {w : World} {B B' : Nat} {A : Option Addr} {ss : List ByteArray} (h : Strs w B A ss) (hB : B ≤ B') : Strs w B' A ss := by
  intro hne
  obtain ⟨b, o, e, hb, hc⟩ := h hne
  exact ⟨b, o, e, by omega, hc⟩

set_option maxHeartbeats 1000000 in
theorem eqStringS_any (A : Option Addr) (ss : List ByteArray) (cap : Nat) (A' : Option Addr) (ss' : List ByteArray) (cap' : Nat) (w : World) (hW : Strs w w.heap.size A ss) (hW' : Strs w w.heap.size A' ss') (hn : ss.length ≤ 140737488351232) (hn' : ss'.length ≤ 140737488351232) :
    Calls Tryd.prog 27 #[.slice A ss.length cap, .slice A' ss'.length cap'] w fun e w' => e = .returned (.bool (decide (ss = ss'))) ∧ Below w.heap.size w w' := by
  by_cases hl : ss.length = ss'.length
  · have e1 : ((ss.length : Int) == (ss'.length : Int)) = true := by rw [beq_iff_eq]; omega
    have e2 : ((ss.length : Int) != (ss'.length : Int)) = false := by rw [bne, e1]; rfl
    have HL := Lib.hid hl; clear hl
    go_enter Tryd.func27, Tryd.ntmps27
    go_wp2
    clear e1 e2
    go_loopw [5] (fun i wr => ∃ (k : Nat), k ≤ ss.length ∧ i = .int .i64 k ∧ (∀ j, (h : j < ss.length) → (h' : j < ss'.length) → j < k → ss[j] = ss'[j]) ∧ Below w.heap.size w wr) (fun i _ => ss.length - (intOf i).toNat)
    case atStart => exact ⟨0, Nat.zero_le _, rfl, fun j _ _ hj => absurd hj (by omega), Below.refl _ _⟩
    case round =>
      obtain ⟨k, hk, rfl, hall, hb⟩ := hrel
      by_cases hlt : k < ss.length
      · have hlt' : k < ss'.length := by have := HL.out; omega
        obtain ⟨b, o, rfl, hB, hc1⟩ := (hW.below hb).at_ hlt
        obtain ⟨b', o', rfl, hB', hc1'⟩ := (hW'.below hb).at_ hlt'
        have HA := Lib.hid hall; clear hall
        generalize hs0 : ss[k] = x at *
        generalize hs1 : ss'[k] = x' at *
        have HS := Lib.hid hs0; clear hs0
        have HS' := Lib.hid hs1; clear hs1
        by_cases hx : x = x'
        · have e1 := str_eq_true hx
          have HX := Lib.hid hx
          clear hx
          go_wp2
          go_quiet (fail)
          all_goals
            have hb2 := below_drewN hb nq
            go_wp2
            go_roundw
            case rel => exact ⟨k + 1, by omega, by go_num, fun j h1 h2 hjk => by
              by_cases e : j = k
              · subst e; exact (HS.out.trans HX.out).trans HS'.out.symm
              · exact HA.out j h1 h2 (by omega), hb2⟩
            case measure => simp only [intOf]; omega
        · have e1 := str_eq_false hx
          have HX := Lib.hid (show ss ≠ ss' by rintro rfl; exact hx (HS.out.symm.trans HS'.out))
          clear hx
          go_wp2
          go_quiet (fail)
          all_goals
            have hb2 := below_drewN hb nq
            go_wp2
            go_ret
            exact ⟨ret_bool (by simp [HX.out]), hb2⟩
      · obtain rfl : k = ss.length := by omega
        go_wp2
        go_ret
        refine ⟨ret_bool ?_, hb⟩
        rw [eq_comm, decide_eq_true_eq]
        exact List.ext_getElem HL.out (fun j h1 h2 => hall j h1 h2 h1)
  · have e1 : ((ss.length : Int) == (ss'.length : Int)) = false := by rw [beq_eq_false_iff_ne]; omega
    have e2 : ((ss.length : Int) != (ss'.length : Int)) = true := by rw [bne, e1]; rfl
    have HL := Lib.hid hl; clear hl
    go_enter Tryd.func27, Tryd.ntmps27
    go_wp2
    go_ret
    refine ⟨ret_bool ?_, Below.refl _ _⟩
    rw [eq_comm, decide_eq_false_iff_not]
    rintro rfl
    exact HL.out rfl

/-- The program's table of keys stands in the world. -/
structure KTab (w : World) : Prop where
  size : 1 ≤ w.heap.size
  keys : ∃ t fr, w.heap[0]? = some (.cells (keyL.map fun k => Value.string ⟨k.toArray⟩).toArray t fr)
theorem KTab.below {w w' : World} (T : KTab w) (hb : Below w.heap.size w w') : KTab w' := by
  obtain ⟨t, fr, hk⟩ := T.keys
  have hsz := T.size
  exact ⟨by have := hb.size; omega, t, fr, by rw [hb.block _ (by omega)]; exact hk⟩
/-- The keys' cells, and the block that the program's KeyWords makes. -/
def keyCells : List Value := keyL.map fun k => Value.string ⟨k.toArray⟩
def keyArr : Obj := .cells keyCells.toArray 62 (0, 0)
theorem keyCells_at : ∀ k, k < 9 → keyCells[k]? = some (.string (keyB k)) := by
  intro k hk
  have h : k = 0 ∨ k = 1 ∨ k = 2 ∨ k = 3 ∨ k = 4 ∨ k = 5 ∨ k = 6 ∨ k = 7 ∨ k = 8 := by omega
  rcases h with rfl | rfl | rfl | rfl | rfl | rfl | rfl | rfl | rfl <;> rfl
def keyS : List ByteArray := keyL.map fun k => ⟨k.toArray⟩
theorem keyS_len : keyS.length = 9 := rfl
theorem keyS_self : decide (keyS = keyS) = true := by simp
theorem keyS_at (k : Nat) (h : k < keyS.length) : keyS[k] = keyB k := by
  have h' : k < 9 := h
  have h : k = 0 ∨ k = 1 ∨ k = 2 ∨ k = 3 ∨ k = 4 ∨ k = 5 ∨ k = 6 ∨ k = 7 ∨ k = 8 := by omega
  rcases h with rfl | rfl | rfl | rfl | rfl | rfl | rfl | rfl | rfl <;> rfl
set_option maxHeartbeats 400000 in
theorem implKeyWords_any (w : World) (T : KTab w) :
    Calls Tryd.prog 26 #[] w fun e w' => e = .returned (.slice (some ⟨w.heap.size, 0, none⟩) 9 9) ∧ w' = w.alloc keyArr := by
  obtain ⟨t, fr, hk⟩ := T.keys
  clear T
  simp only [keyL, List.map_cons, List.map_nil] at hk
  go_enter Tryd.func26, Tryd.ntmps26
  go_wp2_with (with_reducible refine wpList_load_row rfl _ _ rfl _ rfl _ _ _ _ hk Tryd.underlying62 rfl (by kernel_rfl) ?_)
  go_wp2
  go_ret
  exact ⟨rfl, rfl⟩
theorem keyArr_own (w : World) (base : Nat) (hb : base ≤ w.heap.size) : (w.alloc keyArr).ownsRow base 62 1 (.slice (some ⟨w.heap.size, 0, none⟩) 9 9) 9 keyCells := by
  refine ⟨rfl, .inr ⟨w.heap.size, 9, keyCells.toArray, rfl, hb, ?_, Nat.le_refl _, by unfold maxLen; omega, rfl, rfl⟩⟩
  show (w.heap.push keyArr)[w.heap.size]? = _
  simp [keyArr]
theorem strs_of_own {w : World} {base e g cap : Nat} {ss : List ByteArray} {xs : List Value} {n : Nat} (h : w.ownsRow base e 1 (.slice (some ⟨g, 0, none⟩) n cap) n xs) (hn : ss.length = n) (hx : ∀ k, (h : k < ss.length) → xs[k]? = some (.string ss[k])) : Strs w w.heap.size (some ⟨g, 0, none⟩) ss := by
  intro _
  refine ⟨g, 0, rfl, (h.lt g rfl).2, fun k hk => ?_⟩
  rw [Nat.zero_add, h.cellAt k (by omega), hx k hk]
theorem keyBlock_strs (w : World) : Strs (w.alloc keyBlock) (w.alloc keyBlock).heap.size (some ⟨w.heap.size, 0, none⟩) keyS := by
  intro _
  refine ⟨w.heap.size, 0, rfl, by show _ < (w.heap.push keyBlock).size; simp, fun k hk => ?_⟩
  rw [Nat.zero_add, keyBlock_cell w k hk, keyS_at k hk]

set_option maxHeartbeats 1000000 in
/-- The law on KeyWords answers true, and turns nothing that was there. -/
theorem fnExactKeyWords_walk (w : World) (T : KTab w) :
    Calls Tryd.prog 8 #[] w fun e w' => e = .returned (.bool true) ∧ Below w.heap.size w w' := by
  have hb1 : Below w.heap.size w (w.alloc keyBlock) := (Below.refl _ _).alloc (Nat.le_refl _) _
  have hS1 := Lib.hid (keyBlock_strs w)
  have T1 := T.below hb1
  have hbw : w.heap.size < (w.alloc keyBlock).heap.size := by show _ < (w.heap.push keyBlock).size; simp
  have KW := fun W => Lib.hid (specKeyWords_any W)
  have IK := fun W h => Lib.hid (implKeyWords_any W h)
  go_enter Tryd.func8, Tryd.ntmps8
  go_wp2_with fail
  refine (KW _).out.mono ?_
  rintro e w1 ⟨rfl, hw1⟩
  rw [← hw1] at hb1 hS1 T1 hbw
  have hS1' : Strs w1 w1.heap.size (some ⟨w.heap.size, 0, none⟩) keyS := hS1.out
  clear hw1 hS1 KW
  go_wp2_with fail
  refine (IK w1 T1).out.mono ?_
  rintro e w2 ⟨rfl, hw2⟩
  have hO2 := Lib.hid (keyArr_own w1 w1.heap.size (Nat.le_refl _))
  have hb2 : Below w1.heap.size w1 w2 := by rw [hw2]; exact (Below.refl _ _).alloc (Nat.le_refl _) _
  rw [← hw2] at hO2
  have hlt2 : w1.heap.size < w2.heap.size := by rw [hw2]; show _ < (w1.heap.push keyArr).size; simp
  clear hw2
  have hSA := strs_of_own (ss := keyS) hO2.out keyS_len (fun k hk => by rw [keyCells_at k hk, keyS_at k hk])
  have hS2 := (hS1'.below hb2).more (Nat.le_of_lt hlt2)
  have EQ := Lib.hid (eqStringS_any (some ⟨w1.heap.size, 0, none⟩) keyS 9 (some ⟨w.heap.size, 0, none⟩) keyS 9 w2 hSA hS2 (by rw [keyS_len]; omega) (by rw [keyS_len]; omega))
  rw [keyS_self, keyS_len] at EQ
  clear hSA
  go_wp2_with fail
  refine EQ.out.mono ?_
  rintro e w3 ⟨rfl, hb3⟩
  clear EQ
  have hO3 := Lib.hid (hO2.out.kept (w' := w3) (row := none) ⟨hb3.os, hb3.tape, hb3.output, hb3.size, fun i hi _ => hb3.block i hi⟩ (by simp [Value.ownBlock]))
  have hb13 := hb2.trans (hb3.mono (Nat.le_of_lt hlt2))
  have MK := Lib.hid (markStringS_any w1.heap.size 62 w1.heap.size 9 9 1 keyCells w3 hO3.out hb13.size (by omega) (by omega) (by omega))
  clear hO2 hO3
  go_wp2_with fail
  refine MK.out.mono ?_
  rintro e w4 ⟨rfl, ⟨xs4, hO4, hm4⟩, hb4⟩
  replace hO4 := Lib.hid hO4
  replace hm4 := Lib.hid hm4
  have hb14 := hb13.trans hb4
  have HE := Lib.hid (heldStringS_any w1.heap.size 62 w1.heap.size 9 9 1 xs4 w4 hO4.out hm4.out (by omega) (by omega) (by omega))
  clear MK
  go_wp2_with fail
  refine HE.out.mono ?_
  rintro e w5 ⟨rfl, hb5⟩
  have hlt4 : w1.heap.size ≤ w4.heap.size := hb14.size
  have hb15 := hb14.trans (hb5.mono hlt4)
  have hO5 := Lib.hid (hO4.out.kept (w' := w5) (row := none) ⟨hb5.os, hb5.tape, hb5.output, hb5.size, fun i hi _ => hb5.block i hi⟩ (by simp [Value.ownBlock]))
  have T5 := T1.below hb15
  clear HE
  go_wp2_with fail
  refine (IK w5 T5).out.mono ?_
  rintro e w6 ⟨rfl, hw6⟩
  have hO6k := Lib.hid (keyArr_own w5 w5.heap.size (Nat.le_refl _))
  have hb6 : Below w5.heap.size w5 w6 := by rw [hw6]; exact (Below.refl _ _).alloc (Nat.le_refl _) _
  rw [← hw6] at hO6k
  clear hw6
  have hO6 := Lib.hid (hO5.out.kept (w' := w6) (row := none) ⟨hb6.os, hb6.tape, hb6.output, hb6.size, fun i hi _ => hb6.block i hi⟩ (by simp [Value.ownBlock]))
  have hb16 := hb15.trans (hb6.mono hb15.size)
  have hSB := strs_of_own (ss := keyS) hO6k.out keyS_len (fun k hk => by rw [keyCells_at k hk, keyS_at k hk])
  have hS6 := (hS1'.below hb16).more hb16.size
  have EQ := Lib.hid (eqStringS_any (some ⟨w5.heap.size, 0, none⟩) keyS 9 (some ⟨w.heap.size, 0, none⟩) keyS 9 w6 hSB hS6 (by rw [keyS_len]; omega) (by rw [keyS_len]; omega))
  rw [keyS_self, keyS_len] at EQ
  clear hSB IK
  go_wp2_with fail
  refine EQ.out.mono ?_
  rintro e w7 ⟨rfl, hb7⟩
  have hb17 := hb16.trans (hb7.mono hb16.size)
  have hO7 := Lib.hid (hO6.out.kept (w' := w7) (row := none) ⟨hb7.os, hb7.tape, hb7.output, hb7.size, fun i hi _ => hb7.block i hi⟩ (by simp [Value.ownBlock]))
  have HE := Lib.hid (heldStringS_any w1.heap.size 62 w1.heap.size 9 9 1 xs4 w7 hO7.out hm4.out (by omega) (by omega) (by omega))
  clear EQ
  go_wp2_with fail
  refine HE.out.mono ?_
  rintro e w8 ⟨rfl, hb8⟩
  have hbz := hb1.trans ((hb17.trans (hb8.mono hb17.size)).mono hb1.size)
  clear HE hb8 hb17 hb7 hb16 hb6 hb15 hb5 hb14 hb4 hb13 hb3 hb2 hb1
  go_wp2
  go_ret
  exact ⟨rfl, hbz⟩
end Go.Proofs.YtkgjdmojlpkeeaaDoor
