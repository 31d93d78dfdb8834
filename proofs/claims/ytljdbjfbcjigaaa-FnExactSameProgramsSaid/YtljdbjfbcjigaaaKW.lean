/-
  KeyWords: the law's walk.
-/
import Derived.Test.YtljdbjfbcjigaaaC2
import Derived.Test.YtljdbjfbcjigaaaMark
namespace Go.Proofs.Ytljdbjfbcjigaaa
open Go.RowKit
set_option maxRecDepth 100000

/-- A slice of texts that reads as a list; below block B. -/
def Strs (w : World) (B : Nat) (A : Option Addr) (ss : List ByteArray) : Prop :=
  ss ≠ [] → ∃ b o, A = some ⟨b, o, none⟩ ∧ b < B ∧ ∀ k, (h : k < ss.length) → w.cell? ⟨b, o + k, none⟩ = some (.string ss[k])
theorem Strs.at_ {w : World} {B : Nat} {A : Option Addr} {ss : List ByteArray} (h : Strs w B A ss) {k : Nat} (hk : k < ss.length) :
    ∃ b o, A = some ⟨b, o, none⟩ ∧ b < B ∧ w.cell? ⟨b, o + k, none⟩ = some (.string ss[k]) := by
  obtain ⟨b, o, e, hb, hc⟩ := h (by intro e; subst e; simp at hk)
  exact ⟨b, o, e, hb, hc k hk⟩
theorem Strs.below {w w' : World} {B : Nat} {A : Option Addr} {ss : List ByteArray} (h : Strs w B A ss) (hb : Below B w w') : Strs w' B A ss := by
  intro hne
  obtain ⟨b, o, e, hB, hc⟩ := h hne
  exact ⟨b, o, e, hB, fun k hk => (hb.cell (p := ⟨b, _, none⟩) hB).trans (hc k hk)⟩
theorem Strs.more {w : World} {B B' : Nat} {A : Option Addr} {ss : List ByteArray} (h : Strs w B A ss) (hB : B ≤ B') : Strs w B' A ss := by
  intro hne
  obtain ⟨b, o, e, hb, hc⟩ := h hne
  exact ⟨b, o, e, by omega, hc⟩

set_option maxHeartbeats 1000000 in
theorem eqStringS_any (A : Option Addr) (ss : List ByteArray) (cap : Nat) (A' : Option Addr) (ss' : List ByteArray) (cap' : Nat) (w : World) (hW : Strs w w.heap.size A ss) (hW' : Strs w w.heap.size A' ss') (hn : ss.length ≤ 140737488351232) (hn' : ss'.length ≤ 140737488351232) :
    Calls Try.prog 30 #[.slice A ss.length cap, .slice A' ss'.length cap'] w fun e w' => e = .returned (.bool (decide (ss = ss'))) ∧ Below w.heap.size w w' := by
  by_cases hl : ss.length = ss'.length
  · have e1 : ((ss.length : Int) == (ss'.length : Int)) = true := by rw [beq_iff_eq]; omega
    have e2 : ((ss.length : Int) != (ss'.length : Int)) = false := by rw [bne, e1]; rfl
    have HL := Lib.hid hl; clear hl
    go_enter Try.func30, Try.ntmps30
    go_wp2
    clear e1 e2
    go_loopw [5] (fun i wr => ∃ (k : Nat), k ≤ ss.length ∧ i = .int .i64 k ∧ (∀ j, (h : j < ss.length) → (h' : j < ss'.length) → j < k → ss[j] = ss'[j]) ∧ Below w.heap.size w wr) (fun i _ => ss.length - (intOf i).toNat)
    case atStart => exact ⟨0, Nat.zero_le _, rfl, fun j _ _ hj => absurd hj (by omega), Below.refl _ _⟩
    case round =>
      obtain ⟨k, hk, rfl, hall, hb⟩ := hrel
      by_cases hlt : k < ss.length
      · have hlt' : k < ss'.length := by have := HL.out; omega
        obtain ⟨b, o, rfl, hB, hc1⟩ := (hW.below hb).at_ hlt
        obtain ⟨b', o', rfl, hB', hc1'⟩ := (hW'.below hb).at_ hlt'
        have HA := Lib.hid hall; clear hall
        generalize hs0 : ss[k] = x at *
        generalize hs1 : ss'[k] = x' at *
        have HS := Lib.hid hs0; clear hs0
        have HS' := Lib.hid hs1; clear hs1
        by_cases hx : x = x'
        · have e1 := str_eq_true hx
          have HX := Lib.hid hx
          clear hx
          go_wp2
          go_quiet (fail)
          all_goals
            have hb2 := below_drewN hb nq
            go_wp2
            go_roundw
            case rel => exact ⟨k + 1, by omega, by go_num, fun j h1 h2 hjk => by
              by_cases e : j = k
              · subst e; exact (HS.out.trans HX.out).trans HS'.out.symm
              · exact HA.out j h1 h2 (by omega), hb2⟩
            case measure => simp only [intOf]; omega
        · have e1 := str_eq_false hx
          have HX := Lib.hid (show ss ≠ ss' by rintro rfl; exact hx (HS.out.symm.trans HS'.out))
          clear hx
          go_wp2
          go_quiet (fail)
          all_goals
            have hb2 := below_drewN hb nq
            go_wp2
            go_ret
            exact ⟨ret_bool (by simp [HX.out]), hb2⟩
      · obtain rfl : k = ss.length := by omega
        go_wp2
        go_ret
        refine ⟨ret_bool ?_, hb⟩
        rw [eq_comm, decide_eq_true_eq]
        exact List.ext_getElem HL.out (fun j h1 h2 => hall j h1 h2 h1)
  · have e1 : ((ss.length : Int) == (ss'.length : Int)) = false := by rw [beq_eq_false_iff_ne]; omega
    have e2 : ((ss.length : Int) != (ss'.length : Int)) = true := by rw [bne, e1]; rfl
    have HL := Lib.hid hl; clear hl
    go_enter Try.func30, Try.ntmps30
    go_wp2
    go_ret
    refine ⟨ret_bool ?_, Below.refl _ _⟩
    rw [eq_comm, decide_eq_false_iff_not]
    rintro rfl
    exact HL.out rfl

/-- The keys' cells, and the block that the program's KeyWords makes. -/
def keyCells : List Value := keyL.map fun k => Value.string ⟨k.toArray⟩
theorem keyCells_at : ∀ k, k < 9 → keyCells[k]? = some (.string (keyB k)) := by
  intro k hk
  have h : k = 0 ∨ k = 1 ∨ k = 2 ∨ k = 3 ∨ k = 4 ∨ k = 5 ∨ k = 6 ∨ k = 7 ∨ k = 8 := by omega
  rcases h with rfl | rfl | rfl | rfl | rfl | rfl | rfl | rfl | rfl <;> rfl
def keyS : List ByteArray := keyL.map fun k => ⟨k.toArray⟩
theorem keyS_len : keyS.length = 9 := rfl
theorem keyS_self : decide (keyS = keyS) = true := by simp
theorem keyS_at (k : Nat) (h : k < keyS.length) : keyS[k] = keyB k := by
  have h' : k < 9 := h
  have h : k = 0 ∨ k = 1 ∨ k = 2 ∨ k = 3 ∨ k = 4 ∨ k = 5 ∨ k = 6 ∨ k = 7 ∨ k = 8 := by omega
  rcases h with rfl | rfl | rfl | rfl | rfl | rfl | rfl | rfl | rfl <;> rfl
theorem strs_of_own {w : World} {base e g cap : Nat} {ss : List ByteArray} {xs : List Value} {n : Nat} (h : w.ownsRow base e 1 (.slice (some ⟨g, 0, none⟩) n cap) n xs) (hn : ss.length = n) (hx : ∀ k, (h : k < ss.length) → xs[k]? = some (.string ss[k])) : Strs w w.heap.size (some ⟨g, 0, none⟩) ss := by
  intro _
  refine ⟨g, 0, rfl, (h.lt g rfl).2, fun k hk => ?_⟩
  rw [Nat.zero_add, h.cellAt k (by omega), hx k hk]
theorem keyBlock_strs (w : World) : Strs (w.alloc keyBlock) (w.alloc keyBlock).heap.size (some ⟨w.heap.size, 0, none⟩) keyS := by
  intro _
  refine ⟨w.heap.size, 0, rfl, by show _ < (w.heap.push keyBlock).size; simp, fun k hk => ?_⟩
  rw [Nat.zero_add, keyBlock_cell w k hk, keyS_at k hk]

end Go.Proofs.Ytljdbjfbcjigaaa
