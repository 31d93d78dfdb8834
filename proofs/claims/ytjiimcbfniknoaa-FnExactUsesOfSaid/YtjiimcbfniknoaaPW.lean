/-
  Marks in a row of the call's own, with the numbers told; PredsOf of the model.
-/
import Derived.Test.YtjiimcbfniknoaaNZ
import Derived.Test.YtjiimcbfniknoaaNL
import Derived.Test.YtjiimcbfniknoaaNC
namespace Go.Proofs.Ytjiimcbfniknoaa
open Go.RowKit
set_option maxRecDepth 100000

/-- The numbers from 1 on. -/
def upTo (n : Nat) : List Int := (List.range n).map fun (i : Nat) => (1 : Int) + i
theorem upTo_len (n : Nat) : (upTo n).length = n := by simp [upTo]
theorem upTo_get (n j : Nat) (h : j < (upTo n).length) : (upTo n)[j] = 1 + j := by simp [upTo]
set_option maxHeartbeats 1000000 in
theorem markIntS_row (base g n cap : Nat) (xs : List Value) (w : World) (hown : w.ownsRow base 3 1 (.slice (some ⟨g, 0, none⟩) n cap) n xs) (hn : n ≤ 1048576) :
    Calls Try.prog 13 #[.slice (some ⟨g, 0, none⟩) n cap, .int .i64 1] w fun e w' => e = .returned (.int .i64 ((1 : Int) + n)) ∧ OwnN base w' (upTo n) (.slice (some ⟨g, 0, none⟩) n cap) ∧ Below base w w' := by
  have hg := hown.lt g rfl
  have HO := Lib.hid hown
  clear hown
  go_enter Try.func13, Try.ntmps13
  go_wp2
  go_loopw [1, 5] (fun m i wr => ∃ (k : Nat) (xs' : List Value), k ≤ n ∧ i = .int .i64 k ∧ m = .int .i64 ((1 : Int) + k) ∧ wr.ownsRow base 3 1 (.slice (some ⟨g, 0, none⟩) n cap) n xs' ∧ (∀ j, j < k → xs'[j]? = some (.int .i64 ((1 : Int) + (j : Nat)))) ∧ Below base w wr) (fun _ i _ => n - (intOf i).toNat)
  case atStart => exact ⟨0, xs, Nat.zero_le _, rfl, by simp, HO.out, fun j hj => absurd hj (by omega), Below.refl _ _⟩
  case round =>
    clear HO
    obtain ⟨k, xs', hk, rfl, rfl, hown, hall, hb⟩ := hrel
    by_cases hlt : k < n
    · have HA := Lib.hid hall
      clear hall
      have hxl := hown.1
      have d1 := hown.cellAt k (by omega)
      have f1 := hown.frozenAt k
      rw [List.getElem?_eq_getElem (by omega)] at d1
      generalize xs'[k] = y1 at *
      have HO := Lib.hid hown
      clear hown hxl
      go_wp2
      go_roundw
      case rel =>
        have hs := HO.out.stored k (.int .i64 ((1 : Int) + (k : Nat)))
        exact ⟨k + 1, _, by omega, by go_num, by go_num, hs.1, fun j hj => by
          rw [List.getElem?_set]
          by_cases ej : k = j
          · subst ej
            rw [if_pos rfl, if_pos (by have := HO.out.1; omega)]
          · rw [if_neg ej]; exact HA.out j (by omega), hb.setCell hg.1 _⟩
      case measure => simp only [intOf]; omega
    · obtain rfl : k = n := by omega
      have HO := Lib.hid (show OwnN base wr (upTo k) (.slice (some ⟨g, 0, none⟩) k cap) by
        have e : xs' = iCs (upTo k) := by
          apply List.ext_getElem?
          intro j
          have hl := hown.1
          by_cases hj : j < k
          · rw [hall j hj]
            unfold iCs
            rw [List.getElem?_map, List.getElem?_eq_getElem (by rw [upTo_len]; exact hj), upTo_get]
            rfl
          · rw [List.getElem?_eq_none (by omega), List.getElem?_eq_none (by rw [iCs_len, upTo_len]; omega)]
        unfold OwnN
        rw [upTo_len, ← e]
        exact hown)
      clear hall hown
      go_wp2
      go_ret
      exact ⟨rfl, HO.out, hb⟩
set_option maxHeartbeats 1000000 in
theorem markIntS_none (A : Option Addr) (cap : Nat) (w : World) :
    Calls Try.prog 13 #[.slice A 0 cap, .int .i64 1] w fun e w' => e = .returned (.int .i64 1) ∧ w' = w := by
  go_enter Try.func13, Try.ntmps13
  go_wp2
  go_loopw [1, 5] (fun m i wr => i = .int .i64 0 ∧ m = .int .i64 1 ∧ wr = w) (fun _ _ _ => 0)
  case atStart => exact ⟨rfl, rfl, rfl⟩
  case round =>
    obtain ⟨rfl, rfl, rfl⟩ := hrel
    go_wp2
    go_ret
    exact ⟨rfl, rfl⟩
/-- Marks in an own row, an empty one too. -/
theorem markOwn_any (base : Nat) (l : List Int) (A : Option Addr) (cap : Nat) (w : World) (hown : OwnN base w l (.slice A l.length cap)) (hn : l.length ≤ 1048576) (hb : base ≤ w.heap.size) :
    Calls Try.prog 13 #[.slice A l.length cap, .int .i64 1] w fun e w' => e = .returned (.int .i64 ((1 : Int) + l.length)) ∧ OwnN base w' (upTo l.length) (.slice A l.length cap) ∧ Below base w w' := by
  have h' := hown
  rcases hown.2 with ⟨e, hz⟩ | ⟨g, cap', cur, e, r⟩
  · have hl : l = [] := by
      cases l with
      | nil => rfl
      | cons x xs => simp at hz
    subst hl
    refine Calls.mono (markIntS_none A cap w) ?_
    rintro ee w' ⟨rfl, rfl⟩
    exact ⟨rfl, h', Below.refl _ _⟩
  · injection e with e1 e2 e3
    subst e1; subst e3
    exact markIntS_row base g l.length _ _ w h' hn
set_option maxHeartbeats 1000000 in
theorem heldIntS_any (n : Nat) (A : Option Addr) (cap : Nat) (w : World) (hR : NumS w (Lt w.heap.size) (upTo n) A) (hn : n ≤ 1048576) :
    Calls Try.prog 14 #[.slice A n cap, .int .i64 1] w (IntB ((1 : Int) + n) w) := by
  have HR := Lib.hid hR
  clear hR
  go_enter Try.func14, Try.ntmps14
  go_wp2 
  go_loopw [1, 5] (fun m i wr => ∃ (k : Nat), k ≤ n ∧ i = .int .i64 k ∧ m = .int .i64 ((1 : Int) + k) ∧ Below w.heap.size w wr) (fun _ i _ => n - (intOf i).toNat)
  case atStart => exact ⟨0, Nat.zero_le _, rfl, by simp, Below.refl _ _⟩
  case round =>
    obtain ⟨k, hk, rfl, rfl, hb⟩ := hrel
    by_cases hlt : k < n
    · obtain ⟨b, o, rfl, hB, c0⟩ := (HR.out.on hb hb.size).at_ (i := k) (by rw [upTo_len]; exact hlt)
      rw [upTo_get] at c0
      have q1 : (((1 : Int) + (k : Nat)) != ((1 : Int) + (k : Nat))) = false := by simp
      go_wp2
      go_roundw
      case rel => exact ⟨k + 1, by omega, by go_num, by go_num, hb⟩
      case measure => simp only [intOf]; omega
    · obtain rfl : k = n := by omega
      go_wp2
      go_ret
      exact ⟨rfl, hb⟩
set_option maxHeartbeats 2000000 in
theorem specPreds_any (c : Cd) (A : Option Addr) (cap : Nat) (b : Int) (w : World) (hR : BkS w (Lt w.heap.size) c.blocks A) (hn : bulkCd c ≤ 1048576) :
    Calls Try.prog 16 #[cdv c A cap, .int .i64 b] w (PRet (predsI c b) w) := by
  have hln : c.blocks.length ≤ 1048576 := by have := length_le_bulkR bulkBk c.blocks; unfold bulkCd at hn; omega
  have hb : Below w.heap.size w (w.alloc (.cells #[.int .i64 c.params, .int .i64 c.regs, .slice A c.blocks.length cap] 41)) := (Below.refl _ _).alloc (Nat.le_refl _) _
  have hl0 : w.heap.size < (w.alloc (.cells #[.int .i64 c.params, .int .i64 c.regs, .slice A c.blocks.length cap] 41)).heap.size := by rw [World.size_alloc]; omega
  have CP := Lib.hid (l7Preds_any c A cap b _ (hR.on hb hb.size) hn)
  have HV := Lib.hid (show predsI c b = if 0 ≤ b ∧ b < c.blocks.length then predsL c b else [] from rfl)
  generalize predsI c b = res at *
  unfold cdv PRet at *
  have CI := fun W => uIn_any b 0 ((c.blocks.length : Int) - 1) W
  have HE := Lib.hid (ownN_empty w.heap.size (w.alloc (.cells #[.int .i64 c.params, .int .i64 c.regs, .slice A c.blocks.length cap] 41)) hb.size)
  have sz : (w.alloc (.cells #[.int .i64 c.params, .int .i64 c.regs, .slice A c.blocks.length cap] 41)).heap.size = w.heap.size + 1 := World.size_alloc _ _
  rw [sz] at HE
  have HB2 := Lib.hid (hb.alloc hb.size (.cells #[] 3))
  clear hR hn sz
  by_cases h : 0 ≤ b ∧ b ≤ (c.blocks.length : Int) - 1
  · simp only [decide_eq_true h] at CI
    replace CI := fun W => Lib.hid (CI W)
    rw [if_pos (by omega)] at HV
    have HV2 := Lib.hid HV.out
    clear h HE HB2 HV
    generalize c.blocks.length = n at *
    go_enter Try.func16, Try.ntmps16
    go_wp2_with (go_at_call 33; (with_reducible refine Calls.mono (CI _).out ?_); rintro ee w1 ⟨rfl, rfl⟩)
    (with_reducible refine Calls.mono CP.out ?_)
    rintro ee w2 ⟨⟨v, rfl, hown⟩, hb2⟩
    have HO := Lib.hid (hown.base (Nat.le_of_lt hl0))
    clear hown
    have hb3 := hb.trans (hb2.mono hb.size)
    go_wp2_with fail
    go_ret
    exact ⟨⟨_, rfl, by rw [HV2.out]; exact HO.out⟩, hb3⟩
  · simp only [decide_eq_false h] at CI
    replace CI := fun W => Lib.hid (CI W)
    rw [if_neg (by omega)] at HV
    have HV2 := Lib.hid HV.out
    clear h CP HV
    generalize c.blocks.length = n at *
    go_enter Try.func16, Try.ntmps16
    go_wp2_with (go_at_call 33; (with_reducible refine Calls.mono (CI _).out ?_); rintro ee w1 ⟨rfl, rfl⟩)
    go_ret
    exact ⟨⟨_, rfl, by rw [HV2.out]; exact HE.out⟩, HB2.out⟩
end Go.Proofs.Ytjiimcbfniknoaa
