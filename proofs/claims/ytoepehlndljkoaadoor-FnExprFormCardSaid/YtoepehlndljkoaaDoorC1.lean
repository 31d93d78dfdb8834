/-
  What the functions of chapter 1 that touch no memory of their own return.
-/
import Derived.Test.YtoepehlndljkoaaDoorChecked
import Derived.Test.YtoepehlndljkoaaDoorMath
import Derived.WalkKit
import Derived.LoopTactic
import Derived.Lib.Hide
import Derived.Outline
import Derived.BigQuiet
import Derived.Deep.QuietTactic
import Derived.WalkSpells
import Derived.WalkLawsBesides
namespace Go.Proofs.YtoepehlndljkoaaDoor
open Go.RowKit
set_option maxRecDepth 100000

/-- The program's two tables stand in the world. -/
structure Tabs (w : World) : Prop where
  kinds : ∀ i, i < 128 → w.cell? ⟨2, i, none⟩ = some (.int .i64 (kt.getD i 0))
  size : 2 < w.heap.size ∧ 1 < w.heap.size
  keys : ∃ t fr, w.heap[1]? = some (.cells (keyL.map fun k => Value.string ⟨k.toArray⟩).toArray t fr)

set_option maxHeartbeats 400000 in
theorem kindOfByte_lo (b : UInt8) (z : Int) (w : World) (h : b.toNat < 128) (hc : w.cell? ⟨2, b.toNat, none⟩ = some (.int .i64 z)) :
    Calls Tryd.prog 61 #[.int .u8 b.toNat] w fun e w' => e = .returned (.int .i64 z) ∧ w = w' := by
  have hb : b.toNat < 256 := b.toNat_lt
  go_enter Tryd.func61, Tryd.ntmps61
  go_wp2
  go_ret
  exact ⟨rfl, rfl⟩
set_option maxHeartbeats 400000 in
theorem kindOfByte_hi (b : UInt8) (w : World) (h : ¬ b.toNat < 128) :
    Calls Tryd.prog 61 #[.int .u8 b.toNat] w fun e w' => e = .returned (.int .i64 0) ∧ w = w' := by
  have hb : b.toNat < 256 := b.toNat_lt
  have hb2 : 128 ≤ b.toNat := by omega
  go_enter Tryd.func61, Tryd.ntmps61
  go_wp2
  go_ret
  exact ⟨rfl, rfl⟩
theorem kindOfByte_any (b : UInt8) (w : World) (T : Tabs w) :
    Calls Tryd.prog 61 #[.int .u8 b.toNat] w fun e w' => e = .returned (.int .i64 (kindN b.toNat)) ∧ w = w' := by
  unfold kindN
  by_cases h : b.toNat < 128
  · rw [if_pos h]; exact kindOfByte_lo b _ w h (T.kinds _ h)
  · rw [if_neg h]; exact kindOfByte_hi b w h

set_option maxHeartbeats 400000 in
theorem inLetters_any (n : Int) (w : World) :
    Calls Tryd.prog 60 #[.int .i64 n] w fun e w' => e = .returned (.bool (n == 1)) ∧ w = w' := by
  go_enter Tryd.func60, Tryd.ntmps60
  go_wp2
  go_ret
  exact ⟨rfl, rfl⟩

theorem keyTab_at (k : Nat) (hk : k < 9) (w : World) : (Instr.index 103 keyTab (.int .i64 (k : Int))).run Tryd.prog w = .ok (.string (keyB k)) w := by
  have h : k = 0 ∨ k = 1 ∨ k = 2 ∨ k = 3 ∨ k = 4 ∨ k = 5 ∨ k = 6 ∨ k = 7 ∨ k = 8 := by omega
  rcases h with rfl | rfl | rfl | rfl | rfl | rfl | rfl | rfl | rfl <;> (show _ = _; kernel_rfl)
set_option maxHeartbeats 400000 in
theorem isKey_any (s : ByteArray) (w : World) (T : Tabs w) :
    Calls Tryd.prog 51 #[.string s] w fun e w' => e = .returned (.bool (isKeyB s)) ∧ w = w' := by
  obtain ⟨t, fr, hk⟩ := T.keys
  clear T
  go_enter Tryd.func51, Tryd.ntmps51
  go_wp2_with (with_reducible refine wpList_load_row rfl _ _ rfl _ rfl _ _ _ _ hk Tryd.underlying103 rfl (by kernel_rfl) ?_)
  clear hk
  have hidx := keyTab_at
  unfold keyTab at hidx
  generalize Value.agg (List.map (fun k => Value.string ⟨k.toArray⟩) keyL).toArray = KT at *
  have HI := Lib.hid hidx
  clear hidx
  go_loop [6] (fun i => ∃ k : Nat, k ≤ 9 ∧ i = .int .i64 k ∧ noKey s k) (fun i => 9 - (intOf i).toNat)
  case atStart => exact ⟨0, Nat.zero_le _, rfl, fun j hj => absurd hj (by omega)⟩
  case round =>
    obtain ⟨k, hk, rfl, hno⟩ := hrel
    by_cases hlt : k < 9
    · have hi := HI.out k hlt
      generalize hkb : keyB k = kb at *
      have HKB := Lib.hid hkb; clear hkb
      go_wp2
      · have he : s = kb := str_yes (by assumption)
        go_ret
        exact ⟨ret_bool (isKeyB_yes hlt (HKB.out.trans he.symm)).symm, rfl⟩
      · have he : s ≠ kb := str_no (by assumption)
        go_round
        case rel => exact ⟨k + 1, by omega, by go_num, noKey_succ hno (fun e => he (e.symm.trans HKB.out))⟩
        case measure => simp only [intOf]; omega
    · obtain rfl : k = 9 := by omega
      go_wp2
      go_ret
      exact ⟨ret_bool (isKeyB_no hno).symm, rfl⟩

set_option maxHeartbeats 400000 in
theorem l30Find_any (s : ByteArray) (b : UInt8) (w : World) (hs : s.size ≤ maxLen) :
    Calls Tryd.prog 76 #[.string s, .int .u8 b.toNat] w fun e w' => e = .returned (.int .i64 (find30 s.data.toList b)) ∧ w = w' := by
  unfold maxLen at hs
  go_enter Tryd.func76, Tryd.ntmps76
  go_wp2
  go_loop [5] (fun i => ∃ k : Nat, k ≤ s.size ∧ i = .int .i64 k ∧ noByte s b k) (fun i => s.size - (intOf i).toNat)
  case atStart => exact ⟨0, Nat.zero_le _, rfl, fun j _ hj => absurd hj (by omega)⟩
  case round =>
    obtain ⟨k, hk, rfl, hno⟩ := hrel
    by_cases hlt : k < s.size
    · go_wp2
      · have he : s[k] = b := byte_yes (by assumption)
        go_ret
        exact ⟨ret_int (find30_yes hlt he hno).symm, rfl⟩
      · have he : s[k] ≠ b := byte_no (by assumption)
        go_round
        case rel => exact ⟨k + 1, by omega, by go_num, noByte_succ hno hlt he⟩
        case measure => simp only [intOf]; omega
    · obtain rfl : k = s.size := by omega
      go_wp2
      go_ret
      exact ⟨ret_int (find30_no hno).symm, rfl⟩

set_option maxHeartbeats 400000 in
theorem l1Class_letter (b : UInt8) (w : World) (h1 : 97 ≤ b.toNat) (h2 : b.toNat ≤ 122) :
    Calls Tryd.prog 66 #[.int .u8 b.toNat] w fun e w' => e = .returned (.int .i64 1) ∧ w = w' := by
  go_enter Tryd.func66, Tryd.ntmps66
  go_wp2
  go_ret
  exact ⟨rfl, rfl⟩
set_option maxHeartbeats 400000 in
theorem l1Class_digit (b : UInt8) (w : World) (h1 : 48 ≤ b.toNat) (h2 : b.toNat ≤ 57) :
    Calls Tryd.prog 66 #[.int .u8 b.toNat] w fun e w' => e = .returned (.int .i64 2) ∧ w = w' := by
  go_enter Tryd.func66, Tryd.ntmps66
  go_wp2
  go_ret
  exact ⟨rfl, rfl⟩
set_option maxHeartbeats 1000000 in
theorem l1Class_sign (b : UInt8) (w : World) (h0 : ¬ (97 ≤ b.toNat ∧ b.toNat ≤ 122)) (h1 : ¬ (48 ≤ b.toNat ∧ b.toNat ≤ 57)) (h : b.toNat ∈ signs) :
    Calls Tryd.prog 66 #[.int .u8 b.toNat] w fun e w' => e = .returned (.int .i64 3) ∧ w = w' := by
  have hf := find_sign_yes h
  have C := l30Find_any signS b w (by decide)
  generalize find30 signS.data.toList b = z at *
  unfold signS at C
  have HC := Lib.hid C; clear C h
  by_cases a1 : 97 ≤ b.toNat <;> by_cases a2 : 48 ≤ b.toNat <;> try (exfalso; omega)
  all_goals
    first | (have a3 : 122 < b.toNat := by omega) | skip
    first | (have a4 : 57 < b.toNat := by omega) | skip
    clear h0 h1
    go_enter Tryd.func66, Tryd.ntmps66
    go_wp2_with fail
    refine HC.out.mono ?_
    rintro e w' ⟨rfl, rfl⟩
    go_wp2
    go_ret
    exact ⟨rfl, rfl⟩
set_option maxHeartbeats 1000000 in
theorem l1Class_rest (b : UInt8) (z : Int) (w : World) (h0 : ¬ (97 ≤ b.toNat ∧ b.toNat ≤ 122)) (h1 : ¬ (48 ≤ b.toNat ∧ b.toNat ≤ 57)) (h : b.toNat ∉ signs)
    (hz : (b.toNat = 32 ∧ z = 4) ∨ (b.toNat = 10 ∧ z = 4) ∨ (b.toNat ≠ 32 ∧ b.toNat ≠ 10 ∧ z = 0)) :
    Calls Tryd.prog 66 #[.int .u8 b.toNat] w fun e w' => e = .returned (.int .i64 z) ∧ w = w' := by
  have hf := find_sign_no h
  have C := l30Find_any signS b w (by decide)
  rw [hf] at C
  unfold signS at C
  have HC := Lib.hid C; clear C h hf
  rcases hz with ⟨g, rfl⟩ | ⟨g, rfl⟩ | ⟨g1, g2, rfl⟩
  · have b1 : ((b.toNat : Int) == 32) = true := by rw [beq_iff_eq]; omega
    have a3 : b.toNat < 97 := by omega
    have a4 : b.toNat < 48 := by omega
    clear h0 h1 g
    go_enter Tryd.func66, Tryd.ntmps66
    go_wp2_with fail
    refine HC.out.mono ?_
    rintro e w' ⟨rfl, rfl⟩
    go_wp2
    go_ret
    exact ⟨rfl, rfl⟩
  · have b1 : ((b.toNat : Int) == 32) = false := by rw [beq_eq_false_iff_ne]; omega
    have b2 : ((b.toNat : Int) == 10) = true := by rw [beq_iff_eq]; omega
    have a3 : b.toNat < 97 := by omega
    have a4 : b.toNat < 48 := by omega
    clear h0 h1 g
    go_enter Tryd.func66, Tryd.ntmps66
    go_wp2_with fail
    refine HC.out.mono ?_
    rintro e w' ⟨rfl, rfl⟩
    go_wp2
    go_ret
    exact ⟨rfl, rfl⟩
  · have b1 : ((b.toNat : Int) == 32) = false := by rw [beq_eq_false_iff_ne]; omega
    have b2 : ((b.toNat : Int) == 10) = false := by rw [beq_eq_false_iff_ne]; omega
    clear g1 g2
    by_cases a1 : 97 ≤ b.toNat <;> by_cases a2 : 48 ≤ b.toNat <;> try (exfalso; omega)
    all_goals
      first | (have a3 : 122 < b.toNat := by omega) | skip
      first | (have a4 : 57 < b.toNat := by omega) | skip
      clear h0 h1
      go_enter Tryd.func66, Tryd.ntmps66
      go_wp2_with fail
      refine HC.out.mono ?_
      rintro e w' ⟨rfl, rfl⟩
      go_wp2
      go_ret
      exact ⟨rfl, rfl⟩
theorem l1Class_any (b : UInt8) (w : World) :
    Calls Tryd.prog 66 #[.int .u8 b.toNat] w fun e w' => e = .returned (.int .i64 (cls b.toNat)) ∧ w = w' := by
  by_cases h1 : 97 ≤ b.toNat ∧ b.toNat ≤ 122
  · rw [cls_letter h1.1 h1.2]; exact l1Class_letter b w h1.1 h1.2
  by_cases h2 : 48 ≤ b.toNat ∧ b.toNat ≤ 57
  · rw [cls_digit h2.1 h2.2]; exact l1Class_digit b w h2.1 h2.2
  by_cases h3 : b.toNat ∈ signs
  · rw [cls_sign h1 h2 h3]; exact l1Class_sign b w h1 h2 h3
  by_cases h4 : b.toNat = 32
  · rw [cls_blank (.inl h4)]; exact l1Class_rest b 4 w h1 h2 h3 (.inl ⟨h4, rfl⟩)
  by_cases h5 : b.toNat = 10
  · rw [cls_blank (.inr h5)]; exact l1Class_rest b 4 w h1 h2 h3 (.inr (.inl ⟨h5, rfl⟩))
  · rw [cls_none h1 h2 h3 h4 h5]; exact l1Class_rest b 0 w h1 h2 h3 (.inr (.inr ⟨h4, h5, rfl⟩))
end Go.Proofs.YtoepehlndljkoaaDoor
