/-
  CountKind: the model's and the program's count the same; the law's walk.
-/
import Derived.Test.YtljoipgpkmdjbaaDoorW1
namespace Go.Proofs.YtljoipgpkmdjbaaDoor
open Go.RowKit
set_option maxRecDepth 100000

/-- How many of the first k words are of a kind. -/
def cntK (ws : List (Int × ByteArray)) (kind : Int) : Nat → Nat
  | 0 => 0
  | k + 1 => cntK ws kind k + if (ws.getD k (0, ByteArray.empty)).1 = kind then 1 else 0
theorem cntK_le (ws : List (Int × ByteArray)) (kind : Int) (k : Nat) : cntK ws kind k ≤ k := by
  induction k with
  | zero => exact Nat.le_refl _
  | succ k ih => unfold cntK; split <;> omega
theorem cntK_yes {ws : List (Int × ByteArray)} {kind : Int} {k : Nat} (hk : k < ws.length) (h : ws[k].1 = kind) : cntK ws kind (k + 1) = cntK ws kind k + 1 := by
  show cntK ws kind k + _ = _
  rw [List.getD_eq_getElem?_getD, List.getElem?_eq_getElem hk, Option.getD_some, if_pos h]
theorem cntK_no {ws : List (Int × ByteArray)} {kind : Int} {k : Nat} (hk : k < ws.length) (h : ws[k].1 ≠ kind) : cntK ws kind (k + 1) = cntK ws kind k := by
  show cntK ws kind k + _ = _
  rw [List.getD_eq_getElem?_getD, List.getElem?_eq_getElem hk, Option.getD_some, if_neg h, Nat.add_zero]

set_option maxHeartbeats 400000 in
theorem specCountKind_any (A : Option Addr) (ws : List (Int × ByteArray)) (cap : Nat) (kind : Int) (w : World) (hW : Words w w.heap.size A ws) (hn : ws.length ≤ 1048576) :
    Calls Tryd.prog 10 #[.slice A ws.length cap, .int .i64 kind] w fun e w' => e = .returned (.int .i64 (cntK ws kind ws.length)) ∧ w = w' := by
  go_enter Tryd.func10, Tryd.ntmps10
  go_wp2
  go_loop [5, 6] (fun n i => ∃ k : Nat, k ≤ ws.length ∧ i = .int .i64 k ∧ n = .int .i64 (cntK ws kind k)) (fun _ i => ws.length - (intOf i).toNat)
  case atStart => exact ⟨0, Nat.zero_le _, rfl, rfl⟩
  case round =>
    obtain ⟨k, hk, rfl, rfl⟩ := hrel
    have hle := cntK_le ws kind k
    by_cases hlt : k < ws.length
    · obtain ⟨b, o, rfl, hB, hc1, hc2⟩ := hW.at_ hlt
      by_cases hc : ws[k].1 = kind
      · have HE := Lib.hid (cntK_yes hlt hc)
        have hb : (ws[k].1 == kind) = true := beq_iff_eq.2 hc
        clear hc
        generalize ws[k].1 = n1 at *
        generalize ws[k].2 = s1 at *
        go_wp2
        go_round
        case rel => exact ⟨k + 1, by omega, by go_num, by rw [HE.out]; go_num⟩
        case measure => simp only [intOf]; omega
      · have HE := Lib.hid (cntK_no hlt hc)
        have hb : (ws[k].1 == kind) = false := by rw [beq_eq_false_iff_ne]; exact hc
        clear hc
        generalize ws[k].1 = n1 at *
        generalize ws[k].2 = s1 at *
        go_wp2
        go_round
        case rel => exact ⟨k + 1, by omega, by go_num, by rw [HE.out]⟩
        case measure => simp only [intOf]; omega
    · obtain rfl : k = ws.length := by omega
      go_wp2
      go_ret
      exact ⟨rfl, rfl⟩

set_option maxHeartbeats 400000 in
theorem implCountKind_any (A : Option Addr) (ws : List (Int × ByteArray)) (cap : Nat) (kind : Int) (w : World) (hW : Words w w.heap.size A ws) (hn : ws.length ≤ 1048576) :
    Calls Tryd.prog 9 #[.slice A ws.length cap, .int .i64 kind] w fun e w' => e = .returned (.int .i64 (cntK ws kind ws.length)) ∧ Below w.heap.size w w' := by
  go_enter Tryd.func9, Tryd.ntmps9
  go_wp2
  go_loopw [5, 10] (fun n i wr => ∃ k : Nat, k ≤ ws.length ∧ i = .int .i64 k ∧ n = .int .i64 (cntK ws kind k) ∧ Below w.heap.size w wr) (fun _ i _ => ws.length - (intOf i).toNat)
  case atStart => exact ⟨0, Nat.zero_le _, rfl, rfl, Below.refl _ _⟩
  case round =>
    obtain ⟨k, hk, rfl, rfl, hb⟩ := hrel
    have hle := cntK_le ws kind k
    by_cases hlt : k < ws.length
    · obtain ⟨b, o, rfl, hB, hc1, hc2⟩ := (hW.below hb).at_ hlt
      have hb2 := hb.alloc hb.size (.cells #[.int .i64 ws[k].1, .string ws[k].2] 28)
      clear hb
      by_cases hc : ws[k].1 = kind
      · have HE := Lib.hid (cntK_yes hlt hc)
        have hbb : (ws[k].1 == kind) = true := beq_iff_eq.2 hc
        clear hc
        generalize ws[k].1 = n1 at *
        generalize ws[k].2 = s1 at *
        go_wp2
        go_roundw
        case rel => exact ⟨k + 1, by omega, by go_num, by rw [HE.out]; go_num, hb2⟩
        case measure => simp only [intOf]; omega
      · have HE := Lib.hid (cntK_no hlt hc)
        have hbb : (ws[k].1 == kind) = false := by rw [beq_eq_false_iff_ne]; exact hc
        clear hc
        generalize ws[k].1 = n1 at *
        generalize ws[k].2 = s1 at *
        go_wp2
        go_roundw
        case rel => exact ⟨k + 1, by omega, by go_num, by rw [HE.out], hb2⟩
        case measure => simp only [intOf]; omega
    · obtain rfl : k = ws.length := by omega
      go_wp2
      go_ret
      exact ⟨rfl, hb⟩

/-- A plain post for the walk's end. -/
def TrueBelow (w : World) (e : Ending) (w' : World) : Prop := e = .returned (.bool true) ∧ Below w.heap.size w w'

end Go.Proofs.YtljoipgpkmdjbaaDoor
