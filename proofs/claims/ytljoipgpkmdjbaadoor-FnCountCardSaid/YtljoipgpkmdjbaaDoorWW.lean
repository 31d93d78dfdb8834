/-
  The laws' comparison of two lists of words that are the same list.
-/
import Derived.Test.YtljoipgpkmdjbaaDoorW1
namespace Go.Proofs.YtljoipgpkmdjbaaDoor
open Go.RowKit
set_option maxRecDepth 100000

set_option maxHeartbeats 1000000 in
theorem wwWords_same (A : Option Addr) (ws : List (Int × ByteArray)) (cap : Nat) (A' : Option Addr) (cap' : Nat) (w : World) (hW : Words w w.heap.size A ws) (hW' : Words w w.heap.size A' ws) (hn : ws.length ≤ 140737488351232) :
    Calls Tryd.prog 19 #[.slice A ws.length cap, .slice A' ws.length cap'] w fun e w' => e = .returned (.bool true) ∧ Below w.heap.size w w' := by
  have e0 : ((ws.length : Int) == (ws.length : Int)) = true := by rw [beq_iff_eq]
  go_enter Tryd.func19, Tryd.ntmps19
  go_wp2
  go_loopw [11] (fun i wr => ∃ (k : Nat), k ≤ ws.length ∧ i = .int .i64 k ∧ Below w.heap.size w wr) (fun i _ => ws.length - (intOf i).toNat)
  case atStart => exact ⟨0, Nat.zero_le _, rfl, Below.refl _ _⟩
  case round =>
    obtain ⟨k, hk, rfl, hb⟩ := hrel
    by_cases hlt : k < ws.length
    · obtain ⟨b, o, rfl, hB, hc1, hc2⟩ := (hW.below hb).at_ hlt
      obtain ⟨b', o', rfl, hB', hc1', hc2'⟩ := (hW'.below hb).at_ hlt
      generalize ws[k].1 = n at *
      generalize ws[k].2 = s at *
      have e1 : (n == n) = true := by simp
      have e2 : (s.toList == s.toList) = true := by simp
      go_wp2
      go_quiet (fail)
      have hb2 := below_drewN hb nq
      go_wp2
      go_roundw
      case rel => exact ⟨k + 1, by omega, by go_num, hb2⟩
      case measure => simp only [intOf]; omega
    · obtain rfl : k = ws.length := by omega
      go_wp2
      go_ret
      exact ⟨rfl, hb⟩
end Go.Proofs.YtljoipgpkmdjbaaDoor
