/-
  DoIns of the model, and what the program makes of an op.
-/
import Derived.Test.YtomhomnibikceaaZA
namespace Go.Proofs.Ytomhomnibikceaa
open Go.RowKit
set_option maxRecDepth 100000

theorem two_of {k : IntKind} {x x' y y' : Int} {w : World} {f : FuncId} {args : Array Value} (h : Calls Try.prog f args w (Two k x y w)) (hx : x = x') (hy : y = y') : Calls Try.prog f args w (Two k x' y' w) := by subst hx hy; exact h
theorem implTwo_any (op a b : Int) (w : World) (ho : 3 ≤ op ∧ op ≤ 9) (h0 : 0 ≤ a ∧ a ≤ 255) (h1 : 0 ≤ b ∧ b ≤ 255) :
    Calls Try.prog 14 #[.int .i64 op, .int .u8 a, .int .u8 b] w (Two .u8 (twoV op a b) (twoE op b) w) := by
  have h : op = 3 ∨ op = 4 ∨ op = 5 ∨ op = 6 ∨ op = 7 ∨ op = 8 ∨ op = 9 := by omega
  rcases h with rfl | rfl | rfl | rfl | rfl | rfl | rfl
  · exact two_of (iAdd a b w h0 h1) (by simp [twoV]) (by simp [twoE])
  · exact two_of (iSub a b w h0 h1) (by simp [twoV]) (by simp [twoE])
  · exact two_of (iMul a b w h0 h1) (by simp [twoV]) (by simp [twoE])
  · by_cases hz : b = 0
    · exact two_of (iDiv0 a b w h0 h1 hz) (by simp [twoV, hz]) (by simp [twoE, hz])
    · exact two_of (iDiv a b w h0 h1 hz) (by simp [twoV, hz]) (by simp [twoE, hz])
  · by_cases hz : b = 0
    · exact two_of (iRem0 a b w h0 h1 hz) (by simp [twoV, hz]) (by simp [twoE, hz])
    · exact two_of (iRem a b w h0 h1 hz) (by simp [twoV, hz]) (by simp [twoE, hz])
  · by_cases hz : a < b
    · exact two_of (iLess1 a b w h0 h1 hz) (by simp [twoV, hz]) (by simp [twoE])
    · exact two_of (iLess0 a b w h0 h1 hz) (by simp [twoV, hz]) (by simp [twoE])
  · by_cases hz : a = b
    · exact two_of (iSame1 a b w h0 h1 hz) (by simp [twoV, hz]) (by simp [twoE])
    · exact two_of (iSame0 a b w h0 h1 hz) (by simp [twoV, hz]) (by simp [twoE])
theorem specTwo_any (op a b : Int) (w : World) (ho : 3 ≤ op ∧ op ≤ 9) (h0 : 0 ≤ a ∧ a ≤ 255) (h1 : 0 ≤ b ∧ b ≤ 255) :
    Calls Try.prog 12 #[.int .i64 op, .int .i64 a, .int .i64 b] w (Two .i64 (twoV op a b) (twoE op b) w) := by
  have h : op = 3 ∨ op = 4 ∨ op = 5 ∨ op = 6 ∨ op = 7 ∨ op = 8 ∨ op = 9 := by omega
  rcases h with rfl | rfl | rfl | rfl | rfl | rfl | rfl
  · exact two_of (sAdd a b w h0 h1) (by simp [twoV]) (by simp [twoE])
  · exact two_of (sSub a b w h0 h1) (by simp [twoV]) (by simp [twoE])
  · exact two_of (sMul a b w h0 h1) (by simp [twoV]) (by simp [twoE])
  · by_cases hz : b = 0
    · exact two_of (sDiv0 a b w h0 h1 hz) (by simp [twoV, hz]) (by simp [twoE, hz])
    · exact two_of (sDiv a b w h0 h1 hz) (by simp [twoV, hz]) (by simp [twoE, hz])
  · by_cases hz : b = 0
    · exact two_of (sRem0 a b w h0 h1 hz) (by simp [twoV, hz]) (by simp [twoE, hz])
    · exact two_of (sRem a b w h0 h1 hz) (by simp [twoV, hz]) (by simp [twoE, hz])
  · by_cases hz : a < b
    · exact two_of (sLess1 a b w h0 h1 hz) (by simp [twoV, hz]) (by simp [twoE])
    · exact two_of (sLess0 a b w h0 h1 hz) (by simp [twoV, hz]) (by simp [twoE])
  · by_cases hz : a = b
    · exact two_of (sSame1 a b w h0 h1 hz) (by simp [twoV, hz]) (by simp [twoE])
    · exact two_of (sSame0 a b w h0 h1 hz) (by simp [twoV, hz]) (by simp [twoE])
theorem twoE_no {op b : Int} (h : op = 1 ∨ op = 2 ∨ op = 10) : twoE op b = 0 := by
  unfold twoE; rw [if_neg]; omega
set_option maxHeartbeats 400000 in
theorem implIns_any (op a b : Int) (w : World) (ho : 1 ≤ op ∧ op ≤ 10) (h0 : 0 ≤ a ∧ a ≤ 255) (h1 : 0 ≤ b ∧ b ≤ 255) :
    Calls Try.prog 10 #[.int .i64 op, .int .u8 a, .int .u8 b] w (Two .u8 (doV op a b) (twoE op b) w) := by
  by_cases h12 : op = 1 ∨ op = 2
  · refine two_of (x := a) (y := 0) ?_ (by unfold doV; rw [if_pos h12]) (twoE_no (by omega)).symm
    unfold Two
    rcases h12 with rfl | rfl
    all_goals go_enter Try.func10, Try.ntmps10
    all_goals go_wp2
    all_goals go_ret2
    all_goals exact ⟨rfl, rfl⟩
  by_cases h10 : op = 10
  · subst h10
    by_cases hz : a = 0
    · refine two_of (x := 1) (y := 0) ?_ (by unfold doV; rw [if_neg h12, if_pos rfl, if_pos hz]) (twoE_no (by omega)).symm
      unfold Two
      subst hz
      go_enter Try.func10, Try.ntmps10
      go_wp2
      go_ret2
      exact ⟨rfl, rfl⟩
    · refine two_of (x := 0) (y := 0) ?_ (by unfold doV; rw [if_neg h12, if_pos rfl, if_neg hz]) (twoE_no (by omega)).symm
      unfold Two
      have hd := beq_no hz
      go_enter Try.func10, Try.ntmps10
      go_wp2
      go_ret2
      exact ⟨rfl, rfl⟩
  · refine two_of (x := twoV op a b) (y := twoE op b) ?_ (by unfold doV; rw [if_neg h12, if_neg h10]) rfl
    have C := Lib.hid (implTwo_any op a b w (by omega) h0 h1)
    have e1 : (op == 1) = false := beq_no (by omega)
    have e2 : (op == 2) = false := beq_no (by omega)
    have e3 : (op == 10) = false := beq_no (by omega)
    unfold Two at *
    generalize twoV op a b = x at *
    generalize twoE op b = y at *
    clear h12 h10 ho
    go_enter Try.func10, Try.ntmps10
    go_wp2_with fail
    (with_reducible refine Calls.mono C.out ?_)
    rintro ee w1 ⟨rfl, rfl⟩
    go_wp2_with fail
    go_ret2
    exact ⟨rfl, rfl⟩
set_option maxHeartbeats 400000 in
theorem specDo_any (op a b : Int) (w : World) (ho : 1 ≤ op ∧ op ≤ 10) (h0 : 0 ≤ a ∧ a ≤ 255) (h1 : 0 ≤ b ∧ b ≤ 255) :
    Calls Try.prog 8 #[.int .i64 op, .int .i64 a, .int .i64 b] w (Two .i64 (doV op a b) (twoE op b) w) := by
  by_cases h12 : op = 1 ∨ op = 2
  · refine two_of (x := a) (y := 0) ?_ (by unfold doV; rw [if_pos h12]) (twoE_no (by omega)).symm
    unfold Two
    rcases h12 with rfl | rfl
    all_goals go_enter Try.func8, Try.ntmps8
    all_goals go_wp2
    all_goals go_ret2
    all_goals exact ⟨rfl, rfl⟩
  by_cases h10 : op = 10
  · subst h10
    by_cases hz : a = 0
    · refine two_of (x := 1) (y := 0) ?_ (by unfold doV; rw [if_neg h12, if_pos rfl, if_pos hz]) (twoE_no (by omega)).symm
      unfold Two
      subst hz
      go_enter Try.func8, Try.ntmps8
      go_wp2
      go_ret2
      exact ⟨rfl, rfl⟩
    · refine two_of (x := 0) (y := 0) ?_ (by unfold doV; rw [if_neg h12, if_pos rfl, if_neg hz]) (twoE_no (by omega)).symm
      unfold Two
      have hd := beq_no hz
      go_enter Try.func8, Try.ntmps8
      go_wp2
      go_ret2
      exact ⟨rfl, rfl⟩
  · refine two_of (x := twoV op a b) (y := twoE op b) ?_ (by unfold doV; rw [if_neg h12, if_neg h10]) rfl
    have C := Lib.hid (specTwo_any op a b w (by omega) h0 h1)
    have e1 : (op == 1) = false := beq_no (by omega)
    have e2 : (op == 2) = false := beq_no (by omega)
    have e3 : (op == 10) = false := beq_no (by omega)
    unfold Two at *
    generalize twoV op a b = x at *
    generalize twoE op b = y at *
    clear h12 h10 ho
    go_enter Try.func8, Try.ntmps8
    go_wp2_with fail
    (with_reducible refine Calls.mono C.out ?_)
    rintro ee w1 ⟨rfl, rfl⟩
    go_wp2_with fail
    go_ret2
    exact ⟨rfl, rfl⟩
end Go.Proofs.Ytomhomnibikceaa
