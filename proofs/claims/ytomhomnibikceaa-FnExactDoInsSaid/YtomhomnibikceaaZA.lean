/-
  What an instruction makes of two numbers, and how it ends: of the program and of the model.
-/
import Derived.Test.YtomhomnibikceaaB0
namespace Go.Proofs.Ytomhomnibikceaa
open Go.RowKit
set_option maxRecDepth 100000

/-- What an op from add to same makes of two values; 0 where something is divided by 0. -/
def twoV (op a b : Int) : Int := if op = 3 then (a + b) % 256 else if op = 4 then (a - b) % 256 else if op = 5 then a * b % 256 else if op = 8 then (if a < b then 1 else 0) else if op = 9 then (if a = b then 1 else 0) else if b = 0 then 0 else if op = 6 then a / b else a % b
def twoE (op b : Int) : Int := if (op = 6 ∨ op = 7) ∧ b = 0 then 1 else 0
def doV (op a b : Int) : Int := if op = 1 ∨ op = 2 then a else if op = 10 then (if a = 0 then 1 else 0) else twoV op a b
/-- Two numbers are returned, of two kinds. -/
def Two (k : IntKind) (x y : Int) (w : World) (e : Ending) (w' : World) : Prop := e = .returned (.tuple #[.int k x, .int .i64 y]) ∧ w = w'
theorem mul_byte {a b : Int} (h0 : 0 ≤ a ∧ a ≤ 255) (h1 : 0 ≤ b ∧ b ≤ 255) : 0 ≤ a * b ∧ a * b ≤ 65025 := by
  refine ⟨Int.mul_nonneg h0.1 h1.1, ?_⟩
  have : a * b ≤ 255 * 255 := Int.mul_le_mul h0.2 h1.2 h1.1 (by decide)
  omega
set_option maxHeartbeats 400000 in
theorem iAdd (a b : Int) (w : World) (h0 : 0 ≤ a ∧ a ≤ 255) (h1 : 0 ≤ b ∧ b ≤ 255) :
    Calls Try.prog 14 #[.int .i64 3, .int .u8 a, .int .u8 b] w (Two .u8 ((a + b) % 256) 0 w) := by
  unfold Two
  go_enter Try.func14, Try.ntmps14
  rcases Bool.eq_false_or_eq_true (b == 0) with hb | hb
  all_goals go_wp2
  all_goals go_ret2
  all_goals exact ⟨rfl, rfl⟩
set_option maxHeartbeats 400000 in
theorem iSub (a b : Int) (w : World) (h0 : 0 ≤ a ∧ a ≤ 255) (h1 : 0 ≤ b ∧ b ≤ 255) :
    Calls Try.prog 14 #[.int .i64 4, .int .u8 a, .int .u8 b] w (Two .u8 ((a - b) % 256) 0 w) := by
  unfold Two
  go_enter Try.func14, Try.ntmps14
  rcases Bool.eq_false_or_eq_true (b == 0) with hb | hb
  all_goals go_wp2
  all_goals go_ret2
  all_goals exact ⟨rfl, rfl⟩
set_option maxHeartbeats 400000 in
theorem iMul (a b : Int) (w : World) (h0 : 0 ≤ a ∧ a ≤ 255) (h1 : 0 ≤ b ∧ b ≤ 255) :
    Calls Try.prog 14 #[.int .i64 5, .int .u8 a, .int .u8 b] w (Two .u8 (a * b % 256) 0 w) := by
  unfold Two
  have hm := mul_byte h0 h1
  go_enter Try.func14, Try.ntmps14
  rcases Bool.eq_false_or_eq_true (b == 0) with hb | hb
  all_goals go_wp2
  all_goals go_ret2
  all_goals exact ⟨rfl, rfl⟩
set_option maxHeartbeats 400000 in
theorem iDiv0 (a b : Int) (w : World) (h0 : 0 ≤ a ∧ a ≤ 255) (h1 : 0 ≤ b ∧ b ≤ 255) (hz : b = 0) :
    Calls Try.prog 14 #[.int .i64 6, .int .u8 a, .int .u8 b] w (Two .u8 0 1 w) := by
  unfold Two
  have hb : (b == 0) = true := beq_yes hz
  subst hz
  go_enter Try.func14, Try.ntmps14
  go_wp2
  all_goals go_ret2
  all_goals exact ⟨rfl, rfl⟩
set_option maxHeartbeats 400000 in
theorem iDiv (a b : Int) (w : World) (h0 : 0 ≤ a ∧ a ≤ 255) (h1 : 0 ≤ b ∧ b ≤ 255) (hz : b ≠ 0) :
    Calls Try.prog 14 #[.int .i64 6, .int .u8 a, .int .u8 b] w (Two .u8 (a / b) 0 w) := by
  unfold Two
  have hb : (b == 0) = false := beq_no hz
  go_enter Try.func14, Try.ntmps14
  go_wp2
  all_goals go_ret2
  all_goals exact ⟨rfl, rfl⟩
set_option maxHeartbeats 400000 in
theorem iRem0 (a b : Int) (w : World) (h0 : 0 ≤ a ∧ a ≤ 255) (h1 : 0 ≤ b ∧ b ≤ 255) (hz : b = 0) :
    Calls Try.prog 14 #[.int .i64 7, .int .u8 a, .int .u8 b] w (Two .u8 0 1 w) := by
  unfold Two
  have hb : (b == 0) = true := beq_yes hz
  subst hz
  go_enter Try.func14, Try.ntmps14
  go_wp2
  all_goals go_ret2
  all_goals exact ⟨rfl, rfl⟩
set_option maxHeartbeats 400000 in
theorem iRem (a b : Int) (w : World) (h0 : 0 ≤ a ∧ a ≤ 255) (h1 : 0 ≤ b ∧ b ≤ 255) (hz : b ≠ 0) :
    Calls Try.prog 14 #[.int .i64 7, .int .u8 a, .int .u8 b] w (Two .u8 (a % b) 0 w) := by
  unfold Two
  have hb : (b == 0) = false := beq_no hz
  go_enter Try.func14, Try.ntmps14
  go_wp2
  all_goals go_ret2
  all_goals exact ⟨rfl, rfl⟩
set_option maxHeartbeats 400000 in
theorem iLess1 (a b : Int) (w : World) (h0 : 0 ≤ a ∧ a ≤ 255) (h1 : 0 ≤ b ∧ b ≤ 255) (hl : a < b) :
    Calls Try.prog 14 #[.int .i64 8, .int .u8 a, .int .u8 b] w (Two .u8 1 0 w) := by
  unfold Two
  have hd : decide (a < b) = true := decide_eq_true hl
  go_enter Try.func14, Try.ntmps14
  rcases Bool.eq_false_or_eq_true (b == 0) with hb | hb
  all_goals go_wp2
  all_goals go_ret2
  all_goals exact ⟨rfl, rfl⟩
set_option maxHeartbeats 400000 in
theorem iLess0 (a b : Int) (w : World) (h0 : 0 ≤ a ∧ a ≤ 255) (h1 : 0 ≤ b ∧ b ≤ 255) (hl : ¬ a < b) :
    Calls Try.prog 14 #[.int .i64 8, .int .u8 a, .int .u8 b] w (Two .u8 0 0 w) := by
  unfold Two
  have hd : decide (a < b) = false := decide_eq_false hl
  go_enter Try.func14, Try.ntmps14
  rcases Bool.eq_false_or_eq_true (b == 0) with hb | hb
  all_goals go_wp2
  all_goals go_ret2
  all_goals exact ⟨rfl, rfl⟩
set_option maxHeartbeats 400000 in
theorem iSame1 (a b : Int) (w : World) (h0 : 0 ≤ a ∧ a ≤ 255) (h1 : 0 ≤ b ∧ b ≤ 255) (hl : a = b) :
    Calls Try.prog 14 #[.int .i64 9, .int .u8 a, .int .u8 b] w (Two .u8 1 0 w) := by
  unfold Two
  have hd : (a == b) = true := beq_yes hl
  clear hl
  go_enter Try.func14, Try.ntmps14
  rcases Bool.eq_false_or_eq_true (b == 0) with hb | hb
  all_goals go_wp2
  all_goals go_ret2
  all_goals exact ⟨rfl, rfl⟩
set_option maxHeartbeats 400000 in
theorem iSame0 (a b : Int) (w : World) (h0 : 0 ≤ a ∧ a ≤ 255) (h1 : 0 ≤ b ∧ b ≤ 255) (hl : a ≠ b) :
    Calls Try.prog 14 #[.int .i64 9, .int .u8 a, .int .u8 b] w (Two .u8 0 0 w) := by
  unfold Two
  have hd : (a == b) = false := beq_no hl
  clear hl
  go_enter Try.func14, Try.ntmps14
  rcases Bool.eq_false_or_eq_true (b == 0) with hb | hb
  all_goals go_wp2
  all_goals go_ret2
  all_goals exact ⟨rfl, rfl⟩
set_option maxHeartbeats 400000 in
theorem sAdd (a b : Int) (w : World) (h0 : 0 ≤ a ∧ a ≤ 255) (h1 : 0 ≤ b ∧ b ≤ 255) :
    Calls Try.prog 12 #[.int .i64 3, .int .i64 a, .int .i64 b] w (Two .i64 ((a + b) % 256) 0 w) := by
  unfold Two
  go_enter Try.func12, Try.ntmps12
  go_wp2
  all_goals go_ret2
  all_goals exact ⟨rfl, rfl⟩
set_option maxHeartbeats 400000 in
theorem sSub (a b : Int) (w : World) (h0 : 0 ≤ a ∧ a ≤ 255) (h1 : 0 ≤ b ∧ b ≤ 255) :
    Calls Try.prog 12 #[.int .i64 4, .int .i64 a, .int .i64 b] w (Two .i64 ((a - b) % 256) 0 w) := by
  unfold Two
  go_enter Try.func12, Try.ntmps12
  go_wp2
  all_goals go_ret2
  all_goals exact ⟨by congr 3; simp <;> omega, rfl⟩
set_option maxHeartbeats 400000 in
theorem sMul (a b : Int) (w : World) (h0 : 0 ≤ a ∧ a ≤ 255) (h1 : 0 ≤ b ∧ b ≤ 255) :
    Calls Try.prog 12 #[.int .i64 5, .int .i64 a, .int .i64 b] w (Two .i64 (a * b % 256) 0 w) := by
  unfold Two
  have hm := mul_byte h0 h1
  go_enter Try.func12, Try.ntmps12
  go_wp2
  all_goals go_ret2
  all_goals exact ⟨rfl, rfl⟩
set_option maxHeartbeats 400000 in
theorem sDiv0 (a b : Int) (w : World) (h0 : 0 ≤ a ∧ a ≤ 255) (h1 : 0 ≤ b ∧ b ≤ 255) (hz : b = 0) :
    Calls Try.prog 12 #[.int .i64 6, .int .i64 a, .int .i64 b] w (Two .i64 0 1 w) := by
  unfold Two
  have hb : (b == 0) = true := beq_yes hz
  subst hz
  go_enter Try.func12, Try.ntmps12
  go_wp2
  all_goals go_ret2
  all_goals exact ⟨rfl, rfl⟩
set_option maxHeartbeats 400000 in
theorem sDiv (a b : Int) (w : World) (h0 : 0 ≤ a ∧ a ≤ 255) (h1 : 0 ≤ b ∧ b ≤ 255) (hz : b ≠ 0) :
    Calls Try.prog 12 #[.int .i64 6, .int .i64 a, .int .i64 b] w (Two .i64 (a / b) 0 w) := by
  unfold Two
  have hb : (b == 0) = false := beq_no hz
  go_enter Try.func12, Try.ntmps12
  go_wp2
  all_goals go_ret2
  all_goals exact ⟨rfl, rfl⟩
set_option maxHeartbeats 400000 in
theorem sRem0 (a b : Int) (w : World) (h0 : 0 ≤ a ∧ a ≤ 255) (h1 : 0 ≤ b ∧ b ≤ 255) (hz : b = 0) :
    Calls Try.prog 12 #[.int .i64 7, .int .i64 a, .int .i64 b] w (Two .i64 0 1 w) := by
  unfold Two
  have hb : (b == 0) = true := beq_yes hz
  subst hz
  go_enter Try.func12, Try.ntmps12
  go_wp2
  all_goals go_ret2
  all_goals exact ⟨rfl, rfl⟩
set_option maxHeartbeats 400000 in
theorem sRem (a b : Int) (w : World) (h0 : 0 ≤ a ∧ a ≤ 255) (h1 : 0 ≤ b ∧ b ≤ 255) (hz : b ≠ 0) :
    Calls Try.prog 12 #[.int .i64 7, .int .i64 a, .int .i64 b] w (Two .i64 (a % b) 0 w) := by
  unfold Two
  have hb : (b == 0) = false := beq_no hz
  go_enter Try.func12, Try.ntmps12
  go_wp2
  all_goals go_ret2
  all_goals exact ⟨rfl, rfl⟩
set_option maxHeartbeats 400000 in
theorem sLess1 (a b : Int) (w : World) (h0 : 0 ≤ a ∧ a ≤ 255) (h1 : 0 ≤ b ∧ b ≤ 255) (hl : a < b) :
    Calls Try.prog 12 #[.int .i64 8, .int .i64 a, .int .i64 b] w (Two .i64 1 0 w) := by
  unfold Two
  have hd : decide (a < b) = true := decide_eq_true hl
  go_enter Try.func12, Try.ntmps12
  go_wp2
  all_goals go_ret2
  all_goals exact ⟨rfl, rfl⟩
set_option maxHeartbeats 400000 in
theorem sLess0 (a b : Int) (w : World) (h0 : 0 ≤ a ∧ a ≤ 255) (h1 : 0 ≤ b ∧ b ≤ 255) (hl : ¬ a < b) :
    Calls Try.prog 12 #[.int .i64 8, .int .i64 a, .int .i64 b] w (Two .i64 0 0 w) := by
  unfold Two
  have hd : decide (a < b) = false := decide_eq_false hl
  go_enter Try.func12, Try.ntmps12
  go_wp2
  all_goals go_ret2
  all_goals exact ⟨rfl, rfl⟩
set_option maxHeartbeats 400000 in
theorem sSame1 (a b : Int) (w : World) (h0 : 0 ≤ a ∧ a ≤ 255) (h1 : 0 ≤ b ∧ b ≤ 255) (hl : a = b) :
    Calls Try.prog 12 #[.int .i64 9, .int .i64 a, .int .i64 b] w (Two .i64 1 0 w) := by
  unfold Two
  have hd : (a == b) = true := beq_yes hl
  clear hl
  go_enter Try.func12, Try.ntmps12
  go_wp2
  all_goals go_ret2
  all_goals exact ⟨rfl, rfl⟩
set_option maxHeartbeats 400000 in
theorem sSame0 (a b : Int) (w : World) (h0 : 0 ≤ a ∧ a ≤ 255) (h1 : 0 ≤ b ∧ b ≤ 255) (hl : a ≠ b) :
    Calls Try.prog 12 #[.int .i64 9, .int .i64 a, .int .i64 b] w (Two .i64 0 0 w) := by
  unfold Two
  have hd : (a == b) = false := beq_no hl
  clear hl
  go_enter Try.func12, Try.ntmps12
  go_wp2
  all_goals go_ret2
  all_goals exact ⟨rfl, rfl⟩
end Go.Proofs.Ytomhomnibikceaa
