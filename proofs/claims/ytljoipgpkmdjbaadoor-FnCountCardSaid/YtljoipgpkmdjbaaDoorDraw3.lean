/-
  The drawing kit, third part: l30Many, l30Dec (how long they are).
-/
import Derived.Test.YtljoipgpkmdjbaaDoorDraw2
import Derived.Laws.IdiomStrings
namespace Go.Proofs.YtljoipgpkmdjbaaDoor
open Go.RowKit
set_option maxRecDepth 100000

theorem many_step (x k h o M : Nat) (e : k = 2 * h + 1) (hm : o + x * k ≤ M) : (o + x) + (x + x) * h ≤ M ∧ o + x ≤ M ∧ x ≤ M := by
  subst e
  have e1 : x * (2 * h + 1) = x * h + x * h + x := by rw [Nat.mul_add, Nat.mul_one, Nat.two_mul, Nat.mul_add]
  have e2 : (x + x) * h = x * h + x * h := Nat.add_mul _ _ _
  generalize x * h = y at *
  omega
theorem many_even (x k h o M : Nat) (e : k = 2 * h) (hp : 0 < k) (hm : o + x * k ≤ M) : o + (x + x) * h ≤ M ∧ x ≤ M := by
  subst e
  have e1 : x * (2 * h) = x * h + x * h := by rw [Nat.two_mul, Nat.mul_add]
  have e2 : (x + x) * h = x * h + x * h := Nat.add_mul _ _ _
  have e3 : x ≤ x * h := Nat.le_mul_of_pos_right x (by omega)
  generalize x * h = y at *
  omega


/-- 'string([]byte{x})'. -/
theorem one_byte (W : World) (x : Int) : (convert 22 9 (.slice (some ⟨W.heap.size, 0, none⟩) 1 1)).run Tryd.prog (W.alloc (.cells #[.int .u8 x] 5 (0, 0))) = .ok (.string (ByteArray.empty.push (UInt8.ofNat x.toNat))) (W.alloc (.cells #[.int .u8 x] 5 (0, 0))) := by
  have hl := run_loadCells_list (P := Tryd.prog) (W.alloc (.cells #[.int .u8 x] 5 (0, 0))) ⟨W.heap.size, 0, none⟩ [.int .u8 x] (fun j v hj => by
    cases j with
    | zero => exact lit_cell W [.int .u8 x] 5 (0, 0) 0 v hj
    | succ j => simp at hj)
  rw [run_convert_bytes_string _ 22 9 5 _ 1 1 Tryd.underlying22 Tryd.underlying5 Tryd.underlying9]
  exact run_bytesToString _ _ 1 1 [x] hl

set_option maxHeartbeats 1000000 in
theorem l30Dec_any (n : Nat) (w : World) (hn : n ≤ 10000) :
    Calls Tryd.prog 63 #[.int .i64 (n : Int)] w fun e w' => ∃ t : ByteArray, t.size ≤ n + 1 ∧ e = .returned (.string t) ∧ Below w.heap.size w w' := by
  have OB := one_byte
  go_enter Tryd.func63, Tryd.ntmps63
  go_wp2
  go_loopw [0, 3] (fun i o wr => ∃ (k : Nat) (out : ByteArray), i = .int .i64 k ∧ o = .string out ∧ k + out.size ≤ n ∧ Below w.heap.size w wr) (fun i _ _ => (intOf i).toNat)
  case atStart => exact ⟨n, ⟨#[]⟩, rfl, rfl, Nat.le_refl _, Below.refl _ _⟩
  case round =>
    obtain ⟨k, out, rfl, rfl, hk, hb⟩ := hrel
    have ob := fun x => OB wr x
    clear OB
    by_cases h0 : 9 < k
    · go_wp2
      go_roundw
      case rel => exact ⟨k / 10, _, by go_num, rfl, by rw [ByteArray.size_append]; show _ + (1 + _) ≤ _; omega, hb.alloc hb.size _⟩
      case measure => simp only [intOf]; omega
    · go_wp2
      go_ret
      exact ⟨_, by rw [ByteArray.size_append]; show 1 + _ ≤ _; omega, rfl, hb.alloc hb.size _⟩
end Go.Proofs.YtljoipgpkmdjbaaDoor
