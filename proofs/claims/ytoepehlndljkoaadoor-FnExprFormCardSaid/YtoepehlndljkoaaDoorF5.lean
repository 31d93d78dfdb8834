/-
  Texts of expressions: the model's text is that of the words.
-/
import Derived.Test.YtoepehlndljkoaaDoorF4
import Derived.Test.YtoepehlndljkoaaDoorETJ
import Derived.Laws.BytesArg
import Derived.Laws.IdiomStrings
namespace Go.Proofs.YtoepehlndljkoaaDoor
open Go.RowKit
set_option maxRecDepth 100000

set_option maxHeartbeats 1000000 in
theorem l2Level_any (op : Int) (w : World) :
    Calls Tryd.prog 28 #[.int .i64 op] w fun e w' => e = .returned (.int .i64 (lvl op : Int)) ∧ w = w' := by
  by_cases h : 3 ≤ op ∧ op ≤ 12
  · have : op = 3 ∨ op = 4 ∨ op = 5 ∨ op = 6 ∨ op = 7 ∨ op = 8 ∨ op = 9 ∨ op = 10 ∨ op = 11 ∨ op = 12 := by omega
    rcases this with rfl | rfl | rfl | rfl | rfl | rfl | rfl | rfl | rfl | rfl
    all_goals
      clear h
      go_enter Tryd.func28, Tryd.ntmps28
      go_wp2
      go_ret
      exact ⟨rfl, rfl⟩
  · have e1 : lvl op = 6 := by unfold lvl; rw [if_neg (by omega), if_neg (by omega), if_neg (by omega), if_neg (by omega), if_neg (by omega)]
    rw [e1]
    have b3 : (op == 3) = false := beq_no (by omega)
    have b4 : (op == 4) = false := beq_no (by omega)
    have b5 : (op == 5) = false := beq_no (by omega)
    have b6 : (op == 6) = false := beq_no (by omega)
    have b7 : (op == 7) = false := beq_no (by omega)
    have b8 : (op == 8) = false := beq_no (by omega)
    have b9 : (op == 9) = false := beq_no (by omega)
    have b10 : (op == 10) = false := beq_no (by omega)
    have b11 : (op == 11) = false := beq_no (by omega)
    have b12 : (op == 12) = false := beq_no (by omega)
    clear h e1
    go_enter Tryd.func28, Tryd.ntmps28
    go_wp2
    go_ret
    exact ⟨rfl, rfl⟩
set_option maxHeartbeats 1000000 in
theorem l2Sign_any (op : Int) (w : World) (h : 3 ≤ op ∧ op ≤ 12) :
    Calls Tryd.prog 30 #[.int .i64 op] w fun e w' => e = .returned (.string (sgnS op)) ∧ w = w' := by
  have hi := inB_yes (lo := 3) (x := op) (hi := 12) h
  have : op = 3 ∨ op = 4 ∨ op = 5 ∨ op = 6 ∨ op = 7 ∨ op = 8 ∨ op = 9 ∨ op = 10 ∨ op = 11 ∨ op = 12 := by omega
  clear h
  rcases this with rfl | rfl | rfl | rfl | rfl | rfl | rfl | rfl | rfl | rfl
  all_goals
    replace hi := Lib.hid hi
    go_enter Tryd.func30, Tryd.ntmps30
    go_wp2_with fail
    refine Calls.mono (l1In_b _ _ _ _) ?_
    rintro ee w1 ⟨rfl, rfl⟩
    rw [hi.out]
    go_wp2
    go_ret
    exact ⟨rfl, rfl⟩

theorem byte_cell (W : World) (x : Int) : (convert 34 9 (.slice (some ⟨W.heap.size, 0, none⟩) 1 1)).run Tryd.prog (W.alloc (.cells #[.int .u8 x] 5 (0, 0))) = .ok (.string ⟨#[UInt8.ofNat x.toNat]⟩) (W.alloc (.cells #[.int .u8 x] 5 (0, 0))) := conv_one W x
/-- Behind some rounds: the digits that are written stand behind those of what is left. -/
def decRel (n k : Nat) (out : ByteArray) : Prop := Lib.decDigits n = Lib.decDigits k ++ out.data.toList
theorem decRel_succ {n k : Nat} {out : ByteArray} (h : decRel n k out) (hk : 9 < k) : decRel n (k / 10) ((⟨#[UInt8.ofNat (48 + k % 10)]⟩ : ByteArray) ++ out) := by
  unfold decRel at h ⊢
  rw [h, decDigits_step (by omega : 0 < k), if_neg (by omega)]
  simp
theorem decRel_end {n k : Nat} {out : ByteArray} (h : decRel n k out) (hk : k ≤ 9) : decS n = (⟨#[UInt8.ofNat (48 + k)]⟩ : ByteArray) ++ out := by
  unfold decRel at h
  unfold decS
  rw [h, Lib.decDigits_one (show k < 10 by omega)]
  have : out = ⟨out.data.toList.toArray⟩ := by cases out; simp
  rw [this]
  rw [show (⟨#[UInt8.ofNat (48 + k)]⟩ : ByteArray) = ByteArray.mk [UInt8.ofNat (48 + k)].toArray from rfl, ByteArray.mk_append_mk]
set_option maxHeartbeats 1000000 in
theorem l30Dec_exact (n : Nat) (w : World) (hn : n ≤ 10000) :
    Calls Tryd.prog 29 #[.int .i64 (n : Int)] w fun e w' => e = .returned (.string (decS n)) ∧ Below w.heap.size w w' := by
  go_enter Tryd.func29, Tryd.ntmps29
  go_wp2
  go_loopw [0, 3] (fun i o wr => ∃ (k : Nat) (out : ByteArray), i = .int .i64 k ∧ o = .string out ∧ k + out.size ≤ n ∧ decRel n k out ∧ Below w.heap.size w wr) (fun i _ _ => (intOf i).toNat)
  case atStart => exact ⟨n, ⟨#[]⟩, rfl, rfl, Nat.le_refl _, by unfold decRel; simp, Below.refl _ _⟩
  case round =>
    obtain ⟨k, out, rfl, rfl, hk, hrel, hb⟩ := hrel
    have HR := Lib.hid hrel
    clear hrel
    by_cases h0 : 9 < k
    · have hcv := byte_cell wr (48 + (k : Int) % 10)
      have hx : ((48 + (k : Int) % 10).toNat) = 48 + k % 10 := by omega
      rw [hx] at hcv
      clear hx
      have HS := Lib.hid (decRel_succ HR.out h0)
      have hlen : ((⟨#[UInt8.ofNat (48 + k % 10)]⟩ : ByteArray)).size = 1 := rfl
      generalize hdd : (⟨#[UInt8.ofNat (48 + k % 10)]⟩ : ByteArray) = dd at *
      clear hdd
      have hd1 : dd.size ≤ 1 := by omega
      have HL := Lib.hid hlen
      clear hlen
      have hb2 := hb.alloc hb.size (.cells #[.int .u8 (48 + (k : Int) % 10)] 5)
      clear hb
      go_wp2
      go_roundw
      case rel => exact ⟨k / 10, _, by go_num, rfl, by rw [ByteArray.size_append]; have := HL.out; omega, HS.out, hb2⟩
      case measure => simp only [intOf]; omega
    · have hcv := byte_cell wr (48 + (k : Int))
      have hx : ((48 + (k : Int)).toNat) = 48 + k := by omega
      rw [hx] at hcv
      clear hx
      have HS := Lib.hid (decRel_end HR.out (by omega))
      have hlen : ((⟨#[UInt8.ofNat (48 + k)]⟩ : ByteArray)).size = 1 := rfl
      generalize hdd : (⟨#[UInt8.ofNat (48 + k)]⟩ : ByteArray) = dd at *
      clear hdd
      have hd1 : dd.size ≤ 1 := by omega
      have HL := Lib.hid hlen
      clear hlen
      have hb2 := hb.alloc hb.size (.cells #[.int .u8 (48 + (k : Int))] 5)
      clear hb
      go_wp2
      go_ret
      exact ⟨by rw [HS.out]; rfl, hb2⟩
end Go.Proofs.YtoepehlndljkoaaDoor
