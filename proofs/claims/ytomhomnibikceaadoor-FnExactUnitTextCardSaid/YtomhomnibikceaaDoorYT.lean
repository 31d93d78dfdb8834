/-
  Texts as lists of bytes, and the model's numerals of all numbers.
-/
import Derived.Test.YtomhomnibikceaaDoorMark
import Derived.Lib.ItoaNum
namespace Go.Proofs.YtomhomnibikceaaDoor
open Go.RowKit
set_option maxRecDepth 100000

/-- Bytes as a text. -/
def tx (l : List UInt8) : ByteArray := ⟨l.toArray⟩
theorem tx_app (a b : List UInt8) : tx a ++ tx b = tx (a ++ b) := by
  unfold tx
  rw [ByteArray.mk_append_mk]
theorem tx_size (a : List UInt8) : (tx a).size = a.length := by
  show a.toArray.size = _
  simp
theorem nDigits_le : ∀ (k u : Nat), u < 10 ^ (k + 1) → Lib.nDigits u ≤ k + 1
  | 0, u, h => by rw [Lib.nDigits_small (by omega)]; omega
  | k + 1, u, h => by
    rw [Lib.nDigits]
    split
    · omega
    · have := nDigits_le k (u / 10) (by rw [Nat.pow_succ] at h; omega)
      omega
theorem decDigits_le {u : Nat} (h : u < 10000000000000000000) : (Lib.decDigits u).length ≤ 19 := by
  rw [Lib.decDigits_length]
  exact nDigits_le 18 u (by omega)
theorem itoa_le {n : Int} (h0 : -9223372036854775808 ≤ n) (h1 : n ≤ 9223372036854775807) : (Lib.itoa n).length ≤ 20 := by
  unfold Lib.itoa
  split
  · have := decDigits_le (u := n.natAbs) (by omega)
    simp only [List.length_cons]; omega
  · have := decDigits_le (u := n.toNat) (by omega)
    omega
-- the model's numerals
theorem byte_one (W : World) (x : Int) : (convert 65 9 (.slice (some ⟨W.heap.size, 0, none⟩) 1 1)).run Tryd.prog (W.alloc (.cells #[.int .u8 x] 5 (0, 0))) = .ok (.string ⟨#[UInt8.ofNat x.toNat]⟩) (W.alloc (.cells #[.int .u8 x] 5 (0, 0))) := conv_one W x
/-- Behind some rounds: the digits that are written stand behind those of what is left. -/
def dcRel (n k : Nat) (out : List UInt8) : Prop := Lib.decDigits n = Lib.decDigits k ++ out
theorem dcRel_succ {n k : Nat} {out : List UInt8} (h : dcRel n k out) (hk : 9 < k) : dcRel n (k / 10) (UInt8.ofNat (48 + k % 10) :: out) := by
  unfold dcRel at h ⊢
  rw [h, decDigits_step (by omega : 0 < k), if_neg (by omega)]
  simp
theorem dcRel_end {n k : Nat} {out : List UInt8} (h : dcRel n k out) (hk : k ≤ 9) : Lib.decDigits n = UInt8.ofNat (48 + k) :: out := by
  unfold dcRel at h
  rw [h, Lib.decDigits_one (show k < 10 by omega)]
  rfl
theorem dcRel_len {n k : Nat} {out : List UInt8} (h : dcRel n k out) (hn : n < 10000000000000000000) : out.length ≤ 18 := by
  unfold dcRel at h
  have h1 := decDigits_le hn
  rw [h, List.length_append] at h1
  have h2 : 1 ≤ (Lib.decDigits k).length := by
    rw [Lib.decDigits_length, Lib.nDigits]
    split <;> omega
  omega
theorem tx_cons (d : UInt8) (l : List UInt8) : (⟨#[d]⟩ : ByteArray) ++ tx l = tx (d :: l) := tx_app [d] l
set_option maxHeartbeats 1000000 in
theorem l30Dec_nat (n : Nat) (w : World) (hn : n ≤ 9223372036854775807) :
    Calls Tryd.prog 31 #[.int .i64 (n : Int)] w fun e w' => e = .returned (.string (tx (Lib.decDigits n))) ∧ Below w.heap.size w w' := by
  go_enter Tryd.func31, Tryd.ntmps31
  go_wp2
  go_loopw [0, 3] (fun i o wr => ∃ (k : Nat) (out : List UInt8), i = .int .i64 k ∧ o = .string (tx out) ∧ k ≤ n ∧ dcRel n k out ∧ Below w.heap.size w wr) (fun i _ _ => (intOf i).toNat)
  case atStart => exact ⟨n, [], rfl, rfl, Nat.le_refl _, by unfold dcRel; simp, Below.refl _ _⟩
  case round =>
    obtain ⟨k, out, rfl, rfl, hk, hrel, hb⟩ := hrel
    have HR := Lib.hid hrel
    have hsz := dcRel_len hrel (by omega)
    have hts := tx_size out
    clear hrel
    by_cases h0 : 9 < k
    · have hcv := byte_one wr (48 + (k : Int) % 10)
      have hx : ((48 + (k : Int) % 10).toNat) = 48 + k % 10 := by omega
      rw [hx] at hcv
      clear hx
      have HS := Lib.hid (dcRel_succ HR.out h0)
      have HT := Lib.hid (tx_cons (UInt8.ofNat (48 + k % 10)) out)
      have hlen : ((⟨#[UInt8.ofNat (48 + k % 10)]⟩ : ByteArray)).size = 1 := rfl
      generalize hdd : (⟨#[UInt8.ofNat (48 + k % 10)]⟩ : ByteArray) = dd at *
      clear hdd
      have hd1 : dd.size ≤ 1 := by omega
      generalize tx out = to at *
      have ht1 : to.size ≤ 18 := by omega
      clear hlen hts
      have hb2 := hb.alloc hb.size (.cells #[.int .u8 (48 + (k : Int) % 10)] 5)
      clear hb
      go_wp2
      go_roundw
      case rel => exact ⟨k / 10, _, by go_num, by rw [HT.out], by omega, HS.out, hb2⟩
      case measure => simp only [intOf]; omega
    · have hcv := byte_one wr (48 + (k : Int))
      have hx : ((48 + (k : Int)).toNat) = 48 + k := by omega
      rw [hx] at hcv
      clear hx
      have HS := Lib.hid (dcRel_end HR.out (by omega))
      have HT := Lib.hid (tx_cons (UInt8.ofNat (48 + k)) out)
      have hlen : ((⟨#[UInt8.ofNat (48 + k)]⟩ : ByteArray)).size = 1 := rfl
      generalize hdd : (⟨#[UInt8.ofNat (48 + k)]⟩ : ByteArray) = dd at *
      clear hdd
      have hd1 : dd.size ≤ 1 := by omega
      generalize tx out = to at *
      have ht1 : to.size ≤ 18 := by omega
      clear hlen hts
      have hb2 := hb.alloc hb.size (.cells #[.int .u8 (48 + (k : Int))] 5)
      clear hb
      go_wp2
      go_ret
      exact ⟨by rw [HS.out, ← HT.out]; rfl, hb2⟩
set_option maxHeartbeats 1000000 in
theorem l30Dec_any64 (n : Int) (w : World) (h0 : -9223372036854775808 ≤ n) (h1 : n ≤ 9223372036854775807) :
    Calls Tryd.prog 31 #[.int .i64 n] w fun e w' => e = .returned (.string (tx (Lib.itoa n))) ∧ Below w.heap.size w w' := by
  by_cases hn : n < 0
  · have hi : Lib.itoa n = 45 :: Lib.decDigits n.natAbs := by unfold Lib.itoa; rw [if_pos hn]
    rw [hi]
    by_cases hm : n < -9223372036854775807
    · have e : n = -9223372036854775808 := by omega
      subst e
      have hv : tx (45 :: Lib.decDigits (-9223372036854775808 : Int).natAbs) = ⟨#[45, 57, 50, 50, 51, 51, 55, 50, 48, 51, 54, 56, 53, 52, 55, 55, 53, 56, 48, 56]⟩ := by decide +kernel
      rw [hv]
      go_enter Tryd.func31, Tryd.ntmps31
      go_wp2
      go_ret
      exact ⟨rfl, Below.refl _ _⟩
    · have L := l30Dec_nat n.natAbs w (by omega)
      have e : ((n.natAbs : Nat) : Int) = -n := by omega
      rw [e] at L
      have HT := Lib.hid (tx_cons 45 (Lib.decDigits n.natAbs))
      have hd := decDigits_le (u := n.natAbs) (by omega)
      have hts := tx_size (Lib.decDigits n.natAbs)
      rw [← HT.out]
      generalize tx (Lib.decDigits n.natAbs) = to at *
      have ht1 : to.size ≤ 19 := by omega
      have L := Lib.hid L
      clear hd hts hi e HT
      go_enter Tryd.func31, Tryd.ntmps31
      go_wp2_with fail
      (with_reducible refine Calls.mono L.out ?_)
      rintro ee w1 ⟨rfl, hb1⟩
      go_wp2_with fail
      go_ret
      exact ⟨rfl, hb1⟩
  · have L := l30Dec_nat n.toNat w (by omega)
    have e : ((n.toNat : Nat) : Int) = n := by omega
    rw [e] at L
    have hi : Lib.itoa n = Lib.decDigits n.toNat := by unfold Lib.itoa; rw [if_neg hn]
    rw [hi]
    exact L
def TxRet (l : List UInt8) (w : World) (ee : Ending) (w' : World) : Prop := ee = .returned (.string (tx l)) ∧ Below w.heap.size w w'
end Go.Proofs.YtomhomnibikceaaDoor
