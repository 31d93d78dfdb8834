/-
  Texts of outcomes: the mathematics, and the model's numerals of all numbers.
-/
import Derived.Test.YtkhcfhhejmkikaaDoorOB
import Derived.Test.YtkhcfhhejmkikaaDoorMark
import Derived.Lib.ItoaNum
namespace Go.Proofs.YtkhcfhhejmkikaaDoor
open Go.RowKit
set_option maxRecDepth 100000

/-- Bytes as a text. -/
def tx (l : List UInt8) : ByteArray := ⟨l.toArray⟩
theorem tx_app (a b : List UInt8) : tx a ++ tx b = tx (a ++ b) := by
  unfold tx
  rw [ByteArray.mk_append_mk]
theorem tx_size (a : List UInt8) : (tx a).size = a.length := by
  show a.toArray.size = _
  simp
/-- What is said, each number with a space behind. -/
def saidT : List Int → List UInt8
  | [] => []
  | x :: xs => Lib.itoa x ++ 32 :: saidT xs
theorem saidT_app : ∀ (xs ys : List Int), saidT (xs ++ ys) = saidT xs ++ saidT ys
  | [], _ => rfl
  | x :: xs, ys => by show Lib.itoa x ++ 32 :: saidT (xs ++ ys) = (Lib.itoa x ++ 32 :: saidT xs) ++ saidT ys; rw [saidT_app xs ys]; simp
/-- How it ends. -/
def endT (en v : Int) : List UInt8 :=
  if en = 0 then [98, 97, 99, 107, 32] ++ Lib.itoa v else if en = 1 then [100, 105, 118, 105, 100, 101] else if en = 2 then [99, 101, 108, 108] else if en = 3 then [102, 117, 101, 108] else [119, 104, 97, 116]
/-- Cells that are not 0, from the number i on. -/
def cellsT : Nat → List Int → List UInt8
  | _, [] => []
  | i, c :: cs => (if c = 0 then [] else 32 :: (Lib.itoa (i : Int) ++ 61 :: Lib.itoa c)) ++ cellsT (i + 1) cs
theorem cellsT_snoc : ∀ (cs : List Int) (i : Nat) (c : Int), cellsT i (cs ++ [c]) = cellsT i cs ++ (if c = 0 then [] else 32 :: (Lib.itoa ((i + cs.length : Nat) : Int) ++ 61 :: Lib.itoa c))
  | [], i, c => by simp [cellsT]
  | d :: cs, i, c => by
    show (if d = 0 then [] else _) ++ cellsT (i + 1) (cs ++ [c]) = ((if d = 0 then [] else _) ++ cellsT (i + 1) cs) ++ _
    rw [cellsT_snoc cs (i + 1) c, List.length_cons, List.append_assoc]
    have e : i + 1 + cs.length = i + (cs.length + 1) := by omega
    rw [e]
def outT (o : Oc) : List UInt8 := saidT o.said ++ (endT o.en o.val ++ cellsT 0 o.cells)
theorem nDigits_le : ∀ (k u : Nat), u < 10 ^ (k + 1) → Lib.nDigits u ≤ k + 1
  | 0, u, h => by rw [Lib.nDigits_small (by omega)]; omega
  | k + 1, u, h => by
    rw [Lib.nDigits]
    split
    · omega
    · have := nDigits_le k (u / 10) (by rw [Nat.pow_succ] at h; omega)
      omega
theorem decDigits_le {u : Nat} (h : u < 10000000000000000000) : (Lib.decDigits u).length ≤ 19 := by
  rw [Lib.decDigits_length]
  exact nDigits_le 18 u (by omega)
theorem itoa_le {n : Int} (h0 : -9223372036854775808 ≤ n) (h1 : n ≤ 9223372036854775807) : (Lib.itoa n).length ≤ 20 := by
  unfold Lib.itoa
  split
  · have := decDigits_le (u := n.natAbs) (by omega)
    simp only [List.length_cons]; omega
  · have := decDigits_le (u := n.toNat) (by omega)
    omega
/-- All numbers are such as a machine has. -/
def Mach (xs : List Int) : Prop := ∀ x ∈ xs, -9223372036854775808 ≤ x ∧ x ≤ 9223372036854775807
theorem saidT_le : ∀ (xs : List Int), Mach xs → (saidT xs).length ≤ 21 * xs.length
  | [], _ => by simp [saidT]
  | x :: xs, h => by
    have h1 := itoa_le (h x (by simp)).1 (h x (by simp)).2
    have h2 := saidT_le xs (fun y hy => h y (by simp [hy]))
    show (Lib.itoa x ++ 32 :: saidT xs).length ≤ 21 * (xs.length + 1)
    rw [List.length_append, List.length_cons]
    omega
theorem cellsT_le : ∀ (cs : List Int) (i : Nat), Mach cs → i + cs.length ≤ 9223372036854775807 → (cellsT i cs).length ≤ 42 * cs.length
  | [], _, _, _ => by simp [cellsT]
  | c :: cs, i, h, hi => by
    rw [List.length_cons] at hi
    have h1 := itoa_le (h c (by simp)).1 (h c (by simp)).2
    have h3 := itoa_le (n := (i : Int)) (by omega) (by omega)
    have h2 := cellsT_le cs (i + 1) (fun y hy => h y (by simp [hy])) (by omega)
    show ((if c = 0 then [] else 32 :: (Lib.itoa (i : Int) ++ 61 :: Lib.itoa c)) ++ cellsT (i + 1) cs).length ≤ 42 * (cs.length + 1)
    rw [List.length_append]
    split
    · simp only [List.length_nil]; omega
    · rw [List.length_cons, List.length_append, List.length_cons]; omega
theorem endT_le {en v : Int} (h0 : -9223372036854775808 ≤ v) (h1 : v ≤ 9223372036854775807) : (endT en v).length ≤ 25 := by
  have h := itoa_le h0 h1
  unfold endT
  split
  · rw [List.length_append]; show 5 + _ ≤ _; omega
  · (repeat' split) <;> decide
theorem endT_ne (en v : Int) : endT en v ≠ [] := by
  unfold endT
  (repeat' split) <;> simp
theorem outT_ne (o : Oc) : outT o ≠ [] := by
  unfold outT
  intro h
  have := List.append_eq_nil_iff.1 h
  have := List.append_eq_nil_iff.1 this.2
  exact endT_ne _ _ this.1
-- the model's numerals
theorem byte_one (W : World) (x : Int) : (convert 31 9 (.slice (some ⟨W.heap.size, 0, none⟩) 1 1)).run Tryd.prog (W.alloc (.cells #[.int .u8 x] 5 (0, 0))) = .ok (.string ⟨#[UInt8.ofNat x.toNat]⟩) (W.alloc (.cells #[.int .u8 x] 5 (0, 0))) := conv_one W x
/-- Behind some rounds: the digits that are written stand behind those of what is left. -/
def dcRel (n k : Nat) (out : List UInt8) : Prop := Lib.decDigits n = Lib.decDigits k ++ out
theorem dcRel_succ {n k : Nat} {out : List UInt8} (h : dcRel n k out) (hk : 9 < k) : dcRel n (k / 10) (UInt8.ofNat (48 + k % 10) :: out) := by
  unfold dcRel at h ⊢
  rw [h, decDigits_step (by omega : 0 < k), if_neg (by omega)]
  simp
theorem dcRel_end {n k : Nat} {out : List UInt8} (h : dcRel n k out) (hk : k ≤ 9) : Lib.decDigits n = UInt8.ofNat (48 + k) :: out := by
  unfold dcRel at h
  rw [h, Lib.decDigits_one (show k < 10 by omega)]
  rfl
theorem dcRel_len {n k : Nat} {out : List UInt8} (h : dcRel n k out) (hn : n < 10000000000000000000) : out.length ≤ 18 := by
  unfold dcRel at h
  have h1 := decDigits_le hn
  rw [h, List.length_append] at h1
  have h2 : 1 ≤ (Lib.decDigits k).length := by
    rw [Lib.decDigits_length, Lib.nDigits]
    split <;> omega
  omega
theorem tx_cons (d : UInt8) (l : List UInt8) : (⟨#[d]⟩ : ByteArray) ++ tx l = tx (d :: l) := tx_app [d] l
set_option maxHeartbeats 1000000 in
theorem l30Dec_nat (n : Nat) (w : World) (hn : n ≤ 9223372036854775807) :
    Calls Tryd.prog 25 #[.int .i64 (n : Int)] w fun e w' => e = .returned (.string (tx (Lib.decDigits n))) ∧ Below w.heap.size w w' := by
  go_enter Tryd.func25, Tryd.ntmps25
  go_wp2
  go_loopw [0, 3] (fun i o wr => ∃ (k : Nat) (out : List UInt8), i = .int .i64 k ∧ o = .string (tx out) ∧ k ≤ n ∧ dcRel n k out ∧ Below w.heap.size w wr) (fun i _ _ => (intOf i).toNat)
  case atStart => exact ⟨n, [], rfl, rfl, Nat.le_refl _, by unfold dcRel; simp, Below.refl _ _⟩
  case round =>
    obtain ⟨k, out, rfl, rfl, hk, hrel, hb⟩ := hrel
    have HR := Lib.hid hrel
    have hsz := dcRel_len hrel (by omega)
    have hts := tx_size out
    clear hrel
    by_cases h0 : 9 < k
    · have hcv := byte_one wr (48 + (k : Int) % 10)
      have hx : ((48 + (k : Int) % 10).toNat) = 48 + k % 10 := by omega
      rw [hx] at hcv
      clear hx
      have HS := Lib.hid (dcRel_succ HR.out h0)
      have HT := Lib.hid (tx_cons (UInt8.ofNat (48 + k % 10)) out)
      have hlen : ((⟨#[UInt8.ofNat (48 + k % 10)]⟩ : ByteArray)).size = 1 := rfl
      generalize hdd : (⟨#[UInt8.ofNat (48 + k % 10)]⟩ : ByteArray) = dd at *
      clear hdd
      have hd1 : dd.size ≤ 1 := by omega
      generalize tx out = to at *
      have ht1 : to.size ≤ 18 := by omega
      clear hlen hts
      have hb2 := hb.alloc hb.size (.cells #[.int .u8 (48 + (k : Int) % 10)] 5)
      clear hb
      go_wp2
      go_roundw
      case rel => exact ⟨k / 10, _, by go_num, by rw [HT.out], by omega, HS.out, hb2⟩
      case measure => simp only [intOf]; omega
    · have hcv := byte_one wr (48 + (k : Int))
      have hx : ((48 + (k : Int)).toNat) = 48 + k := by omega
      rw [hx] at hcv
      clear hx
      have HS := Lib.hid (dcRel_end HR.out (by omega))
      have HT := Lib.hid (tx_cons (UInt8.ofNat (48 + k)) out)
      have hlen : ((⟨#[UInt8.ofNat (48 + k)]⟩ : ByteArray)).size = 1 := rfl
      generalize hdd : (⟨#[UInt8.ofNat (48 + k)]⟩ : ByteArray) = dd at *
      clear hdd
      have hd1 : dd.size ≤ 1 := by omega
      generalize tx out = to at *
      have ht1 : to.size ≤ 18 := by omega
      clear hlen hts
      have hb2 := hb.alloc hb.size (.cells #[.int .u8 (48 + (k : Int))] 5)
      clear hb
      go_wp2
      go_ret
      exact ⟨by rw [HS.out, ← HT.out]; rfl, hb2⟩
set_option maxHeartbeats 1000000 in
theorem l30Dec_any64 (n : Int) (w : World) (h0 : -9223372036854775808 ≤ n) (h1 : n ≤ 9223372036854775807) :
    Calls Tryd.prog 25 #[.int .i64 n] w fun e w' => e = .returned (.string (tx (Lib.itoa n))) ∧ Below w.heap.size w w' := by
  by_cases hn : n < 0
  · have hi : Lib.itoa n = 45 :: Lib.decDigits n.natAbs := by unfold Lib.itoa; rw [if_pos hn]
    rw [hi]
    by_cases hm : n < -9223372036854775807
    · have e : n = -9223372036854775808 := by omega
      subst e
      have hv : tx (45 :: Lib.decDigits (-9223372036854775808 : Int).natAbs) = ⟨#[45, 57, 50, 50, 51, 51, 55, 50, 48, 51, 54, 56, 53, 52, 55, 55, 53, 56, 48, 56]⟩ := by decide +kernel
      rw [hv]
      go_enter Tryd.func25, Tryd.ntmps25
      go_wp2
      go_ret
      exact ⟨rfl, Below.refl _ _⟩
    · have L := l30Dec_nat n.natAbs w (by omega)
      have e : ((n.natAbs : Nat) : Int) = -n := by omega
      rw [e] at L
      have HT := Lib.hid (tx_cons 45 (Lib.decDigits n.natAbs))
      have hd := decDigits_le (u := n.natAbs) (by omega)
      have hts := tx_size (Lib.decDigits n.natAbs)
      rw [← HT.out]
      generalize tx (Lib.decDigits n.natAbs) = to at *
      have ht1 : to.size ≤ 19 := by omega
      have L := Lib.hid L
      clear hd hts hi e HT
      go_enter Tryd.func25, Tryd.ntmps25
      go_wp2_with fail
      (with_reducible refine Calls.mono L.out ?_)
      rintro ee w1 ⟨rfl, hb1⟩
      go_wp2_with fail
      go_ret
      exact ⟨rfl, hb1⟩
  · have L := l30Dec_nat n.toNat w (by omega)
    have e : ((n.toNat : Nat) : Int) = n := by omega
    rw [e] at L
    have hi : Lib.itoa n = Lib.decDigits n.toNat := by unfold Lib.itoa; rw [if_neg hn]
    rw [hi]
    exact L
end Go.Proofs.YtkhcfhhejmkikaaDoor
