/-
  Names: what the model's and the program's functions on names return.
-/
import Derived.WalkKit
import Derived.Test.YtljdbjfbcjigaaaGreatDoorChecked
import Derived.LoopTactic
import Derived.Lib.Hide
import Derived.Outline
import Derived.BigQuiet
import Derived.Deep.QuietTactic
import Derived.WalkSpells
import Derived.WalkLawsBesides
namespace Go.Proofs.YtljdbjfbcjigaaaGreatDoor

/-- The kinds of the bytes, as the program's table lists them. -/
def kt : List Int := [0, 0, 0, 0, 0, 0, 0, 0, 0, 0, 5, 0, 0, 0, 0, 0, 0, 0, 0, 0, 0, 0, 0, 0, 0, 0, 0, 0, 0, 0, 0, 0, 5, 3, 0, 0, 0, 3, 3, 0, 3, 3, 3, 3, 3, 3, 0, 3, 2, 2, 2, 2, 2, 2, 2, 2, 2, 2, 0, 3, 3, 3, 0, 0, 3, 0, 0, 0, 0, 0, 0, 0, 0, 0, 0, 0, 0, 0, 0, 0, 0, 0, 0, 0, 0, 0, 0, 0, 0, 0, 0, 0, 0, 0, 0, 0, 0, 1, 1, 1, 1, 1, 1, 1, 1, 1, 1, 1, 1, 1, 1, 1, 1, 1, 1, 1, 1, 1, 1, 1, 1, 1, 1, 3, 0, 3, 0, 0]
/-- The kind of a byte. -/
def kindN (n : Nat) : Int := if n < 128 then kt.getD n 0 else 0
def signs : List Nat := [40, 41, 123, 125, 59, 44, 43, 45, 42, 47, 37, 60, 61, 38, 33, 64]
/-- The class of a byte, as the model has it. -/
def cls (n : Nat) : Int := if 97 ≤ n ∧ n ≤ 122 then 1 else if 48 ≤ n ∧ n ≤ 57 then 2 else if n ∈ signs then 3 else if n = 32 ∨ n = 10 then 4 else 0
theorem kindN_cls : ∀ n < 256, kindN n = if cls n = 4 then 5 else cls n := by decide +kernel
theorem kindN_one (b : UInt8) : (kindN b.toNat = 1) ↔ (cls b.toNat = 1) := by
  have := kindN_cls b.toNat (by have := b.toNat_lt; omega)
  rw [this]; split <;> omega
/-- The keys. -/
def keyL : List (List UInt8) := [[102, 110], [108, 101, 116], [115, 97, 121], [112, 117, 116], [105, 102], [101, 108, 115, 101], [108, 111, 111, 112], [98, 97, 99, 107], [100, 111]]
def keyB (k : Nat) : ByteArray := ⟨(keyL.getD k []).toArray⟩
/-- The table of keys as a value. -/
def keyTab : Value := .agg (keyL.map fun k => Value.string ⟨k.toArray⟩).toArray
theorem ret_bool {a b : Bool} (h : a = b) : Ending.returned (.bool a) = .returned (.bool b) := by rw [h]
theorem ret_int {k : IntKind} {a b : Int} (h : a = b) : Ending.returned (.int k a) = .returned (.int k b) := by rw [h]
theorem str_yes {a b : ByteArray} (h : (a.toList == b.toList) = true) : a = b := by
  rw [beq_iff_eq, ByteArray.toList_eq, ByteArray.toList_eq] at h
  cases a; cases b
  simp only [Array.toList_inj] at h
  rw [h]
theorem str_no {a b : ByteArray} (h : (a.toList == b.toList) = false) : a ≠ b := by
  rintro rfl
  simp at h
theorem str_eq_true {a b : ByteArray} (h : a = b) : (a.toList == b.toList) = true := by rw [h]; simp
theorem str_eq_false {a b : ByteArray} (h : a ≠ b) : (a.toList == b.toList) = false := by
  rw [Bool.eq_false_iff]; exact fun e => h (str_yes e)
theorem byte_yes {a b : UInt8} (h : ((a.toNat : Int) == (b.toNat : Int)) = true) : a = b := by
  rw [beq_iff_eq] at h; exact UInt8.toNat_inj.1 (by omega)
theorem byte_no {a b : UInt8} (h : ((a.toNat : Int) == (b.toNat : Int)) = false) : a ≠ b := by
  rintro rfl; simp at h
/-- None of the first k keys is this text. -/
def noKey (s : ByteArray) (k : Nat) : Prop := ∀ j, j < k → keyB j ≠ s
theorem noKey_succ {s : ByteArray} {k : Nat} (h : noKey s k) (hk : keyB k ≠ s) : noKey s (k + 1) := by
  intro j hj
  by_cases e : j = k
  · subst e; exact hk
  · exact h j (by omega)
def isKeyB (s : ByteArray) : Bool := keyL.any fun k => k == s.data.toList
theorem isKeyB_iff (s : ByteArray) : isKeyB s = true ↔ ∃ k, k < 9 ∧ keyB k = s := by
  unfold isKeyB
  rw [List.any_eq_true]
  constructor
  · rintro ⟨l, hl, he⟩
    obtain ⟨k, hk, rfl⟩ := List.getElem_of_mem hl
    refine ⟨k, hk, ?_⟩
    have he' : keyL[k] = s.data.toList := by simpa using he
    unfold keyB
    rw [List.getD_eq_getElem?_getD, List.getElem?_eq_getElem hk, Option.getD_some, he']
  · rintro ⟨k, hk, rfl⟩
    refine ⟨keyL[k]'hk, List.getElem_mem _, ?_⟩
    unfold keyB
    rw [List.getD_eq_getElem?_getD, List.getElem?_eq_getElem (show k < keyL.length from hk), Option.getD_some]
    simp
    rfl
theorem isKeyB_no {s : ByteArray} (h : noKey s 9) : isKeyB s = false := by
  rw [Bool.eq_false_iff]
  intro hs
  obtain ⟨k, hk, e⟩ := (isKeyB_iff s).1 hs
  exact h k hk e
theorem isKeyB_yes {s : ByteArray} {k : Nat} (hk : k < 9) (h : keyB k = s) : isKeyB s = true := (isKeyB_iff s).2 ⟨k, hk, h⟩

/-- Where a byte stands first in a list, or -1. -/
def find30 (l : List UInt8) (b : UInt8) : Int := if b ∈ l then (l.idxOf b : Int) else -1
def noByte (s : ByteArray) (b : UInt8) (k : Nat) : Prop := ∀ j, (h : j < s.size) → j < k → s[j] ≠ b
theorem noByte_succ {s : ByteArray} {b : UInt8} {k : Nat} (h : noByte s b k) (hk : k < s.size) (hb : s[k] ≠ b) : noByte s b (k + 1) := by
  intro j hj hjk
  by_cases e : j = k
  · subst e; exact hb
  · exact h j hj (by omega)
theorem mem_iff_get {s : ByteArray} {b : UInt8} : b ∈ s.data.toList ↔ ∃ j, ∃ h : j < s.size, s[j] = b := by
  rw [List.mem_iff_getElem]
  constructor
  · rintro ⟨j, hj, e⟩; exact ⟨j, by simpa using hj, by rw [← e]; rfl⟩
  · rintro ⟨j, hj, e⟩; exact ⟨j, by simpa using hj, by rw [← e]; rfl⟩
theorem find30_no {s : ByteArray} {b : UInt8} (h : noByte s b s.size) : find30 s.data.toList b = -1 := by
  unfold find30
  rw [if_neg]
  intro hm
  obtain ⟨j, hj, e⟩ := mem_iff_get.1 hm
  exact h j hj hj e
theorem idxOf_first {b : UInt8} : ∀ (l : List UInt8) (k : Nat) (hk : k < l.length), l[k] = b → (∀ j, (h : j < l.length) → j < k → l[j] ≠ b) → l.idxOf b = k
  | [], k, hk, _, _ => absurd hk (by simp)
  | x :: l, k, hk, he, hn => by
    cases k with
    | zero =>
      have hx : x = b := by simpa using he
      rw [List.idxOf_cons]; simp [hx]
    | succ k =>
      have h0 : x ≠ b := by have := hn 0 (by simp) (by omega); simpa using this
      have ih := idxOf_first l k (by simpa using hk) (by simpa using he) (fun j hj hjk => by have := hn (j + 1) (by simpa using hj) (by omega); simpa using this)
      rw [List.idxOf_cons]
      have : (x == b) = false := by simpa using h0
      rw [this, ih]; rfl
theorem find30_yes {s : ByteArray} {b : UInt8} {k : Nat} (hk : k < s.size) (he : s[k] = b) (h : noByte s b k) : find30 s.data.toList b = k := by
  unfold find30
  rw [if_pos (mem_iff_get.2 ⟨k, hk, he⟩)]
  rw [idxOf_first s.data.toList k (by simpa using hk) (by rw [← he]; rfl) (fun j hj hjk => by have := h j (by simpa using hj) hjk; exact this)]
/-- The signs as a text. -/
def signS : ByteArray := ⟨#[40, 41, 123, 125, 59, 44, 43, 45, 42, 47, 37, 60, 61, 38, 33, 64]⟩
theorem sign_mem (b : UInt8) : b ∈ signS.data.toList ↔ b.toNat ∈ signs := by
  simp only [signS, signs, List.mem_cons, List.not_mem_nil, or_false, ← UInt8.toNat_inj]
  rfl
theorem find_sign_yes {b : UInt8} (h : b.toNat ∈ signs) : 0 ≤ find30 signS.data.toList b := by
  unfold find30; rw [if_pos ((sign_mem b).2 h)]; omega
theorem find_sign_no {b : UInt8} (h : b.toNat ∉ signs) : find30 signS.data.toList b = -1 := by
  unfold find30; rw [if_neg (fun e => h ((sign_mem b).1 e))]
/-- All bytes up to k are of a class. -/
def clsAll (s : ByteArray) (c : Int) (k : Nat) : Prop := ∀ j, (h : j < s.size) → j < k → cls (s[j]).toNat = c
theorem clsAll_succ {s : ByteArray} {c : Int} {k : Nat} (h : clsAll s c k) (hk : k < s.size) (hb : cls (s[k]).toNat = c) : clsAll s c (k + 1) := by
  intro j hj hjk
  by_cases e : j = k
  · subst e; exact hb
  · exact h j hj (by omega)
open Classical in
/-- All bytes of a text that is not empty are of a class. -/
noncomputable def allB (s : ByteArray) (c : Int) : Bool := decide (0 < s.size ∧ clsAll s c s.size)
theorem allB_no {s : ByteArray} {c : Int} {k : Nat} (hk : k < s.size) (h : cls (s[k]).toNat ≠ c) : allB s c = false := by
  unfold allB; rw [decide_eq_false_iff_not]; rintro ⟨_, h2⟩; exact h (h2 k hk hk)
theorem allB_end {s : ByteArray} {c : Int} (h : clsAll s c s.size) : allB s c = decide (0 < s.size) := by
  unfold allB; simp only [h, and_true]
/-- The text is a name. -/
noncomputable def nameB (s : ByteArray) : Bool := allB s 1 && decide (s.size ≤ 4) && !isKeyB s

theorem cls_letter {n : Nat} (h1 : 97 ≤ n) (h2 : n ≤ 122) : cls n = 1 := by unfold cls; rw [if_pos ⟨h1, h2⟩]
theorem cls_digit {n : Nat} (h1 : 48 ≤ n) (h2 : n ≤ 57) : cls n = 2 := by unfold cls; rw [if_neg (by omega), if_pos ⟨h1, h2⟩]
theorem cls_sign {n : Nat} (h0 : ¬ (97 ≤ n ∧ n ≤ 122)) (h1 : ¬ (48 ≤ n ∧ n ≤ 57)) (h : n ∈ signs) : cls n = 3 := by unfold cls; rw [if_neg h0, if_neg h1, if_pos h]
theorem cls_blank {n : Nat} (h : n = 32 ∨ n = 10) : cls n = 4 := by rcases h with rfl | rfl <;> decide
theorem cls_none {n : Nat} (h0 : ¬ (97 ≤ n ∧ n ≤ 122)) (h1 : ¬ (48 ≤ n ∧ n ≤ 57)) (h : n ∉ signs) (h2 : n ≠ 32) (h3 : n ≠ 10) : cls n = 0 := by
  unfold cls; rw [if_neg h0, if_neg h1, if_neg h, if_neg (by omega)]
theorem nameB_empty {s : ByteArray} (h : s.size = 0) : nameB s = false := by
  have : allB s 1 = false := by unfold allB; rw [decide_eq_false_iff_not]; omega
  unfold nameB; rw [this]; rfl
theorem nameB_long {s : ByteArray} (h : 4 < s.size) : nameB s = false := by
  unfold nameB
  have : decide (s.size ≤ 4) = false := by rw [decide_eq_false_iff_not]; omega
  rw [this]; simp
theorem nameB_key {s : ByteArray} (h : isKeyB s = true) : nameB s = false := by unfold nameB; rw [h]; simp
theorem nameB_bad {s : ByteArray} {k : Nat} (hk : k < s.size) (h : cls (s[k]).toNat ≠ 1) : nameB s = false := by unfold nameB; rw [allB_no hk h]; rfl
theorem nameB_yes {s : ByteArray} (h0 : 0 < s.size) (h4 : s.size ≤ 4) (hk : isKeyB s = false) (h : clsAll s 1 s.size) : nameB s = true := by
  unfold nameB; rw [allB_end h, hk]; simp [h0, h4]
end Go.Proofs.YtljdbjfbcjigaaaGreatDoor

namespace Go.Proofs.YtljdbjfbcjigaaaGreatDoor
open Go.RowKit
set_option maxRecDepth 100000

/-- The program's two tables stand in the world. -/
structure Tabs (w : World) : Prop where
  kinds : ∀ i, i < 128 → w.cell? ⟨3, i, none⟩ = some (.int .i64 (kt.getD i 0))
  size : 3 < w.heap.size ∧ 2 < w.heap.size
  keys : ∃ t fr, w.heap[2]? = some (.cells (keyL.map fun k => Value.string ⟨k.toArray⟩).toArray t fr)

set_option maxHeartbeats 400000 in
theorem kindOfByte_lo (b : UInt8) (z : Int) (w : World) (h : b.toNat < 128) (hc : w.cell? ⟨3, b.toNat, none⟩ = some (.int .i64 z)) :
    Calls Tryz.prog 159 #[.int .u8 b.toNat] w fun e w' => e = .returned (.int .i64 z) ∧ w = w' := by
  have hb : b.toNat < 256 := b.toNat_lt
  go_enter Tryz.func159, Tryz.ntmps159
  go_wp2
  go_ret
  exact ⟨rfl, rfl⟩
set_option maxHeartbeats 400000 in
theorem kindOfByte_hi (b : UInt8) (w : World) (h : ¬ b.toNat < 128) :
    Calls Tryz.prog 159 #[.int .u8 b.toNat] w fun e w' => e = .returned (.int .i64 0) ∧ w = w' := by
  have hb : b.toNat < 256 := b.toNat_lt
  have hb2 : 128 ≤ b.toNat := by omega
  go_enter Tryz.func159, Tryz.ntmps159
  go_wp2
  go_ret
  exact ⟨rfl, rfl⟩
theorem kindOfByte_any (b : UInt8) (w : World) (T : Tabs w) :
    Calls Tryz.prog 159 #[.int .u8 b.toNat] w fun e w' => e = .returned (.int .i64 (kindN b.toNat)) ∧ w = w' := by
  unfold kindN
  by_cases h : b.toNat < 128
  · rw [if_pos h]; exact kindOfByte_lo b _ w h (T.kinds _ h)
  · rw [if_neg h]; exact kindOfByte_hi b w h

set_option maxHeartbeats 400000 in
theorem inLetters_any (n : Int) (w : World) :
    Calls Tryz.prog 200 #[.int .i64 n] w fun e w' => e = .returned (.bool (n == 1)) ∧ w = w' := by
  go_enter Tryz.func200, Tryz.ntmps200
  go_wp2
  go_ret
  exact ⟨rfl, rfl⟩

theorem keyTab_at (k : Nat) (hk : k < 9) (w : World) : (Instr.index 270 keyTab (.int .i64 (k : Int))).run Tryz.prog w = .ok (.string (keyB k)) w := by
  have h : k = 0 ∨ k = 1 ∨ k = 2 ∨ k = 3 ∨ k = 4 ∨ k = 5 ∨ k = 6 ∨ k = 7 ∨ k = 8 := by omega
  rcases h with rfl | rfl | rfl | rfl | rfl | rfl | rfl | rfl | rfl <;> (show _ = _; kernel_rfl)
set_option maxHeartbeats 400000 in
theorem isKey_any (s : ByteArray) (w : World) (T : Tabs w) :
    Calls Tryz.prog 151 #[.string s] w fun e w' => e = .returned (.bool (isKeyB s)) ∧ w = w' := by
  obtain ⟨t, fr, hk⟩ := T.keys
  clear T
  go_enter Tryz.func151, Tryz.ntmps151
  go_wp2_with (with_reducible refine wpList_load_row rfl _ _ rfl _ rfl _ _ _ _ hk Tryz.underlying270 rfl (by kernel_rfl) ?_)
  clear hk
  have hidx := keyTab_at
  unfold keyTab at hidx
  generalize Value.agg (List.map (fun k => Value.string ⟨k.toArray⟩) keyL).toArray = KT at *
  have HI := Lib.hid hidx
  clear hidx
  go_loop [6] (fun i => ∃ k : Nat, k ≤ 9 ∧ i = .int .i64 k ∧ noKey s k) (fun i => 9 - (intOf i).toNat)
  case atStart => exact ⟨0, Nat.zero_le _, rfl, fun j hj => absurd hj (by omega)⟩
  case round =>
    obtain ⟨k, hk, rfl, hno⟩ := hrel
    by_cases hlt : k < 9
    · have hi := HI.out k hlt
      generalize hkb : keyB k = kb at *
      have HKB := Lib.hid hkb; clear hkb
      go_wp2
      · have he : s = kb := str_yes (by assumption)
        go_ret
        exact ⟨ret_bool (isKeyB_yes hlt (HKB.out.trans he.symm)).symm, rfl⟩
      · have he : s ≠ kb := str_no (by assumption)
        go_round
        case rel => exact ⟨k + 1, by omega, by go_num, noKey_succ hno (fun e => he (e.symm.trans HKB.out))⟩
        case measure => simp only [intOf]; omega
    · obtain rfl : k = 9 := by omega
      go_wp2
      go_ret
      exact ⟨ret_bool (isKeyB_no hno).symm, rfl⟩

set_option maxHeartbeats 400000 in
theorem l30Find_any (s : ByteArray) (b : UInt8) (w : World) (hs : s.size ≤ maxLen) :
    Calls Tryz.prog 210 #[.string s, .int .u8 b.toNat] w fun e w' => e = .returned (.int .i64 (find30 s.data.toList b)) ∧ w = w' := by
  unfold maxLen at hs
  go_enter Tryz.func210, Tryz.ntmps210
  go_wp2
  go_loop [5] (fun i => ∃ k : Nat, k ≤ s.size ∧ i = .int .i64 k ∧ noByte s b k) (fun i => s.size - (intOf i).toNat)
  case atStart => exact ⟨0, Nat.zero_le _, rfl, fun j _ hj => absurd hj (by omega)⟩
  case round =>
    obtain ⟨k, hk, rfl, hno⟩ := hrel
    by_cases hlt : k < s.size
    · go_wp2
      · have he : s[k] = b := byte_yes (by assumption)
        go_ret
        exact ⟨ret_int (find30_yes hlt he hno).symm, rfl⟩
      · have he : s[k] ≠ b := byte_no (by assumption)
        go_round
        case rel => exact ⟨k + 1, by omega, by go_num, noByte_succ hno hlt he⟩
        case measure => simp only [intOf]; omega
    · obtain rfl : k = s.size := by omega
      go_wp2
      go_ret
      exact ⟨ret_int (find30_no hno).symm, rfl⟩

set_option maxHeartbeats 400000 in
theorem l1Class_letter (b : UInt8) (w : World) (h1 : 97 ≤ b.toNat) (h2 : b.toNat ≤ 122) :
    Calls Tryz.prog 168 #[.int .u8 b.toNat] w fun e w' => e = .returned (.int .i64 1) ∧ w = w' := by
  go_enter Tryz.func168, Tryz.ntmps168
  go_wp2
  go_ret
  exact ⟨rfl, rfl⟩
set_option maxHeartbeats 400000 in
theorem l1Class_digit (b : UInt8) (w : World) (h1 : 48 ≤ b.toNat) (h2 : b.toNat ≤ 57) :
    Calls Tryz.prog 168 #[.int .u8 b.toNat] w fun e w' => e = .returned (.int .i64 2) ∧ w = w' := by
  go_enter Tryz.func168, Tryz.ntmps168
  go_wp2
  go_ret
  exact ⟨rfl, rfl⟩
set_option maxHeartbeats 1000000 in
theorem l1Class_sign (b : UInt8) (w : World) (h0 : ¬ (97 ≤ b.toNat ∧ b.toNat ≤ 122)) (h1 : ¬ (48 ≤ b.toNat ∧ b.toNat ≤ 57)) (h : b.toNat ∈ signs) :
    Calls Tryz.prog 168 #[.int .u8 b.toNat] w fun e w' => e = .returned (.int .i64 3) ∧ w = w' := by
  have hf := find_sign_yes h
  have C := l30Find_any signS b w (by decide)
  generalize find30 signS.data.toList b = z at *
  unfold signS at C
  have HC := Lib.hid C; clear C h
  by_cases a1 : 97 ≤ b.toNat <;> by_cases a2 : 48 ≤ b.toNat <;> try (exfalso; omega)
  all_goals
    first | (have a3 : 122 < b.toNat := by omega) | skip
    first | (have a4 : 57 < b.toNat := by omega) | skip
    clear h0 h1
    go_enter Tryz.func168, Tryz.ntmps168
    go_wp2_with fail
    refine HC.out.mono ?_
    rintro e w' ⟨rfl, rfl⟩
    go_wp2
    go_ret
    exact ⟨rfl, rfl⟩
set_option maxHeartbeats 1000000 in
theorem l1Class_rest (b : UInt8) (z : Int) (w : World) (h0 : ¬ (97 ≤ b.toNat ∧ b.toNat ≤ 122)) (h1 : ¬ (48 ≤ b.toNat ∧ b.toNat ≤ 57)) (h : b.toNat ∉ signs)
    (hz : (b.toNat = 32 ∧ z = 4) ∨ (b.toNat = 10 ∧ z = 4) ∨ (b.toNat ≠ 32 ∧ b.toNat ≠ 10 ∧ z = 0)) :
    Calls Tryz.prog 168 #[.int .u8 b.toNat] w fun e w' => e = .returned (.int .i64 z) ∧ w = w' := by
  have hf := find_sign_no h
  have C := l30Find_any signS b w (by decide)
  rw [hf] at C
  unfold signS at C
  have HC := Lib.hid C; clear C h hf
  rcases hz with ⟨g, rfl⟩ | ⟨g, rfl⟩ | ⟨g1, g2, rfl⟩
  · have b1 : ((b.toNat : Int) == 32) = true := by rw [beq_iff_eq]; omega
    have a3 : b.toNat < 97 := by omega
    have a4 : b.toNat < 48 := by omega
    clear h0 h1 g
    go_enter Tryz.func168, Tryz.ntmps168
    go_wp2_with fail
    refine HC.out.mono ?_
    rintro e w' ⟨rfl, rfl⟩
    go_wp2
    go_ret
    exact ⟨rfl, rfl⟩
  · have b1 : ((b.toNat : Int) == 32) = false := by rw [beq_eq_false_iff_ne]; omega
    have b2 : ((b.toNat : Int) == 10) = true := by rw [beq_iff_eq]; omega
    have a3 : b.toNat < 97 := by omega
    have a4 : b.toNat < 48 := by omega
    clear h0 h1 g
    go_enter Tryz.func168, Tryz.ntmps168
    go_wp2_with fail
    refine HC.out.mono ?_
    rintro e w' ⟨rfl, rfl⟩
    go_wp2
    go_ret
    exact ⟨rfl, rfl⟩
  · have b1 : ((b.toNat : Int) == 32) = false := by rw [beq_eq_false_iff_ne]; omega
    have b2 : ((b.toNat : Int) == 10) = false := by rw [beq_eq_false_iff_ne]; omega
    clear g1 g2
    by_cases a1 : 97 ≤ b.toNat <;> by_cases a2 : 48 ≤ b.toNat <;> try (exfalso; omega)
    all_goals
      first | (have a3 : 122 < b.toNat := by omega) | skip
      first | (have a4 : 57 < b.toNat := by omega) | skip
      clear h0 h1
      go_enter Tryz.func168, Tryz.ntmps168
      go_wp2_with fail
      refine HC.out.mono ?_
      rintro e w' ⟨rfl, rfl⟩
      go_wp2
      go_ret
      exact ⟨rfl, rfl⟩
theorem l1Class_any (b : UInt8) (w : World) :
    Calls Tryz.prog 168 #[.int .u8 b.toNat] w fun e w' => e = .returned (.int .i64 (cls b.toNat)) ∧ w = w' := by
  by_cases h1 : 97 ≤ b.toNat ∧ b.toNat ≤ 122
  · rw [cls_letter h1.1 h1.2]; exact l1Class_letter b w h1.1 h1.2
  by_cases h2 : 48 ≤ b.toNat ∧ b.toNat ≤ 57
  · rw [cls_digit h2.1 h2.2]; exact l1Class_digit b w h2.1 h2.2
  by_cases h3 : b.toNat ∈ signs
  · rw [cls_sign h1 h2 h3]; exact l1Class_sign b w h1 h2 h3
  by_cases h4 : b.toNat = 32
  · rw [cls_blank (.inl h4)]; exact l1Class_rest b 4 w h1 h2 h3 (.inl ⟨h4, rfl⟩)
  by_cases h5 : b.toNat = 10
  · rw [cls_blank (.inr h5)]; exact l1Class_rest b 4 w h1 h2 h3 (.inr (.inl ⟨h5, rfl⟩))
  · rw [cls_none h1 h2 h3 h4 h5]; exact l1Class_rest b 0 w h1 h2 h3 (.inr (.inr ⟨h4, h5, rfl⟩))
end Go.Proofs.YtljdbjfbcjigaaaGreatDoor

namespace Go.Proofs.YtljdbjfbcjigaaaGreatDoor
open Go.RowKit
set_option maxRecDepth 100000

set_option maxHeartbeats 400000 in
theorem l1All_any (s : ByteArray) (c : Int) (w : World) (hs : s.size ≤ maxLen) :
    Calls Tryz.prog 156 #[.string s, .int .i64 c] w fun e w' => e = .returned (.bool (allB s c)) ∧ w = w' := by
  unfold maxLen at hs
  go_enter Tryz.func156, Tryz.ntmps156
  go_wp2
  go_loop [5] (fun i => ∃ k : Nat, k ≤ s.size ∧ i = .int .i64 k ∧ clsAll s c k) (fun i => s.size - (intOf i).toNat)
  case atStart => exact ⟨0, Nat.zero_le _, rfl, fun j _ hj => absurd hj (by omega)⟩
  case round =>
    obtain ⟨k, hk, rfl, hno⟩ := hrel
    by_cases hlt : k < s.size
    · go_wp2_with fail
      refine (l1Class_any s[k] _).mono ?_
      rintro e w' ⟨rfl, rfl⟩
      by_cases hc : cls s[k].toNat = c
      · have hb : (cls s[k].toNat == c) = true := beq_iff_eq.2 hc
        have hb2 : (cls s[k].toNat != c) = false := by rw [bne, hb]; rfl
        have HC := Lib.hid hc; clear hc
        go_wp2
        go_round
        case rel => exact ⟨k + 1, by omega, by go_num, clsAll_succ hno hlt HC.out⟩
        case measure => simp only [intOf]; omega
      · have hb : (cls s[k].toNat == c) = false := by rw [beq_eq_false_iff_ne]; exact hc
        have hb2 : (cls s[k].toNat != c) = true := by rw [bne, hb]; rfl
        have HC := Lib.hid hc; clear hc
        go_wp2
        go_ret
        exact ⟨ret_bool (allB_no hlt HC.out).symm, rfl⟩
    · obtain rfl : k = s.size := by omega
      go_wp2
      go_ret
      refine ⟨ret_bool ?_, rfl⟩
      rw [allB_end hno]

/-- The block that a call of the model's KeyWords makes. -/
def keyBlock : Obj := .cells (keyL.map fun k => Value.string ⟨k.toArray⟩).toArray 9 (0, 0)
set_option maxHeartbeats 400000 in
theorem specKeyWords_any (w : World) :
    Calls Tryz.prog 205 #[] w fun e w' => e = .returned (.slice (some ⟨w.heap.size, 0, none⟩) 9 9) ∧ w' = w.alloc keyBlock := by
  go_enter Tryz.func205, Tryz.ntmps205
  go_wp2
  go_ret
  exact ⟨rfl, rfl⟩
theorem keyBlock_cell (w : World) (k : Nat) (hk : k < 9) : (w.alloc keyBlock).cell? ⟨w.heap.size, k, none⟩ = some (.string (keyB k)) := by
  have h : k = 0 ∨ k = 1 ∨ k = 2 ∨ k = 3 ∨ k = 4 ∨ k = 5 ∨ k = 6 ∨ k = 7 ∨ k = 8 := by omega
  have hb : (w.alloc keyBlock).heap[w.heap.size]? = some keyBlock := by
    show (w.heap.push keyBlock)[w.heap.size]? = _
    simp
  unfold World.cell?
  rw [hb]
  rcases h with rfl | rfl | rfl | rfl | rfl | rfl | rfl | rfl | rfl <;> rfl
set_option maxHeartbeats 400000 in
theorem l1Key_exact (s : ByteArray) (w : World) :
    Calls Tryz.prog 157 #[.string s] w fun e w' => e = .returned (.bool (isKeyB s)) ∧ w' = w.alloc keyBlock := by
  go_enter Tryz.func157, Tryz.ntmps157
  go_wp2_with fail
  refine (specKeyWords_any _).mono ?_
  rintro e w' ⟨rfl, rfl⟩
  go_wp2
  go_loop [4] (fun i => ∃ k : Nat, k ≤ 9 ∧ i = .int .i64 k ∧ noKey s k) (fun i => 9 - (intOf i).toNat)
  case atStart => exact ⟨0, Nat.zero_le _, rfl, fun j hj => absurd hj (by omega)⟩
  case round =>
    obtain ⟨k, hk, rfl, hno⟩ := hrel
    by_cases hlt : k < 9
    · have hi := keyBlock_cell w k hlt
      generalize hkb : keyB k = kb at *
      have HKB := Lib.hid hkb; clear hkb
      go_wp2
      · have he : kb = s := str_yes (by assumption)
        go_ret
        exact ⟨ret_bool (isKeyB_yes hlt (HKB.out.trans he)).symm, rfl⟩
      · have he : kb ≠ s := str_no (by assumption)
        go_round
        case rel => exact ⟨k + 1, by omega, by go_num, noKey_succ hno (fun e => he (HKB.out.symm.trans e))⟩
        case measure => simp only [intOf]; omega
    · obtain rfl : k = 9 := by omega
      go_wp2
      go_ret
      exact ⟨ret_bool (isKeyB_no hno).symm, rfl⟩
theorem l1Key_any (s : ByteArray) (w : World) :
    Calls Tryz.prog 157 #[.string s] w fun e w' => e = .returned (.bool (isKeyB s)) ∧ Below w.heap.size w w' :=
  (l1Key_exact s w).mono fun _ _ ⟨he, hw⟩ => ⟨he, by subst hw; exact (Below.refl _ _).alloc (Nat.le_refl _) _⟩

set_option maxHeartbeats 400000 in
theorem specIsName_any (s : ByteArray) (w : World) (hs : s.size ≤ maxLen) :
    Calls Tryz.prog 108 #[.string s] w fun e w' => e = .returned (.bool (nameB s)) ∧ Below w.heap.size w w' := by
  have hs' := hs
  unfold maxLen at hs'
  have C1 := Lib.hid (l1All_any s 1 w hs)
  have C2 := Lib.hid (l1Key_any s w)
  unfold nameB
  generalize allB s 1 = a at *
  generalize isKeyB s = b at *
  clear hs
  cases a
  · go_enter Tryz.func108, Tryz.ntmps108
    go_wp2_with fail
    refine C1.out.mono ?_
    rintro e w' ⟨rfl, rfl⟩
    go_wp2
    go_ret
    exact ⟨rfl, Below.refl _ _⟩
  · by_cases h4 : s.size ≤ 4
    · go_enter Tryz.func108, Tryz.ntmps108
      go_wp2_with fail
      refine C1.out.mono ?_
      rintro e w' ⟨rfl, rfl⟩
      go_wp2_with fail
      refine C2.out.mono ?_
      rintro e w' ⟨rfl, hb⟩
      go_wp2
      go_ret
      exact ⟨ret_bool (by simp [h4]), hb⟩
    · go_enter Tryz.func108, Tryz.ntmps108
      go_wp2_with fail
      refine C1.out.mono ?_
      rintro e w' ⟨rfl, rfl⟩
      go_wp2
      go_ret
      exact ⟨ret_bool (by simp), Below.refl _ _⟩

theorem Tabs.below {w w' : World} (T : Tabs w) (hb : Below w.heap.size w w') : Tabs w' := by
  obtain ⟨t, fr, hk⟩ := T.keys
  have hsz := T.size
  exact ⟨fun i hi => by rw [hb.cell (p := ⟨3, i, none⟩) (by show 3 < w.heap.size; omega)]; exact T.kinds i hi, ⟨by have := hb.size; omega, by have := hb.size; omega⟩, t, fr, by rw [hb.block _ (by omega)]; exact hk⟩
set_option maxHeartbeats 400000 in
theorem implIsName_any (s : ByteArray) (w : World) (T : Tabs w) :
    Calls Tryz.prog 148 #[.string s] w fun e w' => e = .returned (.bool (nameB s)) ∧ w = w' := by
  by_cases h0 : s.size = 0
  · rw [nameB_empty h0]
    obtain rfl : s = ⟨#[]⟩ := by cases s with | mk d => simp [ByteArray.size] at h0; rw [h0]
    clear T h0
    go_enter Tryz.func148, Tryz.ntmps148
    go_wp2
    go_ret
    exact ⟨rfl, rfl⟩
  have e1 : s.toList.isEmpty = false := by
    rw [ByteArray.toList_eq, List.isEmpty_eq_false_iff]
    intro e
    apply h0
    have := congrArg List.length e
    simpa using this
  have e2 : (!s.toList.isEmpty) = true := by rw [e1]; rfl
  by_cases h4 : 4 < s.size
  · rw [nameB_long h4]
    clear T
    go_enter Tryz.func148, Tryz.ntmps148
    go_wp2
    go_ret
    exact ⟨rfl, rfl⟩
  have C1 := Lib.hid (isKey_any s w T)
  have h4' : s.size ≤ 4 := by omega
  cases hk : isKeyB s
  · rw [hk] at C1
    have HK := Lib.hid hk; clear hk
    go_enter Tryz.func148, Tryz.ntmps148
    go_wp2_with fail
    refine C1.out.mono ?_
    rintro e w' ⟨rfl, rfl⟩
    go_wp2
    go_loop [17] (fun i => ∃ k : Nat, k ≤ s.size ∧ i = .int .i64 k ∧ clsAll s 1 k) (fun i => s.size - (intOf i).toNat)
    case atStart => exact ⟨0, Nat.zero_le _, rfl, fun j _ hj => absurd hj (by omega)⟩
    case round =>
      obtain ⟨k, hk, rfl, hno⟩ := hrel
      by_cases hlt : k < s.size
      · go_wp2_with fail
        refine (kindOfByte_any s[k] _ T).mono ?_
        rintro e w' ⟨rfl, rfl⟩
        go_wp2_with fail
        refine (inLetters_any _ _).mono ?_
        rintro e w' ⟨rfl, rfl⟩
        by_cases hc : cls s[k].toNat = 1
        · have hb : (kindN s[k].toNat == 1) = true := beq_iff_eq.2 ((kindN_one _).2 hc)
          have HC := Lib.hid hc; clear hc
          go_wp2
          go_round
          case rel => exact ⟨k + 1, by omega, by go_num, clsAll_succ hno hlt HC.out⟩
          case measure => simp only [intOf]; omega
        · have hb : (kindN s[k].toNat == 1) = false := by rw [beq_eq_false_iff_ne]; exact fun e => hc ((kindN_one _).1 e)
          have HC := Lib.hid hc; clear hc
          go_wp2
          go_ret
          exact ⟨ret_bool (nameB_bad hlt HC.out).symm, rfl⟩
      · obtain rfl : k = s.size := by omega
        go_wp2
        go_ret
        exact ⟨ret_bool (nameB_yes (by omega) h4' HK.out hno).symm, rfl⟩
  · rw [nameB_key hk]
    rw [hk] at C1
    clear hk
    go_enter Tryz.func148, Tryz.ntmps148
    go_wp2_with fail
    refine C1.out.mono ?_
    rintro e w' ⟨rfl, rfl⟩
    go_wp2
    go_ret
    exact ⟨rfl, rfl⟩

end Go.Proofs.YtljdbjfbcjigaaaGreatDoor
