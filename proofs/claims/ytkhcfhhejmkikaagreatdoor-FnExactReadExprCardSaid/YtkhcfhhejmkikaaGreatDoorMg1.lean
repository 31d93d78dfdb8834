/-
  The shelf's contracts at this dump that this seat's proofs use (laid by the kit's own command, trimmed).
-/
import Derived.WalkKit
import Derived.Test.YtkhcfhhejmkikaaGreatDoorChecked
import Derived.LoopTactic
import Derived.Lib.Hide
import Derived.Outline
import Derived.BigQuiet
import Derived.Deep.QuietTactic
import Derived.WalkSpells
import Derived.WalkLawsBesides
import Derived.Lib.AtoiAllCases
import Derived.Lib.ItoaNum
import Derived.Shelf.Strings.Builder1
import Derived.Shelf.Strings.Builder2
import Derived.Shelf.Strings.OnBuilder
import Derived.Shelf.Strconv.Atoi
import Derived.Shelf.Strconv.Itoa0
import Derived.Shelf.Strconv.Itoa1
import Derived.Shelf.LaysM
import Derived.Shelf.Strconv.Itoa2
import Derived.Shelf.Strconv.Itoa3
import Derived.Shelf.Strconv.AtoiErrFast
import Derived.Shelf.Strconv.ParseIntEmpty
import Derived.Shelf.Strconv.AtoiFail
import Derived.Shelf.Strconv.Clone
import Derived.Shelf.Strconv.SyntaxError
import Derived.Shelf.LaysC
import Derived.Shelf.Strconv.ToError
import Derived.Shelf.Strconv.Lower
import Derived.Shelf.Strconv.ParseUint10
import Derived.Shelf.Strconv.ParseUint10Empty
import Derived.Shelf.Strconv.ParseUint10Any
import Derived.Shelf.Strconv.ParseInt10
import Derived.Shelf.Strconv.AtoiLong
import Derived.Shelf.Strconv.AtoiInnerAll
import Derived.Shelf.Strconv.RangeError
import Derived.Shelf.Strconv.ToErrorRange
import Derived.Shelf.Strconv.AtoiAll
import Derived.Shelf.Strconv.ErrVarAll
import Derived.Test.YtkhcfhhejmkikaaGreatDoorProg
namespace Go.Proofs.YtkhcfhhejmkikaaGreatDoor

/-- The kinds of the bytes, as the program's table lists them. -/
def kt : List Int := [0, 0, 0, 0, 0, 0, 0, 0, 0, 0, 5, 0, 0, 0, 0, 0, 0, 0, 0, 0, 0, 0, 0, 0, 0, 0, 0, 0, 0, 0, 0, 0, 5, 3, 0, 0, 0, 3, 3, 0, 3, 3, 3, 3, 3, 3, 0, 3, 2, 2, 2, 2, 2, 2, 2, 2, 2, 2, 0, 3, 3, 3, 0, 0, 3, 0, 0, 0, 0, 0, 0, 0, 0, 0, 0, 0, 0, 0, 0, 0, 0, 0, 0, 0, 0, 0, 0, 0, 0, 0, 0, 0, 0, 0, 0, 0, 0, 1, 1, 1, 1, 1, 1, 1, 1, 1, 1, 1, 1, 1, 1, 1, 1, 1, 1, 1, 1, 1, 1, 1, 1, 1, 1, 3, 0, 3, 0, 0]
/-- The kind of a byte. -/
def kindN (n : Nat) : Int := if n < 128 then kt.getD n 0 else 0
def signs : List Nat := [40, 41, 123, 125, 59, 44, 43, 45, 42, 47, 37, 60, 61, 38, 33, 64]
/-- The class of a byte, as the model has it. -/
def cls (n : Nat) : Int := if 97 ≤ n ∧ n ≤ 122 then 1 else if 48 ≤ n ∧ n ≤ 57 then 2 else if n ∈ signs then 3 else if n = 32 ∨ n = 10 then 4 else 0
theorem kindN_cls : ∀ n < 256, kindN n = if cls n = 4 then 5 else cls n := by decide +kernel
theorem kindN_one (b : UInt8) : (kindN b.toNat = 1) ↔ (cls b.toNat = 1) := by
  have := kindN_cls b.toNat (by have := b.toNat_lt; omega)
  rw [this]; split <;> omega
/-- The keys. -/
def keyL : List (List UInt8) := [[102, 110], [108, 101, 116], [115, 97, 121], [112, 117, 116], [105, 102], [101, 108, 115, 101], [108, 111, 111, 112], [98, 97, 99, 107], [100, 111]]
def keyB (k : Nat) : ByteArray := ⟨(keyL.getD k []).toArray⟩
/-- The table of keys as a value. -/
def keyTab : Value := .agg (keyL.map fun k => Value.string ⟨k.toArray⟩).toArray
theorem ret_bool {a b : Bool} (h : a = b) : Ending.returned (.bool a) = .returned (.bool b) := by rw [h]
theorem ret_int {k : IntKind} {a b : Int} (h : a = b) : Ending.returned (.int k a) = .returned (.int k b) := by rw [h]
theorem str_yes {a b : ByteArray} (h : (a.toList == b.toList) = true) : a = b := by
  rw [beq_iff_eq, ByteArray.toList_eq, ByteArray.toList_eq] at h
  cases a; cases b
  simp only [Array.toList_inj] at h
  rw [h]
theorem str_no {a b : ByteArray} (h : (a.toList == b.toList) = false) : a ≠ b := by
  rintro rfl
  simp at h
theorem str_eq_true {a b : ByteArray} (h : a = b) : (a.toList == b.toList) = true := by rw [h]; simp
theorem str_eq_false {a b : ByteArray} (h : a ≠ b) : (a.toList == b.toList) = false := by
  rw [Bool.eq_false_iff]; exact fun e => h (str_yes e)
theorem byte_yes {a b : UInt8} (h : ((a.toNat : Int) == (b.toNat : Int)) = true) : a = b := by
  rw [beq_iff_eq] at h; exact UInt8.toNat_inj.1 (by omega)
theorem byte_no {a b : UInt8} (h : ((a.toNat : Int) == (b.toNat : Int)) = false) : a ≠ b := by
  rintro rfl; simp at h
/-- None of the first k keys is this text. -/
def noKey (s : ByteArray) (k : Nat) : Prop := ∀ j, j < k → keyB j ≠ s
theorem noKey_succ {s : ByteArray} {k : Nat} (h : noKey s k) (hk : keyB k ≠ s) : noKey s (k + 1) := by
  intro j hj
  by_cases e : j = k
  · subst e; exact hk
  · exact h j (by omega)
def isKeyB (s : ByteArray) : Bool := keyL.any fun k => k == s.data.toList
theorem isKeyB_iff (s : ByteArray) : isKeyB s = true ↔ ∃ k, k < 9 ∧ keyB k = s := by
  unfold isKeyB
  rw [List.any_eq_true]
  constructor
  · rintro ⟨l, hl, he⟩
    obtain ⟨k, hk, rfl⟩ := List.getElem_of_mem hl
    refine ⟨k, hk, ?_⟩
    have he' : keyL[k] = s.data.toList := by simpa using he
    unfold keyB
    rw [List.getD_eq_getElem?_getD, List.getElem?_eq_getElem hk, Option.getD_some, he']
  · rintro ⟨k, hk, rfl⟩
    refine ⟨keyL[k]'hk, List.getElem_mem _, ?_⟩
    unfold keyB
    rw [List.getD_eq_getElem?_getD, List.getElem?_eq_getElem (show k < keyL.length from hk), Option.getD_some]
    simp
    rfl
theorem isKeyB_no {s : ByteArray} (h : noKey s 9) : isKeyB s = false := by
  rw [Bool.eq_false_iff]
  intro hs
  obtain ⟨k, hk, e⟩ := (isKeyB_iff s).1 hs
  exact h k hk e
theorem isKeyB_yes {s : ByteArray} {k : Nat} (hk : k < 9) (h : keyB k = s) : isKeyB s = true := (isKeyB_iff s).2 ⟨k, hk, h⟩

/-- Where a byte stands first in a list, or -1. -/
def find30 (l : List UInt8) (b : UInt8) : Int := if b ∈ l then (l.idxOf b : Int) else -1
def noByte (s : ByteArray) (b : UInt8) (k : Nat) : Prop := ∀ j, (h : j < s.size) → j < k → s[j] ≠ b
theorem noByte_succ {s : ByteArray} {b : UInt8} {k : Nat} (h : noByte s b k) (hk : k < s.size) (hb : s[k] ≠ b) : noByte s b (k + 1) := by
  intro j hj hjk
  by_cases e : j = k
  · subst e; exact hb
  · exact h j hj (by omega)
theorem mem_iff_get {s : ByteArray} {b : UInt8} : b ∈ s.data.toList ↔ ∃ j, ∃ h : j < s.size, s[j] = b := by
  rw [List.mem_iff_getElem]
  constructor
  · rintro ⟨j, hj, e⟩; exact ⟨j, by simpa using hj, by rw [← e]; rfl⟩
  · rintro ⟨j, hj, e⟩; exact ⟨j, by simpa using hj, by rw [← e]; rfl⟩
theorem find30_no {s : ByteArray} {b : UInt8} (h : noByte s b s.size) : find30 s.data.toList b = -1 := by
  unfold find30
  rw [if_neg]
  intro hm
  obtain ⟨j, hj, e⟩ := mem_iff_get.1 hm
  exact h j hj hj e
theorem idxOf_first {b : UInt8} : ∀ (l : List UInt8) (k : Nat) (hk : k < l.length), l[k] = b → (∀ j, (h : j < l.length) → j < k → l[j] ≠ b) → l.idxOf b = k
  | [], k, hk, _, _ => absurd hk (by simp)
  | x :: l, k, hk, he, hn => by
    cases k with
    | zero =>
      have hx : x = b := by simpa using he
      rw [List.idxOf_cons]; simp [hx]
    | succ k =>
      have h0 : x ≠ b := by have := hn 0 (by simp) (by omega); simpa using this
      have ih := idxOf_first l k (by simpa using hk) (by simpa using he) (fun j hj hjk => by have := hn (j + 1) (by simpa using hj) (by omega); simpa using this)
      rw [List.idxOf_cons]
      have : (x == b) = false := by simpa using h0
      rw [this, ih]; rfl
theorem find30_yes {s : ByteArray} {b : UInt8} {k : Nat} (hk : k < s.size) (he : s[k] = b) (h : noByte s b k) : find30 s.data.toList b = k := by
  unfold find30
  rw [if_pos (mem_iff_get.2 ⟨k, hk, he⟩)]
  rw [idxOf_first s.data.toList k (by simpa using hk) (by rw [← he]; rfl) (fun j hj hjk => by have := h j (by simpa using hj) hjk; exact this)]
/-- The signs as a text. -/
def signS : ByteArray := ⟨#[40, 41, 123, 125, 59, 44, 43, 45, 42, 47, 37, 60, 61, 38, 33, 64]⟩
theorem sign_mem (b : UInt8) : b ∈ signS.data.toList ↔ b.toNat ∈ signs := by
  simp only [signS, signs, List.mem_cons, List.not_mem_nil, or_false, ← UInt8.toNat_inj]
  rfl
theorem find_sign_yes {b : UInt8} (h : b.toNat ∈ signs) : 0 ≤ find30 signS.data.toList b := by
  unfold find30; rw [if_pos ((sign_mem b).2 h)]; omega
theorem find_sign_no {b : UInt8} (h : b.toNat ∉ signs) : find30 signS.data.toList b = -1 := by
  unfold find30; rw [if_neg (fun e => h ((sign_mem b).1 e))]
/-- All bytes up to k are of a class. -/
def clsAll (s : ByteArray) (c : Int) (k : Nat) : Prop := ∀ j, (h : j < s.size) → j < k → cls (s[j]).toNat = c
theorem clsAll_succ {s : ByteArray} {c : Int} {k : Nat} (h : clsAll s c k) (hk : k < s.size) (hb : cls (s[k]).toNat = c) : clsAll s c (k + 1) := by
  intro j hj hjk
  by_cases e : j = k
  · subst e; exact hb
  · exact h j hj (by omega)
open Classical in
/-- All bytes of a text that is not empty are of a class. -/
noncomputable def allB (s : ByteArray) (c : Int) : Bool := decide (0 < s.size ∧ clsAll s c s.size)
theorem allB_no {s : ByteArray} {c : Int} {k : Nat} (hk : k < s.size) (h : cls (s[k]).toNat ≠ c) : allB s c = false := by
  unfold allB; rw [decide_eq_false_iff_not]; rintro ⟨_, h2⟩; exact h (h2 k hk hk)
theorem allB_end {s : ByteArray} {c : Int} (h : clsAll s c s.size) : allB s c = decide (0 < s.size) := by
  unfold allB; simp only [h, and_true]
/-- The text is a name. -/
noncomputable def nameB (s : ByteArray) : Bool := allB s 1 && decide (s.size ≤ 4) && !isKeyB s

theorem cls_letter {n : Nat} (h1 : 97 ≤ n) (h2 : n ≤ 122) : cls n = 1 := by unfold cls; rw [if_pos ⟨h1, h2⟩]
theorem cls_digit {n : Nat} (h1 : 48 ≤ n) (h2 : n ≤ 57) : cls n = 2 := by unfold cls; rw [if_neg (by omega), if_pos ⟨h1, h2⟩]
theorem cls_sign {n : Nat} (h0 : ¬ (97 ≤ n ∧ n ≤ 122)) (h1 : ¬ (48 ≤ n ∧ n ≤ 57)) (h : n ∈ signs) : cls n = 3 := by unfold cls; rw [if_neg h0, if_neg h1, if_pos h]
theorem cls_blank {n : Nat} (h : n = 32 ∨ n = 10) : cls n = 4 := by rcases h with rfl | rfl <;> decide
theorem cls_none {n : Nat} (h0 : ¬ (97 ≤ n ∧ n ≤ 122)) (h1 : ¬ (48 ≤ n ∧ n ≤ 57)) (h : n ∉ signs) (h2 : n ≠ 32) (h3 : n ≠ 10) : cls n = 0 := by
  unfold cls; rw [if_neg h0, if_neg h1, if_neg h, if_neg (by omega)]
theorem nameB_empty {s : ByteArray} (h : s.size = 0) : nameB s = false := by
  have : allB s 1 = false := by unfold allB; rw [decide_eq_false_iff_not]; omega
  unfold nameB; rw [this]; rfl
theorem nameB_long {s : ByteArray} (h : 4 < s.size) : nameB s = false := by
  unfold nameB
  have : decide (s.size ≤ 4) = false := by rw [decide_eq_false_iff_not]; omega
  rw [this]; simp
theorem nameB_key {s : ByteArray} (h : isKeyB s = true) : nameB s = false := by unfold nameB; rw [h]; simp
theorem nameB_bad {s : ByteArray} {k : Nat} (hk : k < s.size) (h : cls (s[k]).toNat ≠ 1) : nameB s = false := by unfold nameB; rw [allB_no hk h]; rfl
theorem nameB_yes {s : ByteArray} (h0 : 0 < s.size) (h4 : s.size ≤ 4) (hk : isKeyB s = false) (h : clsAll s 1 s.size) : nameB s = true := by
  unfold nameB; rw [allB_end h, hk]; simp [h0, h4]
end Go.Proofs.YtkhcfhhejmkikaaGreatDoor

namespace Go.Proofs.YtkhcfhhejmkikaaGreatDoor
open Go.RowKit
set_option maxRecDepth 100000

/-- The program's two tables stand in the world. -/
structure Tabs (w : World) : Prop where
  kinds : ∀ i, i < 128 → w.cell? ⟨1, i, none⟩ = some (.int .i64 (kt.getD i 0))
  size : 1 < w.heap.size ∧ 2 < w.heap.size
  keys : ∃ t fr, w.heap[2]? = some (.cells (keyL.map fun k => Value.string ⟨k.toArray⟩).toArray t fr)

set_option maxHeartbeats 400000 in
theorem kindOfByte_lo (b : UInt8) (z : Int) (w : World) (h : b.toNat < 128) (hc : w.cell? ⟨1, b.toNat, none⟩ = some (.int .i64 z)) :
    Calls Tryz.prog 87 #[.int .u8 b.toNat] w fun e w' => e = .returned (.int .i64 z) ∧ w = w' := by
  have hb : b.toNat < 256 := b.toNat_lt
  go_enter Tryz.func87, Tryz.ntmps87
  go_wp2
  go_ret
  exact ⟨rfl, rfl⟩
set_option maxHeartbeats 400000 in
theorem kindOfByte_hi (b : UInt8) (w : World) (h : ¬ b.toNat < 128) :
    Calls Tryz.prog 87 #[.int .u8 b.toNat] w fun e w' => e = .returned (.int .i64 0) ∧ w = w' := by
  have hb : b.toNat < 256 := b.toNat_lt
  have hb2 : 128 ≤ b.toNat := by omega
  go_enter Tryz.func87, Tryz.ntmps87
  go_wp2
  go_ret
  exact ⟨rfl, rfl⟩
theorem kindOfByte_any (b : UInt8) (w : World) (T : Tabs w) :
    Calls Tryz.prog 87 #[.int .u8 b.toNat] w fun e w' => e = .returned (.int .i64 (kindN b.toNat)) ∧ w = w' := by
  unfold kindN
  by_cases h : b.toNat < 128
  · rw [if_pos h]; exact kindOfByte_lo b _ w h (T.kinds _ h)
  · rw [if_neg h]; exact kindOfByte_hi b w h

set_option maxHeartbeats 400000 in
theorem inLetters_any (n : Int) (w : World) :
    Calls Tryz.prog 110 #[.int .i64 n] w fun e w' => e = .returned (.bool (n == 1)) ∧ w = w' := by
  go_enter Tryz.func110, Tryz.ntmps110
  go_wp2
  go_ret
  exact ⟨rfl, rfl⟩

theorem keyTab_at (k : Nat) (hk : k < 9) (w : World) : (Instr.index 147 keyTab (.int .i64 (k : Int))).run Tryz.prog w = .ok (.string (keyB k)) w := by
  have h : k = 0 ∨ k = 1 ∨ k = 2 ∨ k = 3 ∨ k = 4 ∨ k = 5 ∨ k = 6 ∨ k = 7 ∨ k = 8 := by omega
  rcases h with rfl | rfl | rfl | rfl | rfl | rfl | rfl | rfl | rfl <;> (show _ = _; kernel_rfl)
set_option maxHeartbeats 400000 in
theorem isKey_any (s : ByteArray) (w : World) (T : Tabs w) :
    Calls Tryz.prog 89 #[.string s] w fun e w' => e = .returned (.bool (isKeyB s)) ∧ w = w' := by
  obtain ⟨t, fr, hk⟩ := T.keys
  clear T
  go_enter Tryz.func89, Tryz.ntmps89
  go_wp2_with (with_reducible refine wpList_load_row rfl _ _ rfl _ rfl _ _ _ _ hk Tryz.underlying147 rfl (by kernel_rfl) ?_)
  clear hk
  have hidx := keyTab_at
  unfold keyTab at hidx
  generalize Value.agg (List.map (fun k => Value.string ⟨k.toArray⟩) keyL).toArray = KT at *
  have HI := Lib.hid hidx
  clear hidx
  go_loop [6] (fun i => ∃ k : Nat, k ≤ 9 ∧ i = .int .i64 k ∧ noKey s k) (fun i => 9 - (intOf i).toNat)
  case atStart => exact ⟨0, Nat.zero_le _, rfl, fun j hj => absurd hj (by omega)⟩
  case round =>
    obtain ⟨k, hk, rfl, hno⟩ := hrel
    by_cases hlt : k < 9
    · have hi := HI.out k hlt
      generalize hkb : keyB k = kb at *
      have HKB := Lib.hid hkb; clear hkb
      go_wp2
      · have he : s = kb := str_yes (by assumption)
        go_ret
        exact ⟨ret_bool (isKeyB_yes hlt (HKB.out.trans he.symm)).symm, rfl⟩
      · have he : s ≠ kb := str_no (by assumption)
        go_round
        case rel => exact ⟨k + 1, by omega, by go_num, noKey_succ hno (fun e => he (e.symm.trans HKB.out))⟩
        case measure => simp only [intOf]; omega
    · obtain rfl : k = 9 := by omega
      go_wp2
      go_ret
      exact ⟨ret_bool (isKeyB_no hno).symm, rfl⟩

set_option maxHeartbeats 400000 in
theorem l30Find_any (s : ByteArray) (b : UInt8) (w : World) (hs : s.size ≤ maxLen) :
    Calls Tryz.prog 93 #[.string s, .int .u8 b.toNat] w fun e w' => e = .returned (.int .i64 (find30 s.data.toList b)) ∧ w = w' := by
  unfold maxLen at hs
  go_enter Tryz.func93, Tryz.ntmps93
  go_wp2
  go_loop [5] (fun i => ∃ k : Nat, k ≤ s.size ∧ i = .int .i64 k ∧ noByte s b k) (fun i => s.size - (intOf i).toNat)
  case atStart => exact ⟨0, Nat.zero_le _, rfl, fun j _ hj => absurd hj (by omega)⟩
  case round =>
    obtain ⟨k, hk, rfl, hno⟩ := hrel
    by_cases hlt : k < s.size
    · go_wp2
      · have he : s[k] = b := byte_yes (by assumption)
        go_ret
        exact ⟨ret_int (find30_yes hlt he hno).symm, rfl⟩
      · have he : s[k] ≠ b := byte_no (by assumption)
        go_round
        case rel => exact ⟨k + 1, by omega, by go_num, noByte_succ hno hlt he⟩
        case measure => simp only [intOf]; omega
    · obtain rfl : k = s.size := by omega
      go_wp2
      go_ret
      exact ⟨ret_int (find30_no hno).symm, rfl⟩

set_option maxHeartbeats 400000 in
theorem l1Class_letter (b : UInt8) (w : World) (h1 : 97 ≤ b.toNat) (h2 : b.toNat ≤ 122) :
    Calls Tryz.prog 57 #[.int .u8 b.toNat] w fun e w' => e = .returned (.int .i64 1) ∧ w = w' := by
  go_enter Tryz.func57, Tryz.ntmps57
  go_wp2
  go_ret
  exact ⟨rfl, rfl⟩
set_option maxHeartbeats 400000 in
theorem l1Class_digit (b : UInt8) (w : World) (h1 : 48 ≤ b.toNat) (h2 : b.toNat ≤ 57) :
    Calls Tryz.prog 57 #[.int .u8 b.toNat] w fun e w' => e = .returned (.int .i64 2) ∧ w = w' := by
  go_enter Tryz.func57, Tryz.ntmps57
  go_wp2
  go_ret
  exact ⟨rfl, rfl⟩
set_option maxHeartbeats 1000000 in
theorem l1Class_sign (b : UInt8) (w : World) (h0 : ¬ (97 ≤ b.toNat ∧ b.toNat ≤ 122)) (h1 : ¬ (48 ≤ b.toNat ∧ b.toNat ≤ 57)) (h : b.toNat ∈ signs) :
    Calls Tryz.prog 57 #[.int .u8 b.toNat] w fun e w' => e = .returned (.int .i64 3) ∧ w = w' := by
  have hf := find_sign_yes h
  have C := l30Find_any signS b w (by decide)
  generalize find30 signS.data.toList b = z at *
  unfold signS at C
  have HC := Lib.hid C; clear C h
  by_cases a1 : 97 ≤ b.toNat <;> by_cases a2 : 48 ≤ b.toNat <;> try (exfalso; omega)
  all_goals
    first | (have a3 : 122 < b.toNat := by omega) | skip
    first | (have a4 : 57 < b.toNat := by omega) | skip
    clear h0 h1
    go_enter Tryz.func57, Tryz.ntmps57
    go_wp2_with fail
    refine HC.out.mono ?_
    rintro e w' ⟨rfl, rfl⟩
    go_wp2
    go_ret
    exact ⟨rfl, rfl⟩
set_option maxHeartbeats 1000000 in
theorem l1Class_rest (b : UInt8) (z : Int) (w : World) (h0 : ¬ (97 ≤ b.toNat ∧ b.toNat ≤ 122)) (h1 : ¬ (48 ≤ b.toNat ∧ b.toNat ≤ 57)) (h : b.toNat ∉ signs)
    (hz : (b.toNat = 32 ∧ z = 4) ∨ (b.toNat = 10 ∧ z = 4) ∨ (b.toNat ≠ 32 ∧ b.toNat ≠ 10 ∧ z = 0)) :
    Calls Tryz.prog 57 #[.int .u8 b.toNat] w fun e w' => e = .returned (.int .i64 z) ∧ w = w' := by
  have hf := find_sign_no h
  have C := l30Find_any signS b w (by decide)
  rw [hf] at C
  unfold signS at C
  have HC := Lib.hid C; clear C h hf
  rcases hz with ⟨g, rfl⟩ | ⟨g, rfl⟩ | ⟨g1, g2, rfl⟩
  · have b1 : ((b.toNat : Int) == 32) = true := by rw [beq_iff_eq]; omega
    have a3 : b.toNat < 97 := by omega
    have a4 : b.toNat < 48 := by omega
    clear h0 h1 g
    go_enter Tryz.func57, Tryz.ntmps57
    go_wp2_with fail
    refine HC.out.mono ?_
    rintro e w' ⟨rfl, rfl⟩
    go_wp2
    go_ret
    exact ⟨rfl, rfl⟩
  · have b1 : ((b.toNat : Int) == 32) = false := by rw [beq_eq_false_iff_ne]; omega
    have b2 : ((b.toNat : Int) == 10) = true := by rw [beq_iff_eq]; omega
    have a3 : b.toNat < 97 := by omega
    have a4 : b.toNat < 48 := by omega
    clear h0 h1 g
    go_enter Tryz.func57, Tryz.ntmps57
    go_wp2_with fail
    refine HC.out.mono ?_
    rintro e w' ⟨rfl, rfl⟩
    go_wp2
    go_ret
    exact ⟨rfl, rfl⟩
  · have b1 : ((b.toNat : Int) == 32) = false := by rw [beq_eq_false_iff_ne]; omega
    have b2 : ((b.toNat : Int) == 10) = false := by rw [beq_eq_false_iff_ne]; omega
    clear g1 g2
    by_cases a1 : 97 ≤ b.toNat <;> by_cases a2 : 48 ≤ b.toNat <;> try (exfalso; omega)
    all_goals
      first | (have a3 : 122 < b.toNat := by omega) | skip
      first | (have a4 : 57 < b.toNat := by omega) | skip
      clear h0 h1
      go_enter Tryz.func57, Tryz.ntmps57
      go_wp2_with fail
      refine HC.out.mono ?_
      rintro e w' ⟨rfl, rfl⟩
      go_wp2
      go_ret
      exact ⟨rfl, rfl⟩
theorem l1Class_any (b : UInt8) (w : World) :
    Calls Tryz.prog 57 #[.int .u8 b.toNat] w fun e w' => e = .returned (.int .i64 (cls b.toNat)) ∧ w = w' := by
  by_cases h1 : 97 ≤ b.toNat ∧ b.toNat ≤ 122
  · rw [cls_letter h1.1 h1.2]; exact l1Class_letter b w h1.1 h1.2
  by_cases h2 : 48 ≤ b.toNat ∧ b.toNat ≤ 57
  · rw [cls_digit h2.1 h2.2]; exact l1Class_digit b w h2.1 h2.2
  by_cases h3 : b.toNat ∈ signs
  · rw [cls_sign h1 h2 h3]; exact l1Class_sign b w h1 h2 h3
  by_cases h4 : b.toNat = 32
  · rw [cls_blank (.inl h4)]; exact l1Class_rest b 4 w h1 h2 h3 (.inl ⟨h4, rfl⟩)
  by_cases h5 : b.toNat = 10
  · rw [cls_blank (.inr h5)]; exact l1Class_rest b 4 w h1 h2 h3 (.inr (.inl ⟨h5, rfl⟩))
  · rw [cls_none h1 h2 h3 h4 h5]; exact l1Class_rest b 0 w h1 h2 h3 (.inr (.inr ⟨h4, h5, rfl⟩))
end Go.Proofs.YtkhcfhhejmkikaaGreatDoor

namespace Go.Proofs.YtkhcfhhejmkikaaGreatDoor
open Go.RowKit
set_option maxRecDepth 100000

set_option maxHeartbeats 400000 in
theorem l1All_any (s : ByteArray) (c : Int) (w : World) (hs : s.size ≤ maxLen) :
    Calls Tryz.prog 108 #[.string s, .int .i64 c] w fun e w' => e = .returned (.bool (allB s c)) ∧ w = w' := by
  unfold maxLen at hs
  go_enter Tryz.func108, Tryz.ntmps108
  go_wp2
  go_loop [5] (fun i => ∃ k : Nat, k ≤ s.size ∧ i = .int .i64 k ∧ clsAll s c k) (fun i => s.size - (intOf i).toNat)
  case atStart => exact ⟨0, Nat.zero_le _, rfl, fun j _ hj => absurd hj (by omega)⟩
  case round =>
    obtain ⟨k, hk, rfl, hno⟩ := hrel
    by_cases hlt : k < s.size
    · go_wp2_with fail
      refine (l1Class_any s[k] _).mono ?_
      rintro e w' ⟨rfl, rfl⟩
      by_cases hc : cls s[k].toNat = c
      · have hb : (cls s[k].toNat == c) = true := beq_iff_eq.2 hc
        have hb2 : (cls s[k].toNat != c) = false := by rw [bne, hb]; rfl
        have HC := Lib.hid hc; clear hc
        go_wp2
        go_round
        case rel => exact ⟨k + 1, by omega, by go_num, clsAll_succ hno hlt HC.out⟩
        case measure => simp only [intOf]; omega
      · have hb : (cls s[k].toNat == c) = false := by rw [beq_eq_false_iff_ne]; exact hc
        have hb2 : (cls s[k].toNat != c) = true := by rw [bne, hb]; rfl
        have HC := Lib.hid hc; clear hc
        go_wp2
        go_ret
        exact ⟨ret_bool (allB_no hlt HC.out).symm, rfl⟩
    · obtain rfl : k = s.size := by omega
      go_wp2
      go_ret
      refine ⟨ret_bool ?_, rfl⟩
      rw [allB_end hno]

/-- The block that a call of the model's KeyWords makes. -/
def keyBlock : Obj := .cells (keyL.map fun k => Value.string ⟨k.toArray⟩).toArray 9 (0, 0)
set_option maxHeartbeats 400000 in
theorem specKeyWords_any (w : World) :
    Calls Tryz.prog 109 #[] w fun e w' => e = .returned (.slice (some ⟨w.heap.size, 0, none⟩) 9 9) ∧ w' = w.alloc keyBlock := by
  go_enter Tryz.func109, Tryz.ntmps109
  go_wp2
  go_ret
  exact ⟨rfl, rfl⟩
theorem keyBlock_cell (w : World) (k : Nat) (hk : k < 9) : (w.alloc keyBlock).cell? ⟨w.heap.size, k, none⟩ = some (.string (keyB k)) := by
  have h : k = 0 ∨ k = 1 ∨ k = 2 ∨ k = 3 ∨ k = 4 ∨ k = 5 ∨ k = 6 ∨ k = 7 ∨ k = 8 := by omega
  have hb : (w.alloc keyBlock).heap[w.heap.size]? = some keyBlock := by
    show (w.heap.push keyBlock)[w.heap.size]? = _
    simp
  unfold World.cell?
  rw [hb]
  rcases h with rfl | rfl | rfl | rfl | rfl | rfl | rfl | rfl | rfl <;> rfl
set_option maxHeartbeats 400000 in
theorem l1Key_exact (s : ByteArray) (w : World) :
    Calls Tryz.prog 95 #[.string s] w fun e w' => e = .returned (.bool (isKeyB s)) ∧ w' = w.alloc keyBlock := by
  go_enter Tryz.func95, Tryz.ntmps95
  go_wp2_with fail
  refine (specKeyWords_any _).mono ?_
  rintro e w' ⟨rfl, rfl⟩
  go_wp2
  go_loop [4] (fun i => ∃ k : Nat, k ≤ 9 ∧ i = .int .i64 k ∧ noKey s k) (fun i => 9 - (intOf i).toNat)
  case atStart => exact ⟨0, Nat.zero_le _, rfl, fun j hj => absurd hj (by omega)⟩
  case round =>
    obtain ⟨k, hk, rfl, hno⟩ := hrel
    by_cases hlt : k < 9
    · have hi := keyBlock_cell w k hlt
      generalize hkb : keyB k = kb at *
      have HKB := Lib.hid hkb; clear hkb
      go_wp2
      · have he : kb = s := str_yes (by assumption)
        go_ret
        exact ⟨ret_bool (isKeyB_yes hlt (HKB.out.trans he)).symm, rfl⟩
      · have he : kb ≠ s := str_no (by assumption)
        go_round
        case rel => exact ⟨k + 1, by omega, by go_num, noKey_succ hno (fun e => he (HKB.out.symm.trans e))⟩
        case measure => simp only [intOf]; omega
    · obtain rfl : k = 9 := by omega
      go_wp2
      go_ret
      exact ⟨ret_bool (isKeyB_no hno).symm, rfl⟩
theorem l1Key_any (s : ByteArray) (w : World) :
    Calls Tryz.prog 95 #[.string s] w fun e w' => e = .returned (.bool (isKeyB s)) ∧ Below w.heap.size w w' :=
  (l1Key_exact s w).mono fun _ _ ⟨he, hw⟩ => ⟨he, by subst hw; exact (Below.refl _ _).alloc (Nat.le_refl _) _⟩

set_option maxHeartbeats 400000 in
theorem specIsName_any (s : ByteArray) (w : World) (hs : s.size ≤ maxLen) :
    Calls Tryz.prog 80 #[.string s] w fun e w' => e = .returned (.bool (nameB s)) ∧ Below w.heap.size w w' := by
  have hs' := hs
  unfold maxLen at hs'
  have C1 := Lib.hid (l1All_any s 1 w hs)
  have C2 := Lib.hid (l1Key_any s w)
  unfold nameB
  generalize allB s 1 = a at *
  generalize isKeyB s = b at *
  clear hs
  cases a
  · go_enter Tryz.func80, Tryz.ntmps80
    go_wp2_with fail
    refine C1.out.mono ?_
    rintro e w' ⟨rfl, rfl⟩
    go_wp2
    go_ret
    exact ⟨rfl, Below.refl _ _⟩
  · by_cases h4 : s.size ≤ 4
    · go_enter Tryz.func80, Tryz.ntmps80
      go_wp2_with fail
      refine C1.out.mono ?_
      rintro e w' ⟨rfl, rfl⟩
      go_wp2_with fail
      refine C2.out.mono ?_
      rintro e w' ⟨rfl, hb⟩
      go_wp2
      go_ret
      exact ⟨ret_bool (by simp [h4]), hb⟩
    · go_enter Tryz.func80, Tryz.ntmps80
      go_wp2_with fail
      refine C1.out.mono ?_
      rintro e w' ⟨rfl, rfl⟩
      go_wp2
      go_ret
      exact ⟨ret_bool (by simp), Below.refl _ _⟩

theorem Tabs.below {w w' : World} (T : Tabs w) (hb : Below w.heap.size w w') : Tabs w' := by
  obtain ⟨t, fr, hk⟩ := T.keys
  have hsz := T.size
  exact ⟨fun i hi => by rw [hb.cell (p := ⟨1, i, none⟩) (by show 1 < w.heap.size; omega)]; exact T.kinds i hi, ⟨by have := hb.size; omega, by have := hb.size; omega⟩, t, fr, by rw [hb.block _ (by omega)]; exact hk⟩
set_option maxHeartbeats 400000 in
theorem implIsName_any (s : ByteArray) (w : World) (T : Tabs w) :
    Calls Tryz.prog 90 #[.string s] w fun e w' => e = .returned (.bool (nameB s)) ∧ w = w' := by
  by_cases h0 : s.size = 0
  · rw [nameB_empty h0]
    obtain rfl : s = ⟨#[]⟩ := by cases s with | mk d => simp [ByteArray.size] at h0; rw [h0]
    clear T h0
    go_enter Tryz.func90, Tryz.ntmps90
    go_wp2
    go_ret
    exact ⟨rfl, rfl⟩
  have e1 : s.toList.isEmpty = false := by
    rw [ByteArray.toList_eq, List.isEmpty_eq_false_iff]
    intro e
    apply h0
    have := congrArg List.length e
    simpa using this
  have e2 : (!s.toList.isEmpty) = true := by rw [e1]; rfl
  by_cases h4 : 4 < s.size
  · rw [nameB_long h4]
    clear T
    go_enter Tryz.func90, Tryz.ntmps90
    go_wp2
    go_ret
    exact ⟨rfl, rfl⟩
  have C1 := Lib.hid (isKey_any s w T)
  have h4' : s.size ≤ 4 := by omega
  cases hk : isKeyB s
  · rw [hk] at C1
    have HK := Lib.hid hk; clear hk
    go_enter Tryz.func90, Tryz.ntmps90
    go_wp2_with fail
    refine C1.out.mono ?_
    rintro e w' ⟨rfl, rfl⟩
    go_wp2
    go_loop [17] (fun i => ∃ k : Nat, k ≤ s.size ∧ i = .int .i64 k ∧ clsAll s 1 k) (fun i => s.size - (intOf i).toNat)
    case atStart => exact ⟨0, Nat.zero_le _, rfl, fun j _ hj => absurd hj (by omega)⟩
    case round =>
      obtain ⟨k, hk, rfl, hno⟩ := hrel
      by_cases hlt : k < s.size
      · go_wp2_with fail
        refine (kindOfByte_any s[k] _ T).mono ?_
        rintro e w' ⟨rfl, rfl⟩
        go_wp2_with fail
        refine (inLetters_any _ _).mono ?_
        rintro e w' ⟨rfl, rfl⟩
        by_cases hc : cls s[k].toNat = 1
        · have hb : (kindN s[k].toNat == 1) = true := beq_iff_eq.2 ((kindN_one _).2 hc)
          have HC := Lib.hid hc; clear hc
          go_wp2
          go_round
          case rel => exact ⟨k + 1, by omega, by go_num, clsAll_succ hno hlt HC.out⟩
          case measure => simp only [intOf]; omega
        · have hb : (kindN s[k].toNat == 1) = false := by rw [beq_eq_false_iff_ne]; exact fun e => hc ((kindN_one _).1 e)
          have HC := Lib.hid hc; clear hc
          go_wp2
          go_ret
          exact ⟨ret_bool (nameB_bad hlt HC.out).symm, rfl⟩
      · obtain rfl : k = s.size := by omega
        go_wp2
        go_ret
        exact ⟨ret_bool (nameB_yes (by omega) h4' HK.out hno).symm, rfl⟩
  · rw [nameB_key hk]
    rw [hk] at C1
    clear hk
    go_enter Tryz.func90, Tryz.ntmps90
    go_wp2_with fail
    refine C1.out.mono ?_
    rintro e w' ⟨rfl, rfl⟩
    go_wp2
    go_ret
    exact ⟨rfl, rfl⟩

end Go.Proofs.YtkhcfhhejmkikaaGreatDoor

namespace Go.Proofs.YtkhcfhhejmkikaaGreatDoor

def isDig (b : UInt8) : Bool := decide (48 ≤ b.toNat ∧ b.toNat ≤ 57)
/-- What digits tell, behind what was told already. -/
def valFrom (acc : Nat) : List UInt8 → Nat
  | [] => acc
  | b :: l => valFrom (acc * 10 + (b.toNat - 48)) l
def numV (l : List UInt8) : Nat := valFrom 0 l
theorem valFrom_snoc (l : List UInt8) (b : UInt8) : ∀ acc, valFrom acc (l ++ [b]) = valFrom acc l * 10 + (b.toNat - 48) := by
  induction l with
  | nil => intro acc; rfl
  | cons c l ih => intro acc; exact ih _
theorem numV_snoc (l : List UInt8) (b : UInt8) : numV (l ++ [b]) = numV l * 10 + (b.toNat - 48) := valFrom_snoc l b 0
theorem valFrom_ge (l : List UInt8) : ∀ acc, acc * 10 ^ l.length ≤ valFrom acc l := by
  induction l with
  | nil => intro acc; show acc * 1 ≤ acc; omega
  | cons c l ih =>
    intro acc
    have := ih (acc * 10 + (c.toNat - 48))
    rw [List.length_cons, Nat.pow_succ]
    have h1 : acc * (10 ^ l.length * 10) = (acc * 10) * 10 ^ l.length := by rw [Nat.mul_comm (10 ^ l.length) 10, Nat.mul_assoc]
    rw [h1]
    have h2 : acc * 10 ≤ acc * 10 + (c.toNat - 48) := Nat.le_add_right _ _
    exact Nat.le_trans (Nat.mul_le_mul_right (10 ^ l.length) h2) this
theorem valFrom_lt (l : List UInt8) : l.all isDig = true → ∀ acc, valFrom acc l < (acc + 1) * 10 ^ l.length := by
  induction l with
  | nil => intro _ acc; show acc < (acc + 1) * 1; omega
  | cons c l ih =>
    intro h acc
    simp only [List.all_cons, Bool.and_eq_true] at h
    have hc : c.toNat - 48 ≤ 9 := by have := h.1; unfold isDig at this; rw [decide_eq_true_eq] at this; omega
    have := ih h.2 (acc * 10 + (c.toNat - 48))
    rw [List.length_cons, Nat.pow_succ]
    have h1 : (acc + 1) * (10 ^ l.length * 10) = ((acc + 1) * 10) * 10 ^ l.length := by rw [Nat.mul_comm (10 ^ l.length) 10, Nat.mul_assoc]
    rw [h1]
    have h2 : acc * 10 + (c.toNat - 48) + 1 ≤ (acc + 1) * 10 := by omega
    exact Nat.lt_of_lt_of_le this (Nat.mul_le_mul_right (10 ^ l.length) h2)
theorem numV_lt {l : List UInt8} (h : l.all isDig = true) (hl : l.length ≤ 17) : numV l < 100000000000000000 := by
  have h1 := valFrom_lt l h 0
  have h2 : 10 ^ l.length ≤ 10 ^ 17 := Nat.pow_le_pow_right (by omega) hl
  have h3 : (10 : Nat) ^ 17 = 100000000000000000 := by decide
  unfold numV
  omega
/-- All of the first k bytes are digits. -/
def digTo (s : ByteArray) (k : Nat) : Prop := (s.data.toList.take k).all isDig = true
theorem take_snoc (s : ByteArray) (k : Nat) (h : k < s.size) : s.data.toList.take (k + 1) = s.data.toList.take k ++ [s[k]] := by
  rw [List.take_succ_eq_append_getElem (by simpa using h)]; rfl
theorem digTo_succ {s : ByteArray} {k : Nat} (h : digTo s k) (hk : k < s.size) (hb : 48 ≤ (s[k]).toNat ∧ (s[k]).toNat ≤ 57) : digTo s (k + 1) := by
  unfold digTo at h ⊢
  rw [take_snoc s k hk, List.all_append, h]
  simp [isDig, hb]
theorem digTo_end {s : ByteArray} (h : digTo s s.size) : s.data.toList.all isDig = true := by
  unfold digTo at h
  rwa [List.take_of_length_le (by simp)] at h
theorem not_dig {s : ByteArray} {k : Nat} (hk : k < s.size) (hb : ¬ (48 ≤ (s[k]).toNat ∧ (s[k]).toNat ≤ 57)) : s.data.toList.all isDig = false := by
  rw [List.all_eq_false]
  exact ⟨s[k], mem_iff_get.2 ⟨k, hk, rfl⟩, by unfold isDig; simpa using hb⟩
/-- What the first k bytes tell. -/
def valTo (s : ByteArray) (k : Nat) : Nat := numV (s.data.toList.take k)
theorem valTo_succ {s : ByteArray} {k : Nat} (hk : k < s.size) : valTo s (k + 1) = valTo s k * 10 + ((s[k]).toNat - 48) := by
  unfold valTo; rw [take_snoc s k hk, numV_snoc]
theorem valTo_end (s : ByteArray) : valTo s s.size = numV s.data.toList := by
  unfold valTo; rw [List.take_of_length_le (by simp)]
theorem valTo_lt {s : ByteArray} {k : Nat} (h : digTo s k) (hk : k ≤ s.size) (hs : s.size ≤ 17) : valTo s k < 100000000000000000 :=
  numV_lt h (by rw [List.length_take]; simp; omega)
/-- What the model's reader of numbers says of a text behind its sign. -/
def numEnd (neg : Bool) (r : ByteArray) : Int × Bool :=
  if r.size = 0 ∨ 17 < r.size ∨ (r.data.toList.head? = some 48 ∧ (1 < r.size ∨ neg = true)) then (0, false)
  else if r.data.toList.all isDig = true then (if neg then -(numV r.data.toList : Int) else numV r.data.toList, true) else (0, false)
theorem numEnd_no {neg : Bool} {r : ByteArray} (h : r.size = 0 ∨ 17 < r.size ∨ (r.data.toList.head? = some 48 ∧ (1 < r.size ∨ neg = true))) : numEnd neg r = (0, false) := by unfold numEnd; rw [if_pos h]
theorem numEnd_bad {neg : Bool} {r : ByteArray} (h : r.data.toList.all isDig = false) : numEnd neg r = (0, false) := by
  unfold numEnd; rw [h]; simp
theorem numEnd_yes {neg : Bool} {r : ByteArray} (h : ¬ (r.size = 0 ∨ 17 < r.size ∨ (r.data.toList.head? = some 48 ∧ (1 < r.size ∨ neg = true)))) (hd : r.data.toList.all isDig = true) :
    numEnd neg r = (if neg then -(numV r.data.toList : Int) else numV r.data.toList, true) := by unfold numEnd; rw [if_neg h, if_pos hd]
theorem head_get {r : ByteArray} (h : 0 < r.size) : r.data.toList.head? = some r[0] := by
  rw [List.head?_eq_getElem?, List.getElem?_eq_getElem (by simpa using h)]; rfl
/-- What the model's reader of numbers says of a text. -/
def l30F (s : ByteArray) : Int × Bool := if s.data.toList.head? = some 45 then numEnd true (s.extract 1 s.size) else numEnd false s
/-- A numeral without needless zeros. -/
def canon (l : List UInt8) : Bool := !l.isEmpty && l.all isDig && (!(l.head? == some 48) || l.length == 1)
/-- The number from 0 to 255 that a text tells, or -1. -/
def numB (l : List UInt8) : Int := if canon l = true ∧ numV l ≤ 255 then numV l else -1

theorem canon_one {b : UInt8} (h : isDig b = true) : canon [b] = true := by simp [canon, h]
theorem canon_snoc {l : List UInt8} {b : UInt8} (hl : l ≠ []) (h : canon (l ++ [b]) = true) : canon l = true ∧ isDig b = true ∧ 1 ≤ numV l := by
  cases l with
  | nil => exact absurd rfl hl
  | cons c r =>
    simp only [canon, List.cons_append, List.isEmpty_cons, Bool.not_false, Bool.true_and, List.all_cons, List.all_append, List.all_nil, Bool.and_true, List.head?_cons, List.length_cons, List.length_append, List.length_nil, Bool.and_eq_true, Bool.or_eq_true, Bool.not_eq_true', beq_iff_eq] at h ⊢
    obtain ⟨⟨hc, hr, hb⟩, hz⟩ := h
    have hz' : (some c == some 48) = false := by
      rcases hz with hz | hz
      · exact hz
      · omega
    refine ⟨⟨⟨hc, hr⟩, .inl hz'⟩, hb, ?_⟩
    have hne : c ≠ 48 := by simpa using hz'
    have hge := valFrom_ge r (0 * 10 + (c.toNat - 48))
    have hcd : 49 ≤ c.toNat := by
      unfold isDig at hc; rw [decide_eq_true_eq] at hc
      have : c.toNat ≠ 48 := fun e => hne (UInt8.toNat_inj.1 (by rw [e]; rfl))
      omega
    have hp : 1 ≤ 10 ^ r.length := Nat.one_le_pow _ _ (by omega)
    show 1 ≤ valFrom 0 (c :: r)
    show 1 ≤ valFrom (0 * 10 + (c.toNat - 48)) r
    have : 1 * 1 ≤ (0 * 10 + (c.toNat - 48)) * 10 ^ r.length := Nat.mul_le_mul (by omega) hp
    omega

theorem ofNat_dig {b : UInt8} (h : isDig b = true) : UInt8.ofNat (48 + (b.toNat - 48)) = b := by
  unfold isDig at h; rw [decide_eq_true_eq] at h
  apply UInt8.toNat_inj.1
  rw [UInt8.toNat_ofNat']
  have := b.toNat_lt
  omega
theorem dig_lt {b : UInt8} (h : isDig b = true) : b.toNat - 48 < 10 := by
  unfold isDig at h; rw [decide_eq_true_eq] at h; omega

/-- Only one text tells a number. -/
theorem canon_dec : ∀ (n : Nat) (l : List UInt8), l.length = n → canon l = true → Lib.decDigits (numV l) = l := by
  intro n
  induction n with
  | zero =>
    intro l hl h
    have : l = [] := List.length_eq_zero_iff.1 hl
    subst this
    simp [canon] at h
  | succ n ih =>
    intro l hl h
    have hne : l ≠ [] := by rintro rfl; simp at hl
    obtain ⟨r, b, rfl⟩ : ∃ r b, l = r ++ [b] := ⟨l.dropLast, l.getLast hne, (List.dropLast_concat_getLast hne).symm⟩
    by_cases hr : r = []
    · subst hr
      have hb : isDig b = true := by simp [canon] at h; exact h
      have e : numV ([] ++ [b]) = b.toNat - 48 := by rw [numV_snoc]; show 0 * 10 + _ = _; omega
      rw [e, Lib.decDigits_one (dig_lt hb), ofNat_dig hb]
      rfl
    · obtain ⟨h1, h2, h3⟩ := canon_snoc hr h
      have hd := dig_lt h2
      rw [numV_snoc, Lib.decDigits, dif_neg (by omega)]
      have e1 : (numV r * 10 + (b.toNat - 48)) / 10 = numV r := by omega
      have e2 : (numV r * 10 + (b.toNat - 48)) % 10 = b.toNat - 48 := by omega
      rw [e1, e2, ih r (by simpa using hl) h1, ofNat_dig h2]

theorem dec1 : ∀ n < 10, canon [UInt8.ofNat (48 + n)] = true ∧ numV [UInt8.ofNat (48 + n)] = n := by decide +kernel
theorem dec2 : ∀ n < 100, 10 ≤ n → canon [UInt8.ofNat (48 + n / 10), UInt8.ofNat (48 + n % 10)] = true ∧ numV [UInt8.ofNat (48 + n / 10), UInt8.ofNat (48 + n % 10)] = n := by decide +kernel
theorem dec3 : ∀ n < 256, 100 ≤ n → canon [UInt8.ofNat (48 + n / 10 / 10), UInt8.ofNat (48 + n / 10 % 10), UInt8.ofNat (48 + n % 10)] = true ∧ numV [UInt8.ofNat (48 + n / 10 / 10), UInt8.ofNat (48 + n / 10 % 10), UInt8.ofNat (48 + n % 10)] = n := by decide +kernel
theorem decDigits_three {n : Nat} (h : 100 ≤ n) (h2 : n < 1000) : Lib.decDigits n = [UInt8.ofNat (48 + n / 10 / 10), UInt8.ofNat (48 + n / 10 % 10), UInt8.ofNat (48 + n % 10)] := by
  rw [Lib.decDigits, dif_neg (by omega), Lib.decDigits_two (by omega) (by omega)]
  rfl
theorem dec_canon_all (n : Nat) (hn : n < 256) : canon (Lib.decDigits n) = true ∧ numV (Lib.decDigits n) = n := by
  by_cases h1 : n < 10
  · rw [Lib.decDigits_one h1]; exact dec1 n h1
  · by_cases h2 : n < 100
    · rw [Lib.decDigits_two h1 h2]; exact dec2 n h2 (by omega)
    · rw [decDigits_three (by omega) (by omega)]; exact dec3 n hn (by omega)

theorem canon_len {l : List UInt8} (h : canon l = true) (hv : numV l ≤ 255) : l.length ≤ 3 := by
  have e := canon_dec _ l rfl h
  rw [← e, Lib.decDigits_length]
  by_cases h3 : Lib.nDigits (numV l) ≤ 3
  · exact h3
  · exfalso
    have hu : numV l < 1000 := by omega
    by_cases h1 : numV l < 10
    · rw [Lib.nDigits_small h1] at h3; omega
    · by_cases h2 : numV l < 100
      · have := Lib.nDigits_unique 1 (numV l) (by omega) (by omega); omega
      · have := Lib.nDigits_unique 2 (numV l) (by omega) (by omega); omega
theorem parseUint_dig : ∀ (l : List UInt8) (acc : Nat), l.all isDig = true → (acc + 1) * 10 ^ l.length ≤ 1000000 → Lib.parseUint10 acc l = .ok (valFrom acc l)
  | [], acc, _, _ => rfl
  | c :: r, acc, h, hb => by
    simp only [List.all_cons, Bool.and_eq_true] at h
    have hc : 48 ≤ c.toNat ∧ c.toNat ≤ 57 := by have := h.1; unfold isDig at this; rwa [decide_eq_true_eq] at this
    rw [List.length_cons, Nat.pow_succ] at hb
    have h1 : (acc + 1) * (10 ^ r.length * 10) = ((acc + 1) * 10) * 10 ^ r.length := by rw [Nat.mul_comm (10 ^ r.length) 10, Nat.mul_assoc]
    rw [h1] at hb
    have hp : 1 ≤ 10 ^ r.length := Nat.one_le_pow _ _ (by omega)
    have h2 : (acc + 1) * 10 * 1 ≤ (acc + 1) * 10 * 10 ^ r.length := Nat.mul_le_mul_left _ hp
    simp only [Lib.parseUint10]
    rw [if_pos hc, if_neg (by omega), if_neg (by omega)]
    exact parseUint_dig r _ h.2 (Nat.le_trans (Nat.mul_le_mul_right _ (by omega)) hb)
/-- A text that tells a number is read so. -/
theorem atoi_canon {l : List UInt8} (h : canon l = true) (hv : numV l ≤ 255) : Lib.atoiAll l = .ok (numV l) := by
  have hlen := canon_len h hv
  cases l with
  | nil => simp [canon] at h
  | cons c r =>
    have hd : (c :: r).all isDig = true := by
      simp only [canon, Bool.and_eq_true] at h; exact h.1.2
    have hc : 48 ≤ c.toNat := by
      simp only [List.all_cons, Bool.and_eq_true] at hd
      have := hd.1; unfold isDig at this; rw [decide_eq_true_eq] at this; omega
    rw [Lib.atoiAll_plain c r (by omega) (by omega)]
    have hp : (0 + 1) * 10 ^ (c :: r).length ≤ 1000000 := by
      have : (c :: r).length = 1 ∨ (c :: r).length = 2 ∨ (c :: r).length = 3 := by simp only [List.length_cons] at hlen ⊢; omega
      rcases this with e | e | e <;> rw [e] <;> decide
    unfold Lib.parseMag
    rw [if_neg (by simp), parseUint_dig _ 0 hd hp]
    show (if 9223372036854775808 ≤ numV (c :: r) then Lib.NumEnd.range else Lib.NumEnd.ok ((numV (c :: r) : Nat) : Int)) = _
    rw [if_neg (by omega)]
/-- The program's way to a number: read, then written again. -/
theorem numB_of_atoi {l : List UInt8} {v : Int} (h0 : 0 ≤ v) (h1 : v ≤ 255) (he : Lib.itoa v = l) : numB l = v := by
  have hv : Lib.itoa v = Lib.decDigits v.toNat := by unfold Lib.itoa; rw [if_neg (by omega)]
  have hc := dec_canon_all v.toNat (by omega)
  rw [← hv, he] at hc
  unfold numB
  rw [if_pos ⟨hc.1, by omega⟩]
  omega
theorem numB_not {l : List UInt8} (h : ∀ v : Int, Lib.atoiAll l = .ok v → 0 ≤ v → v ≤ 255 → Lib.itoa v ≠ l) : numB l = -1 := by
  unfold numB
  by_cases hc : canon l = true ∧ numV l ≤ 255
  · exfalso
    have e := canon_dec _ l rfl hc.1
    refine h _ (atoi_canon hc.1 hc.2) (by omega) (by omega) ?_
    unfold Lib.itoa
    rw [if_neg (by omega)]
    simpa using e
  · rw [if_neg hc]
theorem numB_range (l : List UInt8) : -1 ≤ numB l ∧ numB l ≤ 255 := by
  unfold numB; split <;> omega
theorem numB_l30F (s : ByteArray) : numB s.data.toList = if (l30F s).2 = true ∧ 0 ≤ (l30F s).1 ∧ (l30F s).1 ≤ 255 then (l30F s).1 else -1 := by
  unfold l30F
  by_cases hneg : s.data.toList.head? = some 45
  · rw [if_pos hneg]
    have hnc : canon s.data.toList = false := by
      cases hl : s.data.toList with
      | nil => rfl
      | cons c r =>
        rw [hl] at hneg
        have : c = 45 := by simpa using hneg
        subst this
        simp [canon, isDig]
    have e1 : numB s.data.toList = -1 := by unfold numB; rw [hnc]; simp
    rw [e1, if_neg]
    rintro ⟨h1, h2, h3⟩
    unfold numEnd at h1 h2
    split at h1
    · cases h1
    · rename_i hn
      rw [if_neg hn] at h2
      split at h1
      · rename_i hd
        rw [if_pos hd] at h2
        have h2' : 0 ≤ -(numV (s.extract 1 s.size).data.toList : Int) := h2
        generalize s.extract 1 s.size = r at *
        have hr0 : r.size ≠ 0 := fun e => hn (.inl e)
        have hc : canon r.data.toList = true := by
          unfold canon
          have h0 : r.data.toList.isEmpty = false := by
            rw [List.isEmpty_eq_false_iff]; intro e; apply hr0; have := congrArg List.length e; simpa using this
          have h48 : (r.data.toList.head? == some 48) = false := by rw [beq_eq_false_iff_ne]; exact fun e => hn (.inr (.inr ⟨e, .inr rfl⟩))
          rw [hd, h0, h48]; rfl
        have hv0 : numV r.data.toList = 0 := by omega
        have := canon_dec _ _ rfl hc
        rw [hv0, Lib.decDigits_one (by omega)] at this
        exact hn (.inr (.inr ⟨by rw [← this]; rfl, .inr rfl⟩))
      · cases h1
  · rw [if_neg hneg]
    unfold numB
    by_cases hc : canon s.data.toList = true ∧ numV s.data.toList ≤ 255
    · rw [if_pos hc]
      have hlen := canon_len hc.1 hc.2
      have hlen' : s.size ≤ 3 := by simpa using hlen
      have hcc := hc.1
      simp only [canon, Bool.and_eq_true, Bool.or_eq_true, Bool.not_eq_true', beq_iff_eq, beq_eq_false_iff_ne] at hcc
      obtain ⟨⟨h1, h2⟩, h3⟩ := hcc
      have hs0 : s.size ≠ 0 := by
        intro e
        have : s.data.toList = [] := List.length_eq_zero_iff.1 (by simpa using e)
        rw [this] at h1; simp at h1
      have hy : numEnd false s = (((numV s.data.toList : Nat) : Int), true) := by
        rw [numEnd_yes (by
          rintro (h | h | ⟨h, h' | h'⟩)
          · exact hs0 h
          · omega
          · rcases h3 with h3 | h3
            · exact h3 h
            · simp at h3; omega
          · cases h') h2]
        rfl
      rw [hy, if_pos ⟨rfl, by show (0 : Int) ≤ (numV s.data.toList : Int); omega, by show ((numV s.data.toList : Nat) : Int) ≤ 255; omega⟩]
    · rw [if_neg hc, if_neg]
      rintro ⟨h1, h2, h3⟩
      unfold numEnd at h1 h2 h3
      split at h1
      · cases h1
      · rename_i hn
        rw [if_neg hn] at h2 h3
        split at h1
        · rename_i hd
          rw [if_pos hd] at h2 h3
          have h3' : ((numV s.data.toList : Nat) : Int) ≤ 255 := h3
          apply hc
          refine ⟨?_, by omega⟩
          have hs0 : s.data.toList.isEmpty = false := by
            rw [List.isEmpty_eq_false_iff]; intro e; apply hn; left; have := congrArg List.length e; simpa using this
          unfold canon
          rw [hd, hs0]
          by_cases h48 : s.data.toList.head? = some 48
          · have : s.size = 1 := by
              have h1' : ¬ 1 < s.size := fun e => hn (.inr (.inr ⟨h48, .inl e⟩))
              have h0' : s.size ≠ 0 := fun e => hn (.inl e)
              omega
            have h1 : (s.data.toList.length == 1) = true := by rw [beq_iff_eq]; simpa using this
            rw [h1]; simp
          · have h1 : (s.data.toList.head? == some 48) = false := by rw [beq_eq_false_iff_ne]; exact h48
            rw [h1]; rfl
        · cases h1
end Go.Proofs.YtkhcfhhejmkikaaGreatDoor

namespace Go.Proofs.YtkhcfhhejmkikaaGreatDoor
open Go.RowKit
set_option maxRecDepth 100000

set_option maxHeartbeats 400000 in
theorem l1In_any (n a b : Int) (w : World) :
    Calls Tryz.prog 79 #[.int .i64 n, .int .i64 a, .int .i64 b] w fun e w' => e = .returned (.bool (decide (a ≤ n ∧ n ≤ b))) ∧ w = w' := by
  by_cases h1 : a ≤ n
  · by_cases h2 : n ≤ b
    · go_enter Tryz.func79, Tryz.ntmps79
      go_wp2
      go_ret
      exact ⟨ret_bool (by simp [h1, h2]), rfl⟩
    · go_enter Tryz.func79, Tryz.ntmps79
      go_wp2
      go_ret
      exact ⟨ret_bool (by simp [h2]), rfl⟩
  · go_enter Tryz.func79, Tryz.ntmps79
    go_wp2
    go_ret
    exact ⟨ret_bool (by simp; omega), rfl⟩

/-- Two results: a number and a flag. -/
def NumRet (p : Int × Bool) (w : World) (e : Ending) (w' : World) : Prop := e = .returned (.tuple #[.int .i64 p.1, .bool p.2]) ∧ w = w'

set_option maxHeartbeats 1000000 in
theorem l30Num_pos (s : ByteArray) (w : World) (hs : s.size ≤ maxLen) (h0 : s.data.toList.head? ≠ some 45) :
    Calls Tryz.prog 94 #[.string s] w (NumRet (numEnd false s) w) := by
  unfold maxLen at hs
  by_cases hz : s.size = 0
  · rw [numEnd_no (.inl hz)]
    obtain rfl : s = ⟨#[]⟩ := by cases s with | mk d => simp [ByteArray.size] at hz; rw [hz]
    clear hz h0
    go_enter Tryz.func94, Tryz.ntmps94
    go_wp2
    go_ret2
    exact ⟨rfl, rfl⟩
  have hpos : 0 < s.size := by omega
  have hne : s[0] ≠ 45 := fun e => h0 (by rw [head_get hpos, e])
  have b45 : ((s[0].toNat : Int) == 45) = false := by
    rw [beq_eq_false_iff_ne]; intro e; apply hne; apply UInt8.toNat_inj.1
    show s[0].toNat = 45; omega
  clear hne h0
  by_cases hlong : 17 < s.size
  · rw [numEnd_no (.inr (.inl hlong))]
    have b0 : ((s.size : Int) == 0) = false := by rw [beq_eq_false_iff_ne]; omega
    clear hz
    go_enter Tryz.func94, Tryz.ntmps94
    go_wp2
    go_ret2
    exact ⟨rfl, rfl⟩
  have b0 : ((s.size : Int) == 0) = false := by rw [beq_eq_false_iff_ne]; omega
  clear hz
  by_cases h48 : s[0] = 48 ∧ 1 < s.size
  · rw [numEnd_no (.inr (.inr ⟨by rw [head_get hpos, h48.1], .inl h48.2⟩))]
    obtain ⟨e1, e2⟩ := h48
    have b48 : ((s[0].toNat : Int) == 48) = true := by rw [e1]; rfl
    clear e1
    go_enter Tryz.func94, Tryz.ntmps94
    go_wp2
    go_ret2
    exact ⟨rfl, rfl⟩
  have hgo : ¬ (s.size = 0 ∨ 17 < s.size ∨ (s.data.toList.head? = some 48 ∧ (1 < s.size ∨ false = true))) := by
    rintro (h | h | ⟨h, h' | h'⟩)
    · omega
    · omega
    · rw [head_get hpos] at h; exact h48 ⟨by simpa using h, h'⟩
    · cases h'
  have HGO := Lib.hid hgo
  clear hgo
  have hcase : ((s[0].toNat : Int) == 48) = false ∨ (((s[0].toNat : Int) == 48) = true ∧ s.size ≤ 1) := by
    by_cases e : s[0] = 48
    · right; exact ⟨by rw [e]; rfl, Nat.not_lt.1 (fun h => h48 ⟨e, h⟩)⟩
    · left; rw [beq_eq_false_iff_ne]; intro e'; apply e; apply UInt8.toNat_inj.1; show s[0].toNat = 48; omega
  clear h48
  rcases hcase with b48 | ⟨b48, hone⟩
  all_goals
    go_enter Tryz.func94, Tryz.ntmps94
    go_wp2
    go_loop [5, 6] (fun n i => ∃ k : Nat, k ≤ s.size ∧ i = .int .i64 k ∧ n = .int .i64 (valTo s k) ∧ digTo s k) (fun _ i => s.size - (intOf i).toNat)
    case atStart => exact ⟨0, Nat.zero_le _, rfl, rfl, rfl⟩
    case round =>
      obtain ⟨k, hk, rfl, rfl, hd⟩ := hrel
      have hv := valTo_lt hd hk (by omega)
      by_cases hlt : k < s.size
      · have hb := (s[k]).toNat_lt
        by_cases hdig : 48 ≤ s[k].toNat ∧ s[k].toNat ≤ 57
        · have HD := Lib.hid (digTo_succ hd hlt hdig)
          have HV := Lib.hid (valTo_succ hlt)
          obtain ⟨g1, g2⟩ := hdig
          clear hd
          go_wp2
          go_round
          case rel => exact ⟨k + 1, by omega, by go_num, by rw [HV.out]; go_num, HD.out⟩
          case measure => simp only [intOf]; omega
        · have HD := Lib.hid (not_dig hlt hdig)
          clear hd
          have hor : s[k].toNat < 48 ∨ (48 ≤ s[k].toNat ∧ 57 < s[k].toNat) := by omega
          clear hdig
          rcases hor with g1 | ⟨g1, g2⟩
          all_goals
            go_wp2
            go_ret2
            rw [numEnd_bad HD.out]
            exact ⟨rfl, rfl⟩
      · obtain rfl : k = s.size := by omega
        have HD := Lib.hid (digTo_end hd)
        have HV := Lib.hid (valTo_end s)
        clear hd
        go_wp2
        go_ret2
        rw [numEnd_yes HGO.out HD.out, HV.out]
        exact ⟨rfl, rfl⟩

theorem extract_size (s : ByteArray) (h : 0 < s.size) : (s.extract 1 s.size).size = s.size - 1 := by
  rw [ByteArray.size_extract]; omega
set_option maxHeartbeats 1000000 in
theorem l30Num_neg (s : ByteArray) (w : World) (hs : s.size ≤ maxLen) (h0 : s.data.toList.head? = some 45) :
    Calls Tryz.prog 94 #[.string s] w (NumRet (numEnd true (s.extract 1 s.size)) w) := by
  unfold maxLen at hs
  have hpos : 0 < s.size := by
    by_cases e : s.size = 0
    · exfalso
      have : s.data.toList = [] := List.length_eq_zero_iff.1 (by simpa using e)
      rw [this] at h0; cases h0
    · omega
  have b45 : ((s[0].toNat : Int) == 45) = true := by
    have : s[0] = 45 := by rw [head_get hpos] at h0; simpa using h0
    rw [this]; rfl
  clear h0
  have hes := extract_size s hpos
  generalize hr : s.extract 1 s.size = r at *
  have hrs : r.size ≤ s.size := by omega
  clear hes
  by_cases hz : r.size = 0
  · rw [numEnd_no (.inl hz)]
    have b0 : ((r.size : Int) == 0) = true := by rw [beq_iff_eq]; omega
    clear hz
    go_enter Tryz.func94, Tryz.ntmps94
    go_wp2
    go_ret2
    exact ⟨rfl, rfl⟩
  have b0 : ((r.size : Int) == 0) = false := by rw [beq_eq_false_iff_ne]; omega
  have hr0 : 0 < r.size := by omega
  clear hz
  by_cases hlong : 17 < r.size
  · rw [numEnd_no (.inr (.inl hlong))]
    go_enter Tryz.func94, Tryz.ntmps94
    go_wp2
    go_ret2
    exact ⟨rfl, rfl⟩
  have hlong' : r.size ≤ 17 := by omega
  by_cases h48 : r[0] = 48
  · rw [numEnd_no (.inr (.inr ⟨by rw [head_get hr0, h48], .inr rfl⟩))]
    have b48 : ((r[0].toNat : Int) == 48) = true := by rw [h48]; rfl
    clear h48 hlong
    have hor : 1 < r.size ∨ r.size ≤ 1 := by omega
    rcases hor with hor | hor
    all_goals
      go_enter Tryz.func94, Tryz.ntmps94
      go_wp2
      go_ret2
      exact ⟨rfl, rfl⟩
  have b48 : ((r[0].toNat : Int) == 48) = false := by
    rw [beq_eq_false_iff_ne]; intro e; apply h48; apply UInt8.toNat_inj.1; show r[0].toNat = 48; omega
  have hgo : ¬ (r.size = 0 ∨ 17 < r.size ∨ (r.data.toList.head? = some 48 ∧ (1 < r.size ∨ true = true))) := by
    rintro (h | h | ⟨h, _⟩)
    · omega
    · omega
    · rw [head_get hr0] at h; exact h48 (by simpa using h)
  have HGO := Lib.hid hgo
  clear h48 hgo hlong
  go_enter Tryz.func94, Tryz.ntmps94
  go_wp2
  clear b48 b0 hr b45
  go_loop [5, 6] (fun n i => ∃ k : Nat, k ≤ r.size ∧ i = .int .i64 k ∧ n = .int .i64 (valTo r k) ∧ digTo r k) (fun _ i => r.size - (intOf i).toNat)
  case atStart => exact ⟨0, Nat.zero_le _, rfl, rfl, rfl⟩
  case round =>
    obtain ⟨k, hk, rfl, rfl, hd⟩ := hrel
    have hv := valTo_lt hd hk (by omega)
    by_cases hlt : k < r.size
    · have hb := (r[k]).toNat_lt
      by_cases hdig : 48 ≤ r[k].toNat ∧ r[k].toNat ≤ 57
      · have HD := Lib.hid (digTo_succ hd hlt hdig)
        have HV := Lib.hid (valTo_succ hlt)
        obtain ⟨g1, g2⟩ := hdig
        clear hd
        go_wp2
        go_round
        case rel => exact ⟨k + 1, by omega, by go_num, by rw [HV.out]; go_num, HD.out⟩
        case measure => simp only [intOf]; omega
      · have HD := Lib.hid (not_dig hlt hdig)
        clear hd
        have hor : r[k].toNat < 48 ∨ (48 ≤ r[k].toNat ∧ 57 < r[k].toNat) := by omega
        clear hdig
        rcases hor with g1 | ⟨g1, g2⟩
        all_goals
          go_wp2
          go_ret2
          rw [numEnd_bad HD.out]
          exact ⟨rfl, rfl⟩
    · obtain rfl : k = r.size := by omega
      have HD := Lib.hid (digTo_end hd)
      have HV := Lib.hid (valTo_end r)
      clear hd
      go_wp2
      go_ret2
      rw [numEnd_yes (by have := HGO.out; simpa using this) HD.out]
      refine ⟨?_, rfl⟩
      rw [← HV.out]
      rfl
theorem l30Num_any (s : ByteArray) (w : World) (hs : s.size ≤ maxLen) :
    Calls Tryz.prog 94 #[.string s] w (NumRet (l30F s) w) := by
  unfold l30F
  by_cases h : s.data.toList.head? = some 45
  · rw [if_pos h]; exact l30Num_neg s w hs h
  · rw [if_neg h]; exact l30Num_pos s w hs h
end Go.Proofs.YtkhcfhhejmkikaaGreatDoor

namespace Go.Proofs
open Go.Shelf
def Tryz.lays156_ren : Go.Shelf.Ren := ⟨fun | 156 => 69 | 165 => 104 | 166 => 105 | 169 => 106 | 240 => 116 | 241 => 117 | 276 => 121 | 277 => 122 | n => n, fun | 31 => 72 | 9 => 9 | 3 => 3 | 4 => 4 | 0 => 0 | 20 => 20 | 72 => 134 | 76 => 138 | 70 => 132 | 37 => 30 | 75 => 137 | 127 => 150 | 164 => 153 | 5 => 5 | 80 => 140 | n => n, fun | n => n⟩
theorem Tryz.lays156 : Go.Proofs.Lays.n156 Tryz.prog Tryz.lays156_ren := {
  mixed := by kernel_rfl
  f156 := Tryz.func69.trans (congrArg some (by kernel_rfl))
  f165 := Tryz.func104.trans (congrArg some (by kernel_rfl))
  f166 := Tryz.func105.trans (congrArg some (by kernel_rfl))
  f169 := Tryz.func106.trans (congrArg some (by kernel_rfl))
  f240 := Tryz.func116.trans (congrArg some (by kernel_rfl))
  f241 := Tryz.func117.trans (congrArg some (by kernel_rfl))
  f276 := Tryz.func121.trans (congrArg some (by kernel_rfl))
  f277 := Tryz.func122.trans (congrArg some (by kernel_rfl))
  t0 := Tryz.underlying0
  a0 := Tryz.isAgg0
  z0 := Tryz.sizeOf0
  v0 := Tryz.zeroValue0
  t3 := Tryz.underlying3
  a3 := Tryz.isAgg3
  z3 := Tryz.sizeOf3
  v3 := Tryz.zeroValue3
  t4 := Tryz.underlying4
  a4 := Tryz.isAgg4
  z4 := Tryz.sizeOf4
  v4 := Tryz.zeroValue4
  t9 := Tryz.underlying9
  a9 := Tryz.isAgg9
  z9 := Tryz.sizeOf9
  v9 := Tryz.zeroValue9
  t20 := Tryz.underlying20
  a20 := Tryz.isAgg20
  z20 := Tryz.sizeOf20
  v20 := Tryz.zeroValue20
  t31 := Tryz.underlying72
  a31 := Tryz.isAgg72
  z31 := Tryz.sizeOf72
  v31 := Tryz.zeroValue72
  t37 := Tryz.underlying30
  a37 := Tryz.isAgg30
  z37 := Tryz.sizeOf30
  v37 := Tryz.zeroValue30
  t70 := Tryz.underlying132
  a70 := Tryz.isAgg132
  z70 := Tryz.sizeOf132
  v70 := Tryz.zeroValue132
  t72 := Tryz.underlying134
  a72 := Tryz.isAgg134
  z72 := Tryz.sizeOf134
  v72 := Tryz.zeroValue134
  t75 := Tryz.underlying137
  a75 := Tryz.isAgg137
  z75 := Tryz.sizeOf137
  v75 := Tryz.zeroValue137
  t76 := Tryz.underlying138
  a76 := Tryz.isAgg138
  z76 := Tryz.sizeOf138
  v76 := Tryz.zeroValue138
  t127 := Tryz.underlying150
  a127 := Tryz.isAgg150
  z127 := Tryz.sizeOf150
  v127 := Tryz.zeroValue150
  t164 := Tryz.underlying153
  a164 := Tryz.isAgg153
  z164 := Tryz.sizeOf153
  v164 := Tryz.zeroValue153 }
theorem Tryz.Builder_Extra_156 : Builder.Extra Tryz.prog Tryz.lays156_ren := {
  sizeBuilder := by kernel_rfl
  liesBuilder := by kernel_rfl
  t5 := Tryz.underlying5
  a5 := Tryz.isAgg5
  z5 := Tryz.sizeOf5
  v5 := Tryz.zeroValue5
  infoByte := by kernel_rfl
  cellsByte := by kernel_rfl
  sizeByte := by kernel_rfl
  neB5 := by decide }
open Go.RowKit in
theorem Tryz.strings_Join_none (a : Option Addr) (c : Nat) (sep : ByteArray) (w : World) :
    Calls Tryz.prog 69 #[.slice a 0 c, .string sep] w fun e w' => e = .returned (.string ⟨#[]⟩) ∧ w' = w := Any.strings_Join_none Tryz.lays156 Tryz.Builder_Extra_156 a c sep w
open Go.RowKit in
theorem Tryz.strings_Join (bk o c : Nat) (xs : List ByteArray) (sep : ByteArray) (w : World) (hcells : ∀ (j : Nat) x, xs[j]? = some x → w.cell? ⟨bk, o + j, none⟩ = some (.string x)) (hbk : bk < w.heap.size) (hN : xs.length ≤ 140737488355328) (hcap : xs.length ≤ c) (hlen : (Lib.join (xs.map (·.data.toList)) sep.data.toList).length ≤ 140737488355328) :
    Calls Tryz.prog 69 #[.slice (some ⟨bk, o, none⟩) xs.length c, .string sep] w fun e w' => e = .returned (.string ⟨(Lib.join (xs.map (·.data.toList)) sep.data.toList).toArray⟩) ∧ Below w.heap.size w w' := Any.strings_Join Tryz.lays156 Tryz.Builder_Extra_156 bk o c xs sep w hcells hbk hN hcap hlen
def Tryz.laysM171_ren : Go.Shelf.Ren := ⟨fun | 171 => 72 | 243 => 107 | 246 => 118 | 283 => 123 | 284 => 124 | 285 => 125 | 286 => 126 | 129 => 133 | 317 => 132 | 318 => 134 | 319 => 135 | 320 => 136 | 337 => 140 | 338 => 141 | n => n, fun | 3 => 3 | 9 => 9 | 2 => 2 | 4 => 4 | 171 => 156 | 0 => 0 | 53 => 157 | 37 => 30 | 5 => 5 | 173 => 160 | 212 => 169 | 51 => 170 | 20 => 20 | 213 => 171 | 46 => 172 | 232 => 185 | 233 => 186 | n => n, fun | 17 => 4 | 18 => 7 | 19 => 8 | n => n⟩
theorem Tryz.laysM171 : Go.Proofs.LaysM.n171 Tryz.prog Tryz.laysM171_ren := {
  mixed := by kernel_rfl
  f129 := Tryz.func133.trans (congrArg some (by kernel_rfl))
  f171 := Tryz.func72.trans (congrArg some (by kernel_rfl))
  f243 := Tryz.func107.trans (congrArg some (by kernel_rfl))
  f246 := Tryz.func118.trans (congrArg some (by kernel_rfl))
  f283 := Tryz.func123.trans (congrArg some (by kernel_rfl))
  f284 := Tryz.func124.trans (congrArg some (by kernel_rfl))
  f285 := Tryz.func125.trans (congrArg some (by kernel_rfl))
  f286 := Tryz.func126.trans (congrArg some (by kernel_rfl))
  f317 := Tryz.func132.trans (congrArg some (by kernel_rfl))
  f318 := Tryz.func134.trans (congrArg some (by kernel_rfl))
  f319 := Tryz.func135.trans (congrArg some (by kernel_rfl))
  f320 := Tryz.func136.trans (congrArg some (by kernel_rfl))
  f337 := Tryz.func140.trans (congrArg some (by kernel_rfl))
  f338 := Tryz.func141.trans (congrArg some (by kernel_rfl))
  t0 := Tryz.underlying0
  a0 := Tryz.isAgg0
  z0 := Tryz.sizeOf0
  v0 := Tryz.zeroValue0
  t2 := Tryz.underlying2
  a2 := Tryz.isAgg2
  z2 := Tryz.sizeOf2
  v2 := Tryz.zeroValue2
  t3 := Tryz.underlying3
  a3 := Tryz.isAgg3
  z3 := Tryz.sizeOf3
  v3 := Tryz.zeroValue3
  t4 := Tryz.underlying4
  a4 := Tryz.isAgg4
  z4 := Tryz.sizeOf4
  v4 := Tryz.zeroValue4
  t5 := Tryz.underlying5
  a5 := Tryz.isAgg5
  z5 := Tryz.sizeOf5
  v5 := Tryz.zeroValue5
  t9 := Tryz.underlying9
  a9 := Tryz.isAgg9
  z9 := Tryz.sizeOf9
  v9 := Tryz.zeroValue9
  t20 := Tryz.underlying20
  a20 := Tryz.isAgg20
  z20 := Tryz.sizeOf20
  v20 := Tryz.zeroValue20
  t37 := Tryz.underlying30
  a37 := Tryz.isAgg30
  z37 := Tryz.sizeOf30
  v37 := Tryz.zeroValue30
  t46 := Tryz.underlying172
  a46 := Tryz.isAgg172
  z46 := Tryz.sizeOf172
  v46 := Tryz.zeroValue172
  t51 := Tryz.underlying170
  a51 := Tryz.isAgg170
  z51 := Tryz.sizeOf170
  v51 := Tryz.zeroValue170
  t53 := Tryz.underlying157
  a53 := Tryz.isAgg157
  z53 := Tryz.sizeOf157
  v53 := Tryz.zeroValue157
  t171 := Tryz.underlying156
  a171 := Tryz.isAgg156
  z171 := Tryz.sizeOf156
  v171 := Tryz.zeroValue156
  t173 := Tryz.underlying160
  a173 := Tryz.isAgg160
  z173 := Tryz.sizeOf160
  v173 := Tryz.zeroValue160
  t212 := Tryz.underlying169
  a212 := Tryz.isAgg169
  z212 := Tryz.sizeOf169
  v212 := Tryz.zeroValue169
  t213 := Tryz.underlying171
  a213 := Tryz.isAgg171
  z213 := Tryz.sizeOf171
  t232 := Tryz.underlying185
  a232 := Tryz.isAgg185
  z232 := Tryz.sizeOf185
  v232 := Tryz.zeroValue185
  t233 := Tryz.underlying186
  a233 := Tryz.isAgg186
  z233 := Tryz.sizeOf186
  v233 := Tryz.zeroValue186
  g17 := by kernel_rfl
  g18 := by kernel_rfl
  g19 := by kernel_rfl
  i0 := by kernel_rfl
  i2 := by kernel_rfl
  i3 := by kernel_rfl
  i4 := by kernel_rfl
  i5 := by kernel_rfl
  i9 := by kernel_rfl
  i20 := by kernel_rfl
  i37 := by kernel_rfl
  i46 := by kernel_rfl
  i51 := by kernel_rfl
  i53 := by kernel_rfl
  i171 := by kernel_rfl
  i173 := by kernel_rfl
  i212 := by kernel_rfl
  i232 := by kernel_rfl
  i233 := by kernel_rfl
  m17 := by kernel_rfl
  m18 := by kernel_rfl
  m19 := by kernel_rfl }
open Go.RowKit Go.Sort Go.Lib in
theorem Tryz.strconv_Itoa (n : Int) (h0 : -9223372036854775808 ≤ n) (h1 : n ≤ 9223372036854775807) (w : World) (htab : Lib.TabIs Tryz.prog w "internal/strconv.uint64pow10" .u64 Lib.pow10Tab) :
    Calls Tryz.prog 72 #[.int .i64 n] w fun e w' => e = .returned (.string ⟨(Lib.itoa n).toArray⟩) ∧ ∃ k os, w' = grow (w.drewN k) os := Any.strconv_Itoa Tryz.laysM171 n h0 h1 w htab
def Tryz.laysC172_ren : Go.Shelf.Ren := ⟨fun | 172 => 113 | 244 => 119 | 245 => 120 | 247 => 127 | 279 => 128 | 280 => 129 | 281 => 130 | 282 => 131 | 287 => 137 | 316 => 138 | 171 => 72 | 205 => 139 | 321 => 142 | 322 => 143 | 243 => 107 | 246 => 118 | 283 => 123 | 284 => 124 | 285 => 125 | 286 => 126 | 129 => 133 | 317 => 132 | 318 => 134 | 319 => 135 | 320 => 136 | 337 => 140 | 338 => 141 | n => n, fun | 9 => 9 | 3 => 3 | 75 => 137 | 76 => 138 | 4 => 4 | 5 => 5 | 167 => 162 | 37 => 30 | 0 => 0 | 85 => 163 | 2 => 2 | 168 => 165 | 53 => 157 | 175 => 174 | 46 => 172 | 210 => 178 | 127 => 150 | 145 => 184 | 143 => 182 | 21 => 21 | 171 => 156 | 173 => 160 | 212 => 169 | 51 => 170 | 20 => 20 | 213 => 171 | 232 => 185 | 233 => 186 | 80 => 140 | n => n, fun | 15 => 5 | 16 => 6 | 17 => 4 | 18 => 7 | 19 => 8 | n => n⟩
theorem Tryz.laysC172 : Go.Proofs.LaysC.n172 Tryz.prog Tryz.laysC172_ren := {
  mixed := by kernel_rfl
  f129 := Tryz.func133.trans (congrArg some (by kernel_rfl))
  f171 := Tryz.func72.trans (congrArg some (by kernel_rfl))
  f172 := Tryz.func113.trans (congrArg some (by kernel_rfl))
  f205 := Tryz.func139.trans (congrArg some (by kernel_rfl))
  f243 := Tryz.func107.trans (congrArg some (by kernel_rfl))
  f244 := Tryz.func119.trans (congrArg some (by kernel_rfl))
  f245 := Tryz.func120.trans (congrArg some (by kernel_rfl))
  f246 := Tryz.func118.trans (congrArg some (by kernel_rfl))
  f247 := Tryz.func127.trans (congrArg some (by kernel_rfl))
  f279 := Tryz.func128.trans (congrArg some (by kernel_rfl))
  f280 := Tryz.func129.trans (congrArg some (by kernel_rfl))
  f281 := Tryz.func130.trans (congrArg some (by kernel_rfl))
  f282 := Tryz.func131.trans (congrArg some (by kernel_rfl))
  f283 := Tryz.func123.trans (congrArg some (by kernel_rfl))
  f284 := Tryz.func124.trans (congrArg some (by kernel_rfl))
  f285 := Tryz.func125.trans (congrArg some (by kernel_rfl))
  f286 := Tryz.func126.trans (congrArg some (by kernel_rfl))
  f287 := Tryz.func137.trans (congrArg some (by kernel_rfl))
  f316 := Tryz.func138.trans (congrArg some (by kernel_rfl))
  f317 := Tryz.func132.trans (congrArg some (by kernel_rfl))
  f318 := Tryz.func134.trans (congrArg some (by kernel_rfl))
  f319 := Tryz.func135.trans (congrArg some (by kernel_rfl))
  f320 := Tryz.func136.trans (congrArg some (by kernel_rfl))
  f321 := Tryz.func142.trans (congrArg some (by kernel_rfl))
  f322 := Tryz.func143.trans (congrArg some (by kernel_rfl))
  f337 := Tryz.func140.trans (congrArg some (by kernel_rfl))
  f338 := Tryz.func141.trans (congrArg some (by kernel_rfl))
  t0 := Tryz.underlying0
  a0 := Tryz.isAgg0
  z0 := Tryz.sizeOf0
  v0 := Tryz.zeroValue0
  t2 := Tryz.underlying2
  a2 := Tryz.isAgg2
  z2 := Tryz.sizeOf2
  v2 := Tryz.zeroValue2
  t3 := Tryz.underlying3
  a3 := Tryz.isAgg3
  z3 := Tryz.sizeOf3
  v3 := Tryz.zeroValue3
  t4 := Tryz.underlying4
  a4 := Tryz.isAgg4
  z4 := Tryz.sizeOf4
  v4 := Tryz.zeroValue4
  t5 := Tryz.underlying5
  a5 := Tryz.isAgg5
  z5 := Tryz.sizeOf5
  v5 := Tryz.zeroValue5
  t9 := Tryz.underlying9
  a9 := Tryz.isAgg9
  z9 := Tryz.sizeOf9
  v9 := Tryz.zeroValue9
  t20 := Tryz.underlying20
  a20 := Tryz.isAgg20
  z20 := Tryz.sizeOf20
  v20 := Tryz.zeroValue20
  t21 := Tryz.underlying21
  a21 := Tryz.isAgg21
  z21 := Tryz.sizeOf21
  v21 := Tryz.zeroValue21
  t37 := Tryz.underlying30
  a37 := Tryz.isAgg30
  z37 := Tryz.sizeOf30
  v37 := Tryz.zeroValue30
  t46 := Tryz.underlying172
  a46 := Tryz.isAgg172
  z46 := Tryz.sizeOf172
  v46 := Tryz.zeroValue172
  t51 := Tryz.underlying170
  a51 := Tryz.isAgg170
  z51 := Tryz.sizeOf170
  v51 := Tryz.zeroValue170
  t53 := Tryz.underlying157
  a53 := Tryz.isAgg157
  z53 := Tryz.sizeOf157
  v53 := Tryz.zeroValue157
  t75 := Tryz.underlying137
  a75 := Tryz.isAgg137
  z75 := Tryz.sizeOf137
  v75 := Tryz.zeroValue137
  t76 := Tryz.underlying138
  a76 := Tryz.isAgg138
  z76 := Tryz.sizeOf138
  v76 := Tryz.zeroValue138
  t85 := Tryz.underlying163
  a85 := Tryz.isAgg163
  z85 := Tryz.sizeOf163
  v85 := Tryz.zeroValue163
  t127 := Tryz.underlying150
  a127 := Tryz.isAgg150
  z127 := Tryz.sizeOf150
  v127 := Tryz.zeroValue150
  t143 := Tryz.underlying182
  a143 := Tryz.isAgg182
  z143 := Tryz.sizeOf182
  v143 := Tryz.zeroValue182
  t145 := Tryz.underlying184
  a145 := Tryz.isAgg184
  z145 := Tryz.sizeOf184
  v145 := Tryz.zeroValue184
  t167 := Tryz.underlying162
  a167 := Tryz.isAgg162
  z167 := Tryz.sizeOf162
  v167 := Tryz.zeroValue162
  t168 := Tryz.underlying165
  a168 := Tryz.isAgg165
  z168 := Tryz.sizeOf165
  v168 := Tryz.zeroValue165
  t171 := Tryz.underlying156
  a171 := Tryz.isAgg156
  z171 := Tryz.sizeOf156
  v171 := Tryz.zeroValue156
  t173 := Tryz.underlying160
  a173 := Tryz.isAgg160
  z173 := Tryz.sizeOf160
  v173 := Tryz.zeroValue160
  t175 := Tryz.underlying174
  a175 := Tryz.isAgg174
  z175 := Tryz.sizeOf174
  v175 := Tryz.zeroValue174
  t210 := Tryz.underlying178
  a210 := Tryz.isAgg178
  z210 := Tryz.sizeOf178
  v210 := Tryz.zeroValue178
  t212 := Tryz.underlying169
  a212 := Tryz.isAgg169
  z212 := Tryz.sizeOf169
  v212 := Tryz.zeroValue169
  t213 := Tryz.underlying171
  a213 := Tryz.isAgg171
  z213 := Tryz.sizeOf171
  t232 := Tryz.underlying185
  a232 := Tryz.isAgg185
  z232 := Tryz.sizeOf185
  v232 := Tryz.zeroValue185
  t233 := Tryz.underlying186
  a233 := Tryz.isAgg186
  z233 := Tryz.sizeOf186
  v233 := Tryz.zeroValue186
  g15 := by kernel_rfl
  g16 := by kernel_rfl
  g17 := by kernel_rfl
  g18 := by kernel_rfl
  g19 := by kernel_rfl
  t80 := Tryz.underlying140
  a80 := Tryz.isAgg140
  z80 := Tryz.sizeOf140
  v80 := Tryz.zeroValue140
  i0 := by kernel_rfl
  i2 := by kernel_rfl
  i3 := by kernel_rfl
  i4 := by kernel_rfl
  i5 := by kernel_rfl
  i9 := by kernel_rfl
  i20 := by kernel_rfl
  i21 := by kernel_rfl
  i37 := by kernel_rfl
  i46 := by kernel_rfl
  i51 := by kernel_rfl
  i53 := by kernel_rfl
  i75 := by kernel_rfl
  i76 := by kernel_rfl
  i80 := by kernel_rfl
  i85 := by kernel_rfl
  i127 := by kernel_rfl
  i143 := by kernel_rfl
  i145 := by kernel_rfl
  i167 := by kernel_rfl
  i168 := by kernel_rfl
  i171 := by kernel_rfl
  i173 := by kernel_rfl
  i175 := by kernel_rfl
  i210 := by kernel_rfl
  i212 := by kernel_rfl
  i232 := by kernel_rfl
  i233 := by kernel_rfl
  m15 := by kernel_rfl
  m16 := by kernel_rfl
  m17 := by kernel_rfl
  m18 := by kernel_rfl
  m19 := by kernel_rfl
  c0 := by kernel_rfl
  c2 := by kernel_rfl
  c3 := by kernel_rfl
  c4 := by kernel_rfl
  c5 := by kernel_rfl
  c9 := by kernel_rfl
  c20 := by kernel_rfl
  c21 := by kernel_rfl
  c37 := by kernel_rfl
  c46 := by kernel_rfl
  c51 := by kernel_rfl
  c53 := by kernel_rfl
  c75 := by kernel_rfl
  c76 := by kernel_rfl
  c80 := by kernel_rfl
  c85 := by kernel_rfl
  c127 := by kernel_rfl
  c143 := by kernel_rfl
  c145 := by kernel_rfl
  c167 := by kernel_rfl
  c168 := by kernel_rfl
  c171 := by kernel_rfl
  c173 := by kernel_rfl
  c175 := by kernel_rfl
  c210 := by kernel_rfl
  c212 := by kernel_rfl
  c213 := by kernel_rfl
  c232 := by kernel_rfl
  c233 := by kernel_rfl }
open Go.RowKit in
theorem Tryz.strconv_Atoi_ok (s : ByteArray) (hmax : s.size ≤ 9223372036854775806) (v : Int) (h : Lib.atoiAll s.data.toList = .ok v) (w : World) :
    Calls Tryz.prog 113 #[.string s] w fun e w' => e = .returned (.tuple #[.int .i64 v, .nilIface]) ∧ (w' = w ∨ ∃ t, w' = Lib.bytesWorld w 5 t) := Any.strconv_Atoi_ok Tryz.laysC172 s hmax v h w
end Go.Proofs
