/-
  Plain mathematics of words: bytes' kinds, keys. Nothing of a program stands here.
-/
import Derived.WalkKit
namespace Go.Proofs.YtoepehlndljkoaaDoor

/-- The kinds of the bytes, as the program's table lists them. -/
def kt : List Int := [0, 0, 0, 0, 0, 0, 0, 0, 0, 0, 5, 0, 0, 0, 0, 0, 0, 0, 0, 0, 0, 0, 0, 0, 0, 0, 0, 0, 0, 0, 0, 0, 5, 3, 0, 0, 0, 3, 3, 0, 3, 3, 3, 3, 3, 3, 0, 3, 2, 2, 2, 2, 2, 2, 2, 2, 2, 2, 0, 3, 3, 3, 0, 0, 3, 0, 0, 0, 0, 0, 0, 0, 0, 0, 0, 0, 0, 0, 0, 0, 0, 0, 0, 0, 0, 0, 0, 0, 0, 0, 0, 0, 0, 0, 0, 0, 0, 1, 1, 1, 1, 1, 1, 1, 1, 1, 1, 1, 1, 1, 1, 1, 1, 1, 1, 1, 1, 1, 1, 1, 1, 1, 1, 3, 0, 3, 0, 0]
/-- The kind of a byte. -/
def kindN (n : Nat) : Int := if n < 128 then kt.getD n 0 else 0
def signs : List Nat := [40, 41, 123, 125, 59, 44, 43, 45, 42, 47, 37, 60, 61, 38, 33, 64]
/-- The class of a byte, as the model has it. -/
def cls (n : Nat) : Int := if 97 ≤ n ∧ n ≤ 122 then 1 else if 48 ≤ n ∧ n ≤ 57 then 2 else if n ∈ signs then 3 else if n = 32 ∨ n = 10 then 4 else 0
theorem kindN_cls : ∀ n < 256, kindN n = if cls n = 4 then 5 else cls n := by decide +kernel
theorem kindN_one (b : UInt8) : (kindN b.toNat = 1) ↔ (cls b.toNat = 1) := by
  have := kindN_cls b.toNat (by have := b.toNat_lt; omega)
  rw [this]; split <;> omega
/-- The keys. -/
def keyL : List (List UInt8) := [[102, 110], [108, 101, 116], [115, 97, 121], [112, 117, 116], [105, 102], [101, 108, 115, 101], [108, 111, 111, 112], [98, 97, 99, 107], [100, 111]]
def keyB (k : Nat) : ByteArray := ⟨(keyL.getD k []).toArray⟩
/-- The table of keys as a value. -/
def keyTab : Value := .agg (keyL.map fun k => Value.string ⟨k.toArray⟩).toArray
theorem ret_bool {a b : Bool} (h : a = b) : Ending.returned (.bool a) = .returned (.bool b) := by rw [h]
theorem ret_int {k : IntKind} {a b : Int} (h : a = b) : Ending.returned (.int k a) = .returned (.int k b) := by rw [h]
theorem str_yes {a b : ByteArray} (h : (a.toList == b.toList) = true) : a = b := by
  rw [beq_iff_eq, ByteArray.toList_eq, ByteArray.toList_eq] at h
  cases a; cases b
  simp only [Array.toList_inj] at h
  rw [h]
theorem str_no {a b : ByteArray} (h : (a.toList == b.toList) = false) : a ≠ b := by
  rintro rfl
  simp at h
theorem str_eq_true {a b : ByteArray} (h : a = b) : (a.toList == b.toList) = true := by rw [h]; simp
theorem str_eq_false {a b : ByteArray} (h : a ≠ b) : (a.toList == b.toList) = false := by
  rw [Bool.eq_false_iff]; exact fun e => h (str_yes e)
theorem byte_yes {a b : UInt8} (h : ((a.toNat : Int) == (b.toNat : Int)) = true) : a = b := by
  rw [beq_iff_eq] at h; exact UInt8.toNat_inj.1 (by omega)
theorem byte_no {a b : UInt8} (h : ((a.toNat : Int) == (b.toNat : Int)) = false) : a ≠ b := by
  rintro rfl; simp at h
/-- None of the first k keys is this text. -/
def noKey (s : ByteArray) (k : Nat) : Prop := ∀ j, j < k → keyB j ≠ s
theorem noKey_succ {s : ByteArray} {k : Nat} (h : noKey s k) (hk : keyB k ≠ s) : noKey s (k + 1) := by
  intro j hj
  by_cases e : j = k
  · subst e; exact hk
  · exact h j (by omega)
def isKeyB (s : ByteArray) : Bool := keyL.any fun k => k == s.data.toList
theorem isKeyB_iff (s : ByteArray) : isKeyB s = true ↔ ∃ k, k < 9 ∧ keyB k = s := by
  unfold isKeyB
  rw [List.any_eq_true]
  constructor
  · rintro ⟨l, hl, he⟩
    obtain ⟨k, hk, rfl⟩ := List.getElem_of_mem hl
    refine ⟨k, hk, ?_⟩
    have he' : keyL[k] = s.data.toList := by simpa using he
    unfold keyB
    rw [List.getD_eq_getElem?_getD, List.getElem?_eq_getElem hk, Option.getD_some, he']
  · rintro ⟨k, hk, rfl⟩
    refine ⟨keyL[k]'hk, List.getElem_mem _, ?_⟩
    unfold keyB
    rw [List.getD_eq_getElem?_getD, List.getElem?_eq_getElem (show k < keyL.length from hk), Option.getD_some]
    simp
    rfl
theorem isKeyB_no {s : ByteArray} (h : noKey s 9) : isKeyB s = false := by
  rw [Bool.eq_false_iff]
  intro hs
  obtain ⟨k, hk, e⟩ := (isKeyB_iff s).1 hs
  exact h k hk e
theorem isKeyB_yes {s : ByteArray} {k : Nat} (hk : k < 9) (h : keyB k = s) : isKeyB s = true := (isKeyB_iff s).2 ⟨k, hk, h⟩

/-- Where a byte stands first in a list, or -1. -/
def find30 (l : List UInt8) (b : UInt8) : Int := if b ∈ l then (l.idxOf b : Int) else -1
def noByte (s : ByteArray) (b : UInt8) (k : Nat) : Prop := ∀ j, (h : j < s.size) → j < k → s[j] ≠ b
theorem noByte_succ {s : ByteArray} {b : UInt8} {k : Nat} (h : noByte s b k) (hk : k < s.size) (hb : s[k] ≠ b) : noByte s b (k + 1) := by
  intro j hj hjk
  by_cases e : j = k
  · subst e; exact hb
  · exact h j hj (by omega)
theorem mem_iff_get {s : ByteArray} {b : UInt8} : b ∈ s.data.toList ↔ ∃ j, ∃ h : j < s.size, s[j] = b := by
  rw [List.mem_iff_getElem]
  constructor
  · rintro ⟨j, hj, e⟩; exact ⟨j, by simpa using hj, by rw [← e]; rfl⟩
  · rintro ⟨j, hj, e⟩; exact ⟨j, by simpa using hj, by rw [← e]; rfl⟩
theorem find30_no {s : ByteArray} {b : UInt8} (h : noByte s b s.size) : find30 s.data.toList b = -1 := by
  unfold find30
  rw [if_neg]
  intro hm
  obtain ⟨j, hj, e⟩ := mem_iff_get.1 hm
  exact h j hj hj e
theorem idxOf_first {b : UInt8} : ∀ (l : List UInt8) (k : Nat) (hk : k < l.length), l[k] = b → (∀ j, (h : j < l.length) → j < k → l[j] ≠ b) → l.idxOf b = k
  | [], k, hk, _, _ => absurd hk (by simp)
  | x :: l, k, hk, he, hn => by
    cases k with
    | zero =>
      have hx : x = b := by simpa using he
      rw [List.idxOf_cons]; simp [hx]
    | succ k =>
      have h0 : x ≠ b := by have := hn 0 (by simp) (by omega); simpa using this
      have ih := idxOf_first l k (by simpa using hk) (by simpa using he) (fun j hj hjk => by have := hn (j + 1) (by simpa using hj) (by omega); simpa using this)
      rw [List.idxOf_cons]
      have : (x == b) = false := by simpa using h0
      rw [this, ih]; rfl
theorem find30_yes {s : ByteArray} {b : UInt8} {k : Nat} (hk : k < s.size) (he : s[k] = b) (h : noByte s b k) : find30 s.data.toList b = k := by
  unfold find30
  rw [if_pos (mem_iff_get.2 ⟨k, hk, he⟩)]
  rw [idxOf_first s.data.toList k (by simpa using hk) (by rw [← he]; rfl) (fun j hj hjk => by have := h j (by simpa using hj) hjk; exact this)]
/-- The signs as a text. -/
def signS : ByteArray := ⟨#[40, 41, 123, 125, 59, 44, 43, 45, 42, 47, 37, 60, 61, 38, 33, 64]⟩
theorem sign_mem (b : UInt8) : b ∈ signS.data.toList ↔ b.toNat ∈ signs := by
  simp only [signS, signs, List.mem_cons, List.not_mem_nil, or_false, ← UInt8.toNat_inj]
  rfl
theorem find_sign_yes {b : UInt8} (h : b.toNat ∈ signs) : 0 ≤ find30 signS.data.toList b := by
  unfold find30; rw [if_pos ((sign_mem b).2 h)]; omega
theorem find_sign_no {b : UInt8} (h : b.toNat ∉ signs) : find30 signS.data.toList b = -1 := by
  unfold find30; rw [if_neg (fun e => h ((sign_mem b).1 e))]
/-- All bytes up to k are of a class. -/
def clsAll (s : ByteArray) (c : Int) (k : Nat) : Prop := ∀ j, (h : j < s.size) → j < k → cls (s[j]).toNat = c
theorem clsAll_succ {s : ByteArray} {c : Int} {k : Nat} (h : clsAll s c k) (hk : k < s.size) (hb : cls (s[k]).toNat = c) : clsAll s c (k + 1) := by
  intro j hj hjk
  by_cases e : j = k
  · subst e; exact hb
  · exact h j hj (by omega)
open Classical in
/-- All bytes of a text that is not empty are of a class. -/
noncomputable def allB (s : ByteArray) (c : Int) : Bool := decide (0 < s.size ∧ clsAll s c s.size)
theorem allB_no {s : ByteArray} {c : Int} {k : Nat} (hk : k < s.size) (h : cls (s[k]).toNat ≠ c) : allB s c = false := by
  unfold allB; rw [decide_eq_false_iff_not]; rintro ⟨_, h2⟩; exact h (h2 k hk hk)
theorem allB_end {s : ByteArray} {c : Int} (h : clsAll s c s.size) : allB s c = decide (0 < s.size) := by
  unfold allB; simp only [h, and_true]
/-- The text is a name. -/
noncomputable def nameB (s : ByteArray) : Bool := allB s 1 && decide (s.size ≤ 4) && !isKeyB s

theorem cls_letter {n : Nat} (h1 : 97 ≤ n) (h2 : n ≤ 122) : cls n = 1 := by unfold cls; rw [if_pos ⟨h1, h2⟩]
theorem cls_digit {n : Nat} (h1 : 48 ≤ n) (h2 : n ≤ 57) : cls n = 2 := by unfold cls; rw [if_neg (by omega), if_pos ⟨h1, h2⟩]
theorem cls_sign {n : Nat} (h0 : ¬ (97 ≤ n ∧ n ≤ 122)) (h1 : ¬ (48 ≤ n ∧ n ≤ 57)) (h : n ∈ signs) : cls n = 3 := by unfold cls; rw [if_neg h0, if_neg h1, if_pos h]
theorem cls_blank {n : Nat} (h : n = 32 ∨ n = 10) : cls n = 4 := by rcases h with rfl | rfl <;> decide
theorem cls_none {n : Nat} (h0 : ¬ (97 ≤ n ∧ n ≤ 122)) (h1 : ¬ (48 ≤ n ∧ n ≤ 57)) (h : n ∉ signs) (h2 : n ≠ 32) (h3 : n ≠ 10) : cls n = 0 := by
  unfold cls; rw [if_neg h0, if_neg h1, if_neg h, if_neg (by omega)]
theorem nameB_empty {s : ByteArray} (h : s.size = 0) : nameB s = false := by
  have : allB s 1 = false := by unfold allB; rw [decide_eq_false_iff_not]; omega
  unfold nameB; rw [this]; rfl
theorem nameB_long {s : ByteArray} (h : 4 < s.size) : nameB s = false := by
  unfold nameB
  have : decide (s.size ≤ 4) = false := by rw [decide_eq_false_iff_not]; omega
  rw [this]; simp
theorem nameB_key {s : ByteArray} (h : isKeyB s = true) : nameB s = false := by unfold nameB; rw [h]; simp
theorem nameB_bad {s : ByteArray} {k : Nat} (hk : k < s.size) (h : cls (s[k]).toNat ≠ 1) : nameB s = false := by unfold nameB; rw [allB_no hk h]; rfl
theorem nameB_yes {s : ByteArray} (h0 : 0 < s.size) (h4 : s.size ≤ 4) (hk : isKeyB s = false) (h : clsAll s 1 s.size) : nameB s = true := by
  unfold nameB; rw [allB_end h, hk]; simp [h0, h4]
end Go.Proofs.YtoepehlndljkoaaDoor
