/-
  Names: what the model's and the program's functions on names return.
-/
import Derived.Test.YtoepehlndljkoaaDoorC1
namespace Go.Proofs.YtoepehlndljkoaaDoor
open Go.RowKit
set_option maxRecDepth 100000

set_option maxHeartbeats 400000 in
theorem l1All_any (s : ByteArray) (c : Int) (w : World) (hs : s.size ≤ maxLen) :
    Calls Tryd.prog 58 #[.string s, .int .i64 c] w fun e w' => e = .returned (.bool (allB s c)) ∧ w = w' := by
  unfold maxLen at hs
  go_enter Tryd.func58, Tryd.ntmps58
  go_wp2
  go_loop [5] (fun i => ∃ k : Nat, k ≤ s.size ∧ i = .int .i64 k ∧ clsAll s c k) (fun i => s.size - (intOf i).toNat)
  case atStart => exact ⟨0, Nat.zero_le _, rfl, fun j _ hj => absurd hj (by omega)⟩
  case round =>
    obtain ⟨k, hk, rfl, hno⟩ := hrel
    by_cases hlt : k < s.size
    · go_wp2_with fail
      refine (l1Class_any s[k] _).mono ?_
      rintro e w' ⟨rfl, rfl⟩
      by_cases hc : cls s[k].toNat = c
      · have hb : (cls s[k].toNat == c) = true := beq_iff_eq.2 hc
        have hb2 : (cls s[k].toNat != c) = false := by rw [bne, hb]; rfl
        have HC := Lib.hid hc; clear hc
        go_wp2
        go_round
        case rel => exact ⟨k + 1, by omega, by go_num, clsAll_succ hno hlt HC.out⟩
        case measure => simp only [intOf]; omega
      · have hb : (cls s[k].toNat == c) = false := by rw [beq_eq_false_iff_ne]; exact hc
        have hb2 : (cls s[k].toNat != c) = true := by rw [bne, hb]; rfl
        have HC := Lib.hid hc; clear hc
        go_wp2
        go_ret
        exact ⟨ret_bool (allB_no hlt HC.out).symm, rfl⟩
    · obtain rfl : k = s.size := by omega
      go_wp2
      go_ret
      refine ⟨ret_bool ?_, rfl⟩
      rw [allB_end hno]

/-- The block that a call of the model's KeyWords makes. -/
def keyBlock : Obj := .cells (keyL.map fun k => Value.string ⟨k.toArray⟩).toArray 9 (0, 0)
set_option maxHeartbeats 400000 in
theorem specKeyWords_any (w : World) :
    Calls Tryd.prog 67 #[] w fun e w' => e = .returned (.slice (some ⟨w.heap.size, 0, none⟩) 9 9) ∧ w' = w.alloc keyBlock := by
  go_enter Tryd.func67, Tryd.ntmps67
  go_wp2
  go_ret
  exact ⟨rfl, rfl⟩
theorem keyBlock_cell (w : World) (k : Nat) (hk : k < 9) : (w.alloc keyBlock).cell? ⟨w.heap.size, k, none⟩ = some (.string (keyB k)) := by
  have h : k = 0 ∨ k = 1 ∨ k = 2 ∨ k = 3 ∨ k = 4 ∨ k = 5 ∨ k = 6 ∨ k = 7 ∨ k = 8 := by omega
  have hb : (w.alloc keyBlock).heap[w.heap.size]? = some keyBlock := by
    show (w.heap.push keyBlock)[w.heap.size]? = _
    simp
  unfold World.cell?
  rw [hb]
  rcases h with rfl | rfl | rfl | rfl | rfl | rfl | rfl | rfl | rfl <;> rfl
set_option maxHeartbeats 400000 in
theorem l1Key_exact (s : ByteArray) (w : World) :
    Calls Tryd.prog 59 #[.string s] w fun e w' => e = .returned (.bool (isKeyB s)) ∧ w' = w.alloc keyBlock := by
  go_enter Tryd.func59, Tryd.ntmps59
  go_wp2_with fail
  refine (specKeyWords_any _).mono ?_
  rintro e w' ⟨rfl, rfl⟩
  go_wp2
  go_loop [4] (fun i => ∃ k : Nat, k ≤ 9 ∧ i = .int .i64 k ∧ noKey s k) (fun i => 9 - (intOf i).toNat)
  case atStart => exact ⟨0, Nat.zero_le _, rfl, fun j hj => absurd hj (by omega)⟩
  case round =>
    obtain ⟨k, hk, rfl, hno⟩ := hrel
    by_cases hlt : k < 9
    · have hi := keyBlock_cell w k hlt
      generalize hkb : keyB k = kb at *
      have HKB := Lib.hid hkb; clear hkb
      go_wp2
      · have he : kb = s := str_yes (by assumption)
        go_ret
        exact ⟨ret_bool (isKeyB_yes hlt (HKB.out.trans he)).symm, rfl⟩
      · have he : kb ≠ s := str_no (by assumption)
        go_round
        case rel => exact ⟨k + 1, by omega, by go_num, noKey_succ hno (fun e => he (HKB.out.symm.trans e))⟩
        case measure => simp only [intOf]; omega
    · obtain rfl : k = 9 := by omega
      go_wp2
      go_ret
      exact ⟨ret_bool (isKeyB_no hno).symm, rfl⟩
theorem l1Key_any (s : ByteArray) (w : World) :
    Calls Tryd.prog 59 #[.string s] w fun e w' => e = .returned (.bool (isKeyB s)) ∧ Below w.heap.size w w' :=
  (l1Key_exact s w).mono fun _ _ ⟨he, hw⟩ => ⟨he, by subst hw; exact (Below.refl _ _).alloc (Nat.le_refl _) _⟩

set_option maxHeartbeats 400000 in
theorem specIsName_any (s : ByteArray) (w : World) (hs : s.size ≤ maxLen) :
    Calls Tryd.prog 47 #[.string s] w fun e w' => e = .returned (.bool (nameB s)) ∧ Below w.heap.size w w' := by
  have hs' := hs
  unfold maxLen at hs'
  have C1 := Lib.hid (l1All_any s 1 w hs)
  have C2 := Lib.hid (l1Key_any s w)
  unfold nameB
  generalize allB s 1 = a at *
  generalize isKeyB s = b at *
  clear hs
  cases a
  · go_enter Tryd.func47, Tryd.ntmps47
    go_wp2_with fail
    refine C1.out.mono ?_
    rintro e w' ⟨rfl, rfl⟩
    go_wp2
    go_ret
    exact ⟨rfl, Below.refl _ _⟩
  · by_cases h4 : s.size ≤ 4
    · go_enter Tryd.func47, Tryd.ntmps47
      go_wp2_with fail
      refine C1.out.mono ?_
      rintro e w' ⟨rfl, rfl⟩
      go_wp2_with fail
      refine C2.out.mono ?_
      rintro e w' ⟨rfl, hb⟩
      go_wp2
      go_ret
      exact ⟨ret_bool (by simp [h4]), hb⟩
    · go_enter Tryd.func47, Tryd.ntmps47
      go_wp2_with fail
      refine C1.out.mono ?_
      rintro e w' ⟨rfl, rfl⟩
      go_wp2
      go_ret
      exact ⟨ret_bool (by simp), Below.refl _ _⟩

theorem Tabs.below {w w' : World} (T : Tabs w) (hb : Below w.heap.size w w') : Tabs w' := by
  obtain ⟨t, fr, hk⟩ := T.keys
  have hsz := T.size
  exact ⟨fun i hi => by rw [hb.cell (p := ⟨2, i, none⟩) (by show 2 < w.heap.size; omega)]; exact T.kinds i hi, ⟨by have := hb.size; omega, by have := hb.size; omega⟩, t, fr, by rw [hb.block _ (by omega)]; exact hk⟩
set_option maxHeartbeats 400000 in
theorem implIsName_any (s : ByteArray) (w : World) (T : Tabs w) :
    Calls Tryd.prog 48 #[.string s] w fun e w' => e = .returned (.bool (nameB s)) ∧ w = w' := by
  by_cases h0 : s.size = 0
  · rw [nameB_empty h0]
    obtain rfl : s = ⟨#[]⟩ := by cases s with | mk d => simp [ByteArray.size] at h0; rw [h0]
    clear T h0
    go_enter Tryd.func48, Tryd.ntmps48
    go_wp2
    go_ret
    exact ⟨rfl, rfl⟩
  have e1 : s.toList.isEmpty = false := by
    rw [ByteArray.toList_eq, List.isEmpty_eq_false_iff]
    intro e
    apply h0
    have := congrArg List.length e
    simpa using this
  have e2 : (!s.toList.isEmpty) = true := by rw [e1]; rfl
  by_cases h4 : 4 < s.size
  · rw [nameB_long h4]
    clear T
    go_enter Tryd.func48, Tryd.ntmps48
    go_wp2
    go_ret
    exact ⟨rfl, rfl⟩
  have C1 := Lib.hid (isKey_any s w T)
  have h4' : s.size ≤ 4 := by omega
  cases hk : isKeyB s
  · rw [hk] at C1
    have HK := Lib.hid hk; clear hk
    go_enter Tryd.func48, Tryd.ntmps48
    go_wp2_with fail
    refine C1.out.mono ?_
    rintro e w' ⟨rfl, rfl⟩
    go_wp2
    go_loop [17] (fun i => ∃ k : Nat, k ≤ s.size ∧ i = .int .i64 k ∧ clsAll s 1 k) (fun i => s.size - (intOf i).toNat)
    case atStart => exact ⟨0, Nat.zero_le _, rfl, fun j _ hj => absurd hj (by omega)⟩
    case round =>
      obtain ⟨k, hk, rfl, hno⟩ := hrel
      by_cases hlt : k < s.size
      · go_wp2_with fail
        refine (kindOfByte_any s[k] _ T).mono ?_
        rintro e w' ⟨rfl, rfl⟩
        go_wp2_with fail
        refine (inLetters_any _ _).mono ?_
        rintro e w' ⟨rfl, rfl⟩
        by_cases hc : cls s[k].toNat = 1
        · have hb : (kindN s[k].toNat == 1) = true := beq_iff_eq.2 ((kindN_one _).2 hc)
          have HC := Lib.hid hc; clear hc
          go_wp2
          go_round
          case rel => exact ⟨k + 1, by omega, by go_num, clsAll_succ hno hlt HC.out⟩
          case measure => simp only [intOf]; omega
        · have hb : (kindN s[k].toNat == 1) = false := by rw [beq_eq_false_iff_ne]; exact fun e => hc ((kindN_one _).1 e)
          have HC := Lib.hid hc; clear hc
          go_wp2
          go_ret
          exact ⟨ret_bool (nameB_bad hlt HC.out).symm, rfl⟩
      · obtain rfl : k = s.size := by omega
        go_wp2
        go_ret
        exact ⟨ret_bool (nameB_yes (by omega) h4' HK.out hno).symm, rfl⟩
  · rw [nameB_key hk]
    rw [hk] at C1
    clear hk
    go_enter Tryd.func48, Tryd.ntmps48
    go_wp2_with fail
    refine C1.out.mono ?_
    rintro e w' ⟨rfl, rfl⟩
    go_wp2
    go_ret
    exact ⟨rfl, rfl⟩

end Go.Proofs.YtoepehlndljkoaaDoor
