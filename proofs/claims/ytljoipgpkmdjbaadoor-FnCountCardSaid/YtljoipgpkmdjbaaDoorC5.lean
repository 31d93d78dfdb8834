/-
  The model's WordValid and NumberOf, the program's NumberOf, and both laws' walks.
-/
import Derived.Test.YtljoipgpkmdjbaaDoorC4
import Derived.Test.YtljoipgpkmdjbaaDoorW1
namespace Go.Proofs.YtljoipgpkmdjbaaDoor
open Go.RowKit
set_option maxRecDepth 100000

theorem validB_two (s : ByteArray) : decide (0 ≤ numB s.data.toList) = ((l30F s).2 && decide (0 ≤ (l30F s).1 ∧ (l30F s).1 ≤ 255)) := by
  rw [numB_l30F]
  generalize l30F s = p
  obtain ⟨z, ok⟩ := p
  cases ok
  · simp
  · by_cases h : 0 ≤ z ∧ z ≤ 255
    · simp [h]
    · simp only [true_and]
      rw [if_neg h]
      simp [h]

set_option maxHeartbeats 1000000 in
theorem specWordValid_any (n : Int) (s : ByteArray) (w : World) (hs : s.size ≤ 1048576) :
    Calls Tryd.prog 13 #[.agg #[.int .i64 n, .string s]] w (BoolBelow (validB n s) w) := by
  have hb0 : Below w.heap.size w (w.alloc (.cells #[.int .i64 n, .string s] 28)) := (Below.refl _ _).alloc (Nat.le_refl _) _
  have hs' : s.size ≤ maxLen := by unfold maxLen; omega
  unfold validB
  by_cases h1 : n = 1
  · subst h1
    rw [if_pos rfl]
    have C := Lib.hid (specIsName_any s (w.alloc (.cells #[.int .i64 1, .string s] 28)) hs')
    generalize nameB s = b at *
    go_enter Tryd.func13, Tryd.ntmps13
    go_wp2_with fail
    refine C.out.mono ?_
    rintro e w' ⟨rfl, hb⟩
    have hb2 := hb0.trans (hb.mono hb0.size)
    clear hb hb0
    go_wp2
    go_ret
    exact ⟨rfl, hb2⟩
  by_cases h2 : n = 2
  · subst h2
    rw [if_neg (by omega), if_pos rfl, validB_two]
    have C := Lib.hid (l30Num_any s (w.alloc (.cells #[.int .i64 2, .string s] 28)) hs')
    generalize l30F s = p at *
    obtain ⟨z, ok⟩ := p
    cases ok
    · go_enter Tryd.func13, Tryd.ntmps13
      go_wp2_with fail
      refine C.out.mono ?_
      rintro e w' ⟨rfl, rfl⟩
      go_wp2
      go_ret
      exact ⟨rfl, hb0⟩
    · have CI := fun w => Lib.hid (l1In_any z 0 255 w)
      show Calls _ _ _ _ (BoolBelow (decide (0 ≤ z ∧ z ≤ 255)) w)
      generalize decide (0 ≤ z ∧ z ≤ 255) = d at *
      go_enter Tryd.func13, Tryd.ntmps13
      go_wp2_with fail
      refine C.out.mono ?_
      rintro e w' ⟨rfl, rfl⟩
      go_wp2_with fail
      refine (CI _).out.mono ?_
      rintro e w' ⟨rfl, rfl⟩
      go_wp2
      go_ret
      exact ⟨rfl, hb0⟩
  by_cases h3 : n = 3
  · subst h3
    rw [if_neg (by omega), if_neg (by omega), if_pos rfl]
    by_cases hz : s.size = 1
    · have e1 : ((s.size : Int) == 1) = true := by rw [beq_iff_eq]; omega
      have hpos : 0 < s.size := by omega
      have hb : signB s = (cls (s[0]'hpos).toNat == 3) := by unfold signB; rw [dif_pos hz]
      rw [hb]
      clear hb hz
      have C := fun w => Lib.hid (l1Class_any s[0] w)
      generalize cls s[0].toNat = z at *
      go_enter Tryd.func13, Tryd.ntmps13
      go_wp2_with fail
      refine (C _).out.mono ?_
      rintro e w' ⟨rfl, rfl⟩
      go_wp2
      go_ret
      exact ⟨rfl, hb0⟩
    · have e1 : ((s.size : Int) == 1) = false := by rw [beq_eq_false_iff_ne]; omega
      have hb : signB s = false := by unfold signB; rw [dif_neg hz]
      rw [hb]
      clear hb hz
      go_enter Tryd.func13, Tryd.ntmps13
      go_wp2
      go_ret
      exact ⟨rfl, hb0⟩
  by_cases h4 : n = 4
  · subst h4
    rw [if_neg (by omega), if_neg (by omega), if_neg (by omega), if_pos rfl]
    have C := Lib.hid (l1Key_any s (w.alloc (.cells #[.int .i64 4, .string s] 28)))
    generalize isKeyB s = b at *
    go_enter Tryd.func13, Tryd.ntmps13
    go_wp2_with fail
    refine C.out.mono ?_
    rintro e w' ⟨rfl, hb⟩
    have hb2 := hb0.trans (hb.mono hb0.size)
    clear hb hb0
    go_wp2
    go_ret
    exact ⟨rfl, hb2⟩
  · rw [if_neg h1, if_neg h2, if_neg h3, if_neg h4]
    have b1 : (n == 1) = false := by rw [beq_eq_false_iff_ne]; exact h1
    have b2 : (n == 2) = false := by rw [beq_eq_false_iff_ne]; exact h2
    have b3 : (n == 3) = false := by rw [beq_eq_false_iff_ne]; exact h3
    have b4 : (n == 4) = false := by rw [beq_eq_false_iff_ne]; exact h4
    clear h1 h2 h3 h4
    go_enter Tryd.func13, Tryd.ntmps13
    go_wp2
    go_ret
    exact ⟨rfl, hb0⟩

/-- The number that a word tells. -/
def numOfB (n : Int) (s : ByteArray) : Int := if n = 2 then numB s.data.toList else -1


theorem numOf_yes {s : ByteArray} (h : 0 ≤ numB s.data.toList) : numB s.data.toList = (l30F s).1 := by
  rw [numB_l30F] at h ⊢
  split
  · rfl
  · rename_i hn; rw [if_neg hn] at h; omega


end Go.Proofs.YtljoipgpkmdjbaaDoor
