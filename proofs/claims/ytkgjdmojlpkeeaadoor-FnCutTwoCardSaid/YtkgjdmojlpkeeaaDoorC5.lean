/-
  The model's WordValid and NumberOf, the program's NumberOf, and both laws' walks.
-/
import Derived.Test.YtkgjdmojlpkeeaaDoorC4
import Derived.Test.YtkgjdmojlpkeeaaDoorW1
namespace Go.Proofs.YtkgjdmojlpkeeaaDoor
open Go.RowKit
set_option maxRecDepth 100000

theorem validB_two (s : ByteArray) : decide (0 ≤ numB s.data.toList) = ((l30F s).2 && decide (0 ≤ (l30F s).1 ∧ (l30F s).1 ≤ 255)) := by
  rw [numB_l30F]
  generalize l30F s = p
  obtain ⟨z, ok⟩ := p
  cases ok
  · simp
  · by_cases h : 0 ≤ z ∧ z ≤ 255
    · simp [h]
    · simp only [true_and]
      rw [if_neg h]
      simp [h]

set_option maxHeartbeats 1000000 in
theorem specWordValid_any (n : Int) (s : ByteArray) (w : World) (hs : s.size ≤ 1048576) :
    Calls Tryd.prog 22 #[.agg #[.int .i64 n, .string s]] w (BoolBelow (validB n s) w) := by
  have hb0 : Below w.heap.size w (w.alloc (.cells #[.int .i64 n, .string s] 37)) := (Below.refl _ _).alloc (Nat.le_refl _) _
  have hs' : s.size ≤ maxLen := by unfold maxLen; omega
  unfold validB
  by_cases h1 : n = 1
  · subst h1
    rw [if_pos rfl]
    have C := Lib.hid (specIsName_any s (w.alloc (.cells #[.int .i64 1, .string s] 37)) hs')
    generalize nameB s = b at *
    go_enter Tryd.func22, Tryd.ntmps22
    go_wp2_with fail
    refine C.out.mono ?_
    rintro e w' ⟨rfl, hb⟩
    have hb2 := hb0.trans (hb.mono hb0.size)
    clear hb hb0
    go_wp2
    go_ret
    exact ⟨rfl, hb2⟩
  by_cases h2 : n = 2
  · subst h2
    rw [if_neg (by omega), if_pos rfl, validB_two]
    have C := Lib.hid (l30Num_any s (w.alloc (.cells #[.int .i64 2, .string s] 37)) hs')
    generalize l30F s = p at *
    obtain ⟨z, ok⟩ := p
    cases ok
    · go_enter Tryd.func22, Tryd.ntmps22
      go_wp2_with fail
      refine C.out.mono ?_
      rintro e w' ⟨rfl, rfl⟩
      go_wp2
      go_ret
      exact ⟨rfl, hb0⟩
    · have CI := fun w => Lib.hid (l1In_any z 0 255 w)
      show Calls _ _ _ _ (BoolBelow (decide (0 ≤ z ∧ z ≤ 255)) w)
      generalize decide (0 ≤ z ∧ z ≤ 255) = d at *
      go_enter Tryd.func22, Tryd.ntmps22
      go_wp2_with fail
      refine C.out.mono ?_
      rintro e w' ⟨rfl, rfl⟩
      go_wp2_with fail
      refine (CI _).out.mono ?_
      rintro e w' ⟨rfl, rfl⟩
      go_wp2
      go_ret
      exact ⟨rfl, hb0⟩
  by_cases h3 : n = 3
  · subst h3
    rw [if_neg (by omega), if_neg (by omega), if_pos rfl]
    by_cases hz : s.size = 1
    · have e1 : ((s.size : Int) == 1) = true := by rw [beq_iff_eq]; omega
      have hpos : 0 < s.size := by omega
      have hb : signB s = (cls (s[0]'hpos).toNat == 3) := by unfold signB; rw [dif_pos hz]
      rw [hb]
      clear hb hz
      have C := fun w => Lib.hid (l1Class_any s[0] w)
      generalize cls s[0].toNat = z at *
      go_enter Tryd.func22, Tryd.ntmps22
      go_wp2_with fail
      refine (C _).out.mono ?_
      rintro e w' ⟨rfl, rfl⟩
      go_wp2
      go_ret
      exact ⟨rfl, hb0⟩
    · have e1 : ((s.size : Int) == 1) = false := by rw [beq_eq_false_iff_ne]; omega
      have hb : signB s = false := by unfold signB; rw [dif_neg hz]
      rw [hb]
      clear hb hz
      go_enter Tryd.func22, Tryd.ntmps22
      go_wp2
      go_ret
      exact ⟨rfl, hb0⟩
  by_cases h4 : n = 4
  · subst h4
    rw [if_neg (by omega), if_neg (by omega), if_neg (by omega), if_pos rfl]
    have C := Lib.hid (l1Key_any s (w.alloc (.cells #[.int .i64 4, .string s] 37)))
    generalize isKeyB s = b at *
    go_enter Tryd.func22, Tryd.ntmps22
    go_wp2_with fail
    refine C.out.mono ?_
    rintro e w' ⟨rfl, hb⟩
    have hb2 := hb0.trans (hb.mono hb0.size)
    clear hb hb0
    go_wp2
    go_ret
    exact ⟨rfl, hb2⟩
  · rw [if_neg h1, if_neg h2, if_neg h3, if_neg h4]
    have b1 : (n == 1) = false := by rw [beq_eq_false_iff_ne]; exact h1
    have b2 : (n == 2) = false := by rw [beq_eq_false_iff_ne]; exact h2
    have b3 : (n == 3) = false := by rw [beq_eq_false_iff_ne]; exact h3
    have b4 : (n == 4) = false := by rw [beq_eq_false_iff_ne]; exact h4
    clear h1 h2 h3 h4
    go_enter Tryd.func22, Tryd.ntmps22
    go_wp2
    go_ret
    exact ⟨rfl, hb0⟩

/-- The number that a word tells. -/
def numOfB (n : Int) (s : ByteArray) : Int := if n = 2 then numB s.data.toList else -1

set_option maxHeartbeats 1000000 in
theorem implNumberOf_any (n : Int) (s : ByteArray) (w : World) (hs : s.size ≤ 1048576) (N : NTabs w) :
    Calls Tryd.prog 33 #[.agg #[.int .i64 n, .string s]] w (IntBelow (numOfB n s) w) := by
  have hb0 : Below w.heap.size w (w.alloc (.cells #[.int .i64 n, .string s] 37)) := (Below.refl _ _).alloc (Nat.le_refl _) _
  have N1 := N.below hb0
  unfold numOfB
  by_cases h2 : n = 2
  · subst h2
    rw [if_pos rfl]
    have C := Lib.hid (numberIn_any s _ hs N1)
    generalize numB s.data.toList = z at *
    go_enter Tryd.func33, Tryd.ntmps33
    go_wp2_with fail
    refine C.out.mono ?_
    rintro e w' ⟨rfl, hb⟩
    have hb2 := hb0.trans (hb.mono hb0.size)
    clear hb hb0
    go_wp2
    go_ret
    exact ⟨rfl, hb2⟩
  · rw [if_neg h2]
    have b2 : (n == 2) = false := by rw [beq_eq_false_iff_ne]; exact h2
    have b3 : (n != 2) = true := by rw [bne, b2]; rfl
    clear h2
    go_enter Tryd.func33, Tryd.ntmps33
    go_wp2
    go_ret
    exact ⟨rfl, hb0⟩

theorem numOf_yes {s : ByteArray} (h : 0 ≤ numB s.data.toList) : numB s.data.toList = (l30F s).1 := by
  rw [numB_l30F] at h ⊢
  split
  · rfl
  · rename_i hn; rw [if_neg hn] at h; omega
set_option maxHeartbeats 1000000 in
theorem specNumberOf_any (n : Int) (s : ByteArray) (w : World) (hs : s.size ≤ 1048576) :
    Calls Tryd.prog 32 #[.agg #[.int .i64 n, .string s]] w (IntBelow (numOfB n s) w) := by
  have hb0 : Below w.heap.size w (w.alloc (.cells #[.int .i64 n, .string s] 37)) := (Below.refl _ _).alloc (Nat.le_refl _) _
  have hs' : s.size ≤ maxLen := by unfold maxLen; omega
  unfold numOfB
  by_cases h2 : n = 2
  · subst h2
    rw [if_pos rfl]
    have CV := Lib.hid (specWordValid_any 2 s (w.alloc (.cells #[.int .i64 2, .string s] 37)) hs)
    have hv : validB 2 s = decide (0 ≤ numB s.data.toList) := by unfold validB; rw [if_neg (by omega), if_pos rfl]
    have hr := numB_range s.data.toList
    by_cases h0 : 0 ≤ numB s.data.toList
    · rw [hv, decide_eq_true h0] at CV
      have CN := fun w => Lib.hid (l30Num_any s w hs')
      rw [numOf_yes h0]
      clear hv hr h0
      generalize l30F s = p at *
      go_enter Tryd.func32, Tryd.ntmps32
      go_wp2_with fail
      refine CV.out.mono ?_
      rintro e w' ⟨rfl, hb⟩
      have hcell : w'.cell? ⟨w.heap.size, 1, none⟩ = some (.string s) := by
        rw [hb.cell (p := ⟨w.heap.size, 1, none⟩) (by simp)]
        exact alloc_cell w _ _ _ 1
      have hb2 := hb0.trans (hb.mono hb0.size)
      clear hb hb0
      go_wp2_with fail
      refine (CN _).out.mono ?_
      rintro e w2 ⟨rfl, rfl⟩
      go_wp2
      go_ret
      exact ⟨rfl, hb2⟩
    · rw [hv, decide_eq_false h0] at CV
      have hm : numB s.data.toList = -1 := by omega
      rw [hm]
      clear hv hr h0 hm
      go_enter Tryd.func32, Tryd.ntmps32
      go_wp2_with fail
      refine CV.out.mono ?_
      rintro e w' ⟨rfl, hb⟩
      have hb2 := hb0.trans (hb.mono hb0.size)
      clear hb hb0
      go_wp2
      go_ret
      exact ⟨rfl, hb2⟩
  · rw [if_neg h2]
    have b2 : (n == 2) = false := by rw [beq_eq_false_iff_ne]; exact h2
    have b3 : (n != 2) = true := by rw [bne, b2]; rfl
    clear h2
    go_enter Tryd.func32, Tryd.ntmps32
    go_wp2
    go_ret
    exact ⟨rfl, hb0⟩

set_option maxHeartbeats 1000000 in
/-- The law on NumberOf answers true, and turns nothing that was there. -/
theorem fnExactNumberOf_walk (n : Int) (s : ByteArray) (w : World) (hs : s.size ≤ maxLen) (N : NTabs w) :
    Calls Tryd.prog 10 #[.agg #[.int .i64 n, .string s]] w fun e w' => e = .returned (.bool true) ∧ Below w.heap.size w w' := by
  have hb0 : Below w.heap.size w (w.alloc (.cells #[.int .i64 n, .string s] 34)) := (Below.refl _ _).alloc (Nat.le_refl _) _
  have hc0 := alloc_cell w #[.int .i64 n, .string s] 34 (0, 0) 0
  have hc1 := alloc_cell w #[.int .i64 n, .string s] 34 (0, 0) 1
  have Z := fun W => szWord_any n s 1048576 W hs (by omega) (by omega)
  have HC0 := Lib.hid hc0; have HC1 := Lib.hid hc1
  clear hc0 hc1
  go_enter Tryd.func10, Tryd.ntmps10
  go_wp2_with fail
  refine (Z _).mono ?_
  rintro e w1 ⟨rfl, hb1⟩
  clear Z
  have k0 : w1.cell? ⟨w.heap.size, 0, none⟩ = some (.int .i64 n) := (hb1.cell (p := ⟨w.heap.size, 0, none⟩) (by simp)).trans HC0.out
  have k1 : w1.cell? ⟨w.heap.size, 1, none⟩ = some (.string s) := (hb1.cell (p := ⟨w.heap.size, 1, none⟩) (by simp)).trans HC1.out
  have hbs := hb0.trans (hb1.mono hb0.size)
  have hlt1 : w.heap.size < w1.heap.size := by have := hb1.size; simp at this; omega
  clear hb0 hb1
  unfold szW
  by_cases hneg : (1048576 : Int) - s.size < 0
  · rw [if_pos hneg]
    clear hneg
    go_wp2
    go_ret
    exact ⟨rfl, hbs⟩
  · rw [if_neg hneg]
    have hle : s.size ≤ 1048576 := by omega
    have hge : (0 : Int) ≤ 1048576 - s.size := by omega
    clear hneg
    have N1 := N.below hbs
    have TW := fun W => Lib.hid (toWord_any n s W)
    have SP := fun W => Lib.hid (specNumberOf_any n s W hle)
    have IM := fun W h => Lib.hid (implNumberOf_any n s W hle h)
    generalize numOfB n s = z at *
    go_wp2_with fail
    refine (TW _).out.mono ?_
    rintro e w2 ⟨rfl, hb2⟩
    have q0 := (hb2.cell (p := ⟨w.heap.size, 0, none⟩) hlt1).trans k0
    have q1 := (hb2.cell (p := ⟨w.heap.size, 1, none⟩) hlt1).trans k1
    have hlt2 : w.heap.size < w2.heap.size := Nat.lt_of_lt_of_le hlt1 hb2.size
    have hbs2 := hbs.trans (hb2.mono hbs.size)
    clear hb2 k0 k1
    go_wp2_with fail
    refine (SP _).out.mono ?_
    rintro e w3 ⟨rfl, hb3⟩
    have r0 := (hb3.cell (p := ⟨w.heap.size, 0, none⟩) hlt2).trans q0
    have r1 := (hb3.cell (p := ⟨w.heap.size, 1, none⟩) hlt2).trans q1
    have hbs3 := hbs2.trans (hb3.mono hbs2.size)
    have hlt3 : w.heap.size < w3.heap.size := Nat.lt_of_lt_of_le hlt2 hb3.size
    clear hb3 q0 q1
    go_wp2_with fail
    refine (TW _).out.mono ?_
    rintro e w4 ⟨rfl, hb4⟩
    have hbs4 := hbs3.trans (hb4.mono hbs3.size)
    clear hb4 r0 r1
    go_wp2_with fail
    refine (IM _ (N.below hbs4)).out.mono ?_
    rintro e w5 ⟨rfl, hb5⟩
    have hbs5 := hbs4.trans (hb5.mono hbs4.size)
    clear hb5 hbs hbs2 hbs3 hbs4
    have e1 : (z != z) = false := by simp
    go_wp2
    go_ret
    exact ⟨rfl, hbs5⟩

set_option maxHeartbeats 1000000 in
/-- The law on WordValid answers true, and turns nothing that was there. -/
theorem fnExactWordValid_walk (n : Int) (s : ByteArray) (w : World) (hs : s.size ≤ maxLen) (T : Tabs w) (N : NTabs w) :
    Calls Tryd.prog 7 #[.agg #[.int .i64 n, .string s]] w fun e w' => e = .returned (.bool true) ∧ Below w.heap.size w w' := by
  have hb0 : Below w.heap.size w (w.alloc (.cells #[.int .i64 n, .string s] 34)) := (Below.refl _ _).alloc (Nat.le_refl _) _
  have hc0 := alloc_cell w #[.int .i64 n, .string s] 34 (0, 0) 0
  have hc1 := alloc_cell w #[.int .i64 n, .string s] 34 (0, 0) 1
  have Z := fun W => szWord_any n s 1048576 W hs (by omega) (by omega)
  have HC0 := Lib.hid hc0; have HC1 := Lib.hid hc1
  clear hc0 hc1
  go_enter Tryd.func7, Tryd.ntmps7
  go_wp2_with fail
  refine (Z _).mono ?_
  rintro e w1 ⟨rfl, hb1⟩
  clear Z
  have k0 : w1.cell? ⟨w.heap.size, 0, none⟩ = some (.int .i64 n) := (hb1.cell (p := ⟨w.heap.size, 0, none⟩) (by simp)).trans HC0.out
  have k1 : w1.cell? ⟨w.heap.size, 1, none⟩ = some (.string s) := (hb1.cell (p := ⟨w.heap.size, 1, none⟩) (by simp)).trans HC1.out
  have hbs := hb0.trans (hb1.mono hb0.size)
  have hlt1 : w.heap.size < w1.heap.size := by have := hb1.size; simp at this; omega
  clear hb0 hb1
  unfold szW
  by_cases hneg : (1048576 : Int) - s.size < 0
  · rw [if_pos hneg]
    clear hneg
    go_wp2
    go_ret
    exact ⟨rfl, hbs⟩
  · rw [if_neg hneg]
    have hle : s.size ≤ 1048576 := by omega
    have hge : (0 : Int) ≤ 1048576 - s.size := by omega
    clear hneg
    have TW := fun W => Lib.hid (toWord_any n s W)
    have SP := fun W => Lib.hid (specWordValid_any n s W hle)
    have IM := fun W h h' => Lib.hid (implWordValid_any n s W hle h h')
    generalize validB n s = z at *
    go_wp2_with fail
    refine (TW _).out.mono ?_
    rintro e w2 ⟨rfl, hb2⟩
    have q0 := (hb2.cell (p := ⟨w.heap.size, 0, none⟩) hlt1).trans k0
    have q1 := (hb2.cell (p := ⟨w.heap.size, 1, none⟩) hlt1).trans k1
    have hlt2 : w.heap.size < w2.heap.size := Nat.lt_of_lt_of_le hlt1 hb2.size
    have hbs2 := hbs.trans (hb2.mono hbs.size)
    clear hb2 k0 k1
    go_wp2_with fail
    refine (SP _).out.mono ?_
    rintro e w3 ⟨rfl, hb3⟩
    have r0 := (hb3.cell (p := ⟨w.heap.size, 0, none⟩) hlt2).trans q0
    have r1 := (hb3.cell (p := ⟨w.heap.size, 1, none⟩) hlt2).trans q1
    have hbs3 := hbs2.trans (hb3.mono hbs2.size)
    have hlt3 : w.heap.size < w3.heap.size := Nat.lt_of_lt_of_le hlt2 hb3.size
    clear hb3 q0 q1
    go_wp2_with fail
    refine (TW _).out.mono ?_
    rintro e w4 ⟨rfl, hb4⟩
    have hbs4 := hbs3.trans (hb4.mono hbs3.size)
    clear hb4 r0 r1
    go_wp2_with fail
    refine (IM _ (T.below hbs4) (N.below hbs4)).out.mono ?_
    rintro e w5 ⟨rfl, hb5⟩
    have hbs5 := hbs4.trans (hb5.mono hbs4.size)
    clear hb5 hbs hbs2 hbs3 hbs4
    cases z
    all_goals
      go_wp2
      go_ret
      exact ⟨rfl, hbs5⟩
end Go.Proofs.YtkgjdmojlpkeeaaDoor
