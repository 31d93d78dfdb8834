/-
  The law that a word tells a number just if it is a valid number, and is then the one word of its text: its walk.
-/
import Derived.Test.YtcgjlfkjcgpocaaDoorCutLaw
import Derived.Test.YtcgjlfkjcgpocaaDoorDrawW
import Derived.Test.YtcgjlfkjcgpocaaDoorKW
import Derived.Test.YtcgjlfkjcgpocaaDoorCutL2
import Derived.Test.YtcgjlfkjcgpocaaDoorCK
import Derived.Test.YtcgjlfkjcgpocaaDoorB0
namespace Go.Proofs.YtcgjlfkjcgpocaaDoor
open Go.RowKit
set_option maxRecDepth 100000

theorem numOf_range (n : Int) (s : ByteArray) : -1 ≤ numOfB n s ∧ numOfB n s ≤ 255 := by
  unfold numOfB
  split
  · exact numB_range _
  · omega
theorem numOf_neg {n : Int} {s : ByteArray} (h : numOfB n s < 0) : n ≠ 2 ∨ (n = 2 ∧ validB n s = false) := by
  by_cases h2 : n = 2
  · refine .inr ⟨h2, ?_⟩
    subst h2
    unfold numOfB at h
    rw [if_pos rfl] at h
    show decide (0 ≤ numB s.data.toList) = false
    exact decide_eq_false (by omega)
  · exact .inl h2
theorem numOf_pos {n : Int} {s : ByteArray} (h : ¬ numOfB n s < 0) : n = 2 ∧ validB n s = true ∧ cutRes s = ([(n, s)], true) := by
  by_cases h2 : n = 2
  · subst h2
    unfold numOfB at h
    rw [if_pos rfl] at h
    have hv : validB 2 s = true := decide_eq_true (by omega)
    have hz := validB_size hv
    exact ⟨rfl, hv, cutRes_yes (by omega) (by rw [cut_list]; exact cutL_one hv) (by simp)⟩
  · unfold numOfB at h
    rw [if_neg h2] at h
    omega
set_option maxHeartbeats 4000000 in
theorem fnNumber_walk (A : Option Addr) (l : List UInt8) (cap : Nat) (w : World) (hB : Bytes w w.heap.size A l) (hn : l.length ≤ cap) (hcap : cap ≤ 9223372036854775807) (T : Tabs w) (N : NTabs w) :
    Calls Tryd.prog 5 #[.slice A l.length cap] w fun e w' => e = .returned (.bool true) ∧ Below w.heap.size w w' := by
  by_cases hl : 1048576 < l.length
  · clear hB T N
    go_enter Tryd.func5, Tryd.ntmps5
    go_wp2
    go_ret
    exact ⟨rfl, Below.refl _ _⟩
  have hl' : l.length ≤ 1048576 := by omega
  have DC := Lib.hid (drawNumberOf_any A l cap w hB hn hcap)
  clear hl hB
  go_enter Tryd.func5, Tryd.ntmps5
  go_wp2_with fail
  refine DC.out.mono ?_
  rintro e w1 ⟨n, s, hs, rfl, hb1⟩
  clear DC
  have ha : Below w1.heap.size w1 (w1.alloc (.cells #[.int .i64 n, .string s] 29)) := (Below.refl _ _).alloc (Nat.le_refl _) _
  have hba := hb1.trans (ha.mono hb1.size)
  have Ta := T.below hba
  have Na := N.below hba
  have IN := Lib.hid (implNumberOf_any n s _ (by omega) Na)
  have SN := fun W => Lib.hid (specNumberOf_any n s W (by omega))
  have IV := fun W h h' => Lib.hid (implWordValid_any n s W (by omega) h h')
  have IC := fun W h h' => Lib.hid (implCutWords_any s W (by omega) h h')
  have CK := fun A ws cap kind W hW hn => Lib.hid (implCountKind_any A ws cap kind W hW hn)
  have HR := Lib.hid (numOf_range n s)
  have HN1 := Lib.hid (fun h => numOf_neg (n := n) (s := s) h)
  have HN2 := Lib.hid (fun h => numOf_pos (n := n) (s := s) h)
  replace hba := Lib.hid hba
  replace Ta := Lib.hid Ta
  replace Na := Lib.hid Na
  clear T N ha
  generalize numOfB n s = z at *
  generalize validB n s = v at *
  generalize cutRes s = cr at *
  go_wp2_with fail
  refine IN.out.mono ?_
  rintro e w2 ⟨rfl, hb2⟩
  have SN2 := Lib.hid (SN w2).out
  obtain ⟨j0, j1, _, _⟩ := own_cells hb2
  have q1 : (z != z) = false := by simp
  have q2 : ¬ z < -1 := by have := HR.out.1; omega
  have q3 : ¬ 255 < z := by have := HR.out.2; omega
  clear IN SN
  go_wp2_with fail
  refine SN2.out.mono ?_
  rintro e w3 ⟨rfl, hb3⟩
  have hb23 := hb2.trans (hb3.mono hb2.size)
  obtain ⟨k0, k1, _, _⟩ := own_cells hb23
  have T3 := Lib.hid (Ta.out.below hb23)
  have N3 := Lib.hid (Na.out.below hb23)
  have hl3 : w1.heap.size < w3.heap.size := by have := hb23.size; simp only [World.size_alloc] at this; omega
  have hb03 := Lib.hid (hba.out.trans (hb23.mono hba.out.size))
  clear SN2 j0 j1 hb2 hb3 hb23 Ta Na hba hb1 HR
  by_cases hz : z < 0
  · rcases HN1.out (by omega) with h2 | ⟨rfl, rfl⟩
    · have b0 : (n == 2) = false := by rw [beq_eq_false_iff_ne]; exact h2
      have b1 : (n != 2) = true := by rw [bne, b0]; rfl
      clear HN1 HN2 IV IC CK T3 N3 h2
      go_wp2
      go_ret
      exact ⟨rfl, hb03.out⟩
    · have IV3 := Lib.hid (IV w3 T3.out N3.out).out
      clear HN1 HN2 IV IC CK T3 N3
      go_wp2_with fail
      refine IV3.out.mono ?_
      rintro e w4 ⟨rfl, hb4⟩
      have hb04 := hb03.out.trans (hb4.mono hb03.out.size)
      clear IV3 hb4 hb03
      go_wp2
      go_ret
      exact ⟨rfl, hb04⟩
  · obtain ⟨rfl, rfl, rfl⟩ := HN2.out (by omega)
    have IC3 := Lib.hid (IC w3 T3.out N3.out).out
    clear HN1 HN2 IC
    go_wp2_with fail
    refine IC3.out.mono ?_
    rintro e w4 ⟨⟨v4, rfl, hO4⟩, hb4⟩
    obtain ⟨A4, cap4, rfl, hW4⟩ := words_own hO4
    obtain ⟨b, o, rfl, hB, c1, c2⟩ := hW4.at_ (k := 0) (by simp)
    replace c1 : w4.cell? ⟨b, o, none⟩ = some (.int .i64 2) := by simpa using c1
    replace c2 : w4.cell? ⟨b, o + 1, none⟩ = some (.string s) := by simpa using c2
    have m0 := (hb4.cell (p := ⟨w1.heap.size, 0, none⟩) hl3).trans k0
    have m1 := (hb4.cell (p := ⟨w1.heap.size, 1, none⟩) hl3).trans k1
    have hl4 := Nat.lt_of_lt_of_le hl3 hb4.size
    have hb04 := Lib.hid (hb03.out.trans (hb4.mono hb03.out.size))
    have T4 := T3.out.below hb4.drew
    have N4 := N3.out.below hb4.drew
    have IV4 := Lib.hid (IV w4.drew T4 N4).out
    have HW4 := Lib.hid (fun w5 (h : Below w4.drew.heap.size w4.drew w5) => (hW4.below ((Below.refl _ w4).drew.trans (h.mono (show w4.heap.size ≤ w4.drew.heap.size from Nat.le_refl _)))).more (show w4.heap.size ≤ w5.heap.size from h.size))
    have hlen1 : (([(2, s)] : List (Int × ByteArray)).length : Int) = 1 := rfl
    have b2 : (s.toList == s.toList) = true := by simp
    have CK4 := fun W hW => Lib.hid (show Calls Tryd.prog 23 #[.slice (some ⟨b, o, none⟩) 1 cap4, .int .i64 2] W (fun e w' => e = .returned (.int .i64 1) ∧ Below W.heap.size W w') from (CK (some ⟨b, o, none⟩) [((2 : Int), s)] cap4 2 W hW (by simp)).out)
    clear T4 N4 IC3 hO4 hb03 IV CK T3 N3 k0 k1 hW4 hb4 hl3
    go_upto_region 10 with (fail)
    go_region_held3 (fun u => u.cell? ⟨b, o, none⟩ = some (.int .i64 2) ∧ u.cell? ⟨b, o + 1, none⟩ = some (.string s) ∧ u.cell? ⟨w1.heap.size, 0, none⟩ = some (.int .i64 2) ∧ u.cell? ⟨w1.heap.size, 1, none⟩ = some (.string s)) (go_keep)
      (first
        | (go_at_call 13; (with_reducible refine Calls.mono IV4.out ?_); rintro ee w5 ⟨rfl, hb5⟩; have n0 := (hb5.cell (p := ⟨b, o, none⟩) hB).trans c1; have n1 := (hb5.cell (p := ⟨b, o + 1, none⟩) hB).trans c2; have n2 := (hb5.cell (p := ⟨w1.heap.size, 0, none⟩) hl4).trans m0; have n3 := (hb5.cell (p := ⟨w1.heap.size, 1, none⟩) hl4).trans m1; have CK5 := CK4 w5 (HW4.out w5 hb5))
        | (go_at_call 23; (with_reducible refine Calls.mono CK5.out ?_); rintro ee w6 ⟨rfl, hb6⟩; have hB5 := Nat.lt_of_lt_of_le hB hb5.size; have hl5 := Nat.lt_of_lt_of_le hl4 hb5.size; have p0 := (hb6.cell (p := ⟨b, o, none⟩) hB5).trans n0; have p1 := (hb6.cell (p := ⟨b, o + 1, none⟩) hB5).trans n1; have p2 := (hb6.cell (p := ⟨w1.heap.size, 0, none⟩) hl5).trans n2; have p3 := (hb6.cell (p := ⟨w1.heap.size, 1, none⟩) hl5).trans n3))
    all_goals
      have hb06 := hb04.out.drew.trans ((hb5.mono hb04.out.size).trans (hb6.mono (Nat.le_trans hb04.out.size hb5.size)))
      go_wp2_with fail
      go_ret
      exact ⟨rfl, hb06⟩
end Go.Proofs.YtcgjlfkjcgpocaaDoor
