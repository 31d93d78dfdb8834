/-
  The law on CutWords: its walk.
-/
import Derived.Test.YtkgjdmojlpkeeaaDoorMarkW
namespace Go.Proofs.YtkgjdmojlpkeeaaDoor
open Go.RowKit
set_option maxRecDepth 100000

theorem words_own {w : World} {base e : Nat} {ws : List (Int × ByteArray)} {v : Value} (h : w.ownsRow base e 2 v ws.length (wordCells ws)) : ∃ A cap, v = .slice A ws.length cap ∧ Words w w.heap.size A ws := by
  rcases h.2 with ⟨rfl, h0⟩ | ⟨g, cap, cur, rfl, _⟩
  · exact ⟨none, 0, by rw [h0], fun hne => absurd (List.length_eq_zero_iff.1 h0) hne⟩
  · exact ⟨_, cap, rfl, Words.of_own h⟩
theorem cutRes_len (s : ByteArray) : (cutRes s).1.length ≤ 600 := by
  unfold cutRes
  split
  · simp
  · split
    · split
      · assumption
      · simp
    · simp
theorem words_self (ws : List (Int × ByteArray)) : decide (ws = ws) = true := by simp
theorem own_below {w w' : World} {base e size n : Nat} {v : Value} {xs : List Value} (h : w.ownsRow base e size v n xs) (hb : Below w.heap.size w w') : w'.ownsRow base e size v n xs :=
  h.kept (row := none) ⟨hb.os, hb.tape, hb.output, hb.size, fun i hi _ => hb.block i hi⟩ (Classical.em _)

set_option maxHeartbeats 2000000 in
/-- The law on CutWords answers true, and turns nothing that was there. -/
theorem fnExactCutWords_walk (s : ByteArray) (w : World) (hs : s.size ≤ maxLen) (T : Tabs w) (N : NTabs w) :
    Calls Tryd.prog 11 #[.string s] w fun e w' => e = .returned (.bool true) ∧ Below w.heap.size w w' := by
  by_cases hl : 1048576 < s.size
  · unfold maxLen at hs
    go_enter Tryd.func11, Tryd.ntmps11
    go_wp2
    go_ret
    exact ⟨rfl, Below.refl _ _⟩
  have hl' : s.size ≤ 1048576 := by omega
  clear hl
  unfold maxLen at hs
  have SC := fun W => Lib.hid (specCutWords_any s W hl')
  have IC := fun W h h' => Lib.hid (implCutWords_any s W hl' h h')
  have hlen := cutRes_len s
  generalize cutRes s = p at *
  obtain ⟨ws, ok⟩ := p
  have hlen' : ws.length ≤ 600 := hlen
  clear hlen
  go_enter Tryd.func11, Tryd.ntmps11
  go_wp2_with fail
  refine (SC _).out.mono ?_
  rintro e w1 ⟨⟨v0, rfl, hO1⟩, hb1⟩
  obtain ⟨A0, cap0, rfl, hW1⟩ := words_own hO1
  clear hO1 SC
  go_wp2_with fail
  refine (IC w1 (T.below hb1) (N.below hb1)).out.mono ?_
  rintro e w2 ⟨⟨v1, rfl, hO2⟩, hb2⟩
  obtain ⟨A1, cap1, rfl, hW2⟩ := words_own hO2
  replace hO2 := Lib.hid hO2
  have hW12 := (hW1.below hb2).more hb2.size
  have EQ := Lib.hid (eqWordS_any A1 ws cap1 A0 ws cap0 w2 hW2 hW12 (by omega) (by omega))
  rw [words_self] at EQ
  clear hW2 hW12
  cases ok
  all_goals
    go_wp2_with fail
    refine EQ.out.mono ?_
    rintro e w3 ⟨rfl, hb3⟩
    clear EQ
    have hbs2 := hb2.size
    have hb23 := hb2.trans (hb3.mono hbs2)
    have MK := Lib.hid (markWordS_any w1.heap.size 37 ws.length 1 _ _ w3 (own_below hO2.out hb3) hb23.size (by omega) (by omega) (by omega))
    clear hO2
    go_wp2_with fail
    refine MK.out.mono ?_
    rintro e w4 ⟨rfl, ⟨xs4, hO4, hm4⟩, hb4⟩
    replace hO4 := Lib.hid hO4
    replace hm4 := Lib.hid hm4
    have hb24 := hb23.trans hb4
    have HE := Lib.hid (heldWordS_any w1.heap.size 37 ws.length 1 _ xs4 w4 hO4.out hm4.out (by omega) (by omega) (by omega))
    clear MK
    go_wp2_with fail
    refine HE.out.mono ?_
    rintro e w5 ⟨rfl, hb5⟩
    have hb25 := hb24.trans (hb5.mono hb24.size)
    have hO5 := Lib.hid (own_below hO4.out hb5)
    have hb05 := hb1.trans (hb25.mono hb1.size)
    clear HE
    go_wp2_with fail
    refine (IC w5 (T.below hb05) (N.below hb05)).out.mono ?_
    rintro e w6 ⟨⟨v6, rfl, hO6⟩, hb6⟩
    obtain ⟨A6, cap6, rfl, hW6⟩ := words_own hO6
    have hO5' := Lib.hid (own_below hO5.out hb6)
    have hb26 := hb25.trans (hb6.mono hb25.size)
    have hW16 := (hW1.below hb26).more hb26.size
    have EQ := Lib.hid (eqWordS_any A6 ws cap6 A0 ws cap0 w6 hW6 hW16 (by omega) (by omega))
    rw [words_self] at EQ
    clear hW6 hW16 IC hO6 hO5
    go_wp2_with fail
    refine EQ.out.mono ?_
    rintro e w7 ⟨rfl, hb7⟩
    have hb27 := hb26.trans (hb7.mono hb26.size)
    have hO7 := Lib.hid (own_below hO5'.out hb7)
    have HE := Lib.hid (heldWordS_any w1.heap.size 37 ws.length 1 _ xs4 w7 hO7.out hm4.out (by omega) (by omega) (by omega))
    clear EQ
    go_wp2_with fail
    refine HE.out.mono ?_
    rintro e w8 ⟨rfl, hb8⟩
    have hbz := hb1.trans ((hb27.trans (hb8.mono hb27.size)).mono hb1.size)
    clear HE hb8 hb27 hb7 hb26 hb6 hb25 hb5 hb24 hb4 hb23 hb3 hb2 hb1 hb05
    go_wp2
    go_ret
    exact ⟨rfl, hbz⟩
end Go.Proofs.YtkgjdmojlpkeeaaDoor
