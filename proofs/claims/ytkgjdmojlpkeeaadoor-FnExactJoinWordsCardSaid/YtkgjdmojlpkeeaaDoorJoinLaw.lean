/-
  The law on JoinWords: its walk.
-/
import Derived.Test.YtkgjdmojlpkeeaaDoorJoin
namespace Go.Proofs.YtkgjdmojlpkeeaaDoor
open Go.RowKit
set_option maxRecDepth 100000

set_option maxHeartbeats 1000000 in
/-- The law on JoinWords answers true, and turns nothing that was there. -/
theorem fnExactJoinWords_walk (A : Option Addr) (ws : List (Int × ByteArray)) (cap : Nat) (w : World) (hW : Words w w.heap.size A ws) (hs : ∀ x ∈ ws, x.2.size ≤ maxLen) (hn : ws.length ≤ 9223372036854775807) (T : Tabs w) (N : NTabs w) :
    Calls Tryd.prog 12 #[.slice A ws.length cap] w fun e w' => e = .returned (.bool true) ∧ Below w.heap.size w w' := by
  have hs' := Lib.hid hs
  clear hs
  go_enter Tryd.func12, Tryd.ntmps12
  go_wp2_with fail
  refine (szWordS_any A ws cap 1048576 w hW hs'.out hn (by omega) (by omega)).mono ?_
  rintro e w1 ⟨⟨r, rfl, hr0, hr1, hr⟩, hb1⟩
  by_cases hr' : 0 ≤ r
  · have hm := (hr hr').1
    have hsm := Lib.hid (hr hr').2
    clear hr
    go_wp2_with fail
    refine (toWordS_any A ws cap w1 ((hW.below hb1).more hb1.size) hm).mono ?_
    rintro e w2 ⟨⟨A2, rfl, hW2⟩, hb2⟩
    have SJ := Lib.hid (specJoinWords_any A2 ws ws.length w2 hW2 hsm.out hm)
    go_wp2_with fail
    refine SJ.out.mono ?_
    rintro e w3 ⟨rfl, hb3⟩
    clear SJ
    have hb12 := hb1.trans (hb2.mono hb1.size)
    have hb13 := hb12.trans (hb3.mono hb12.size)
    go_wp2_with fail
    refine (toWordS_any A ws cap w3 ((hW.below hb13).more hb13.size) hm).mono ?_
    rintro e w4 ⟨⟨A4, rfl, hW4⟩, hb4⟩
    have hb14 := hb13.trans (hb4.mono hb13.size)
    have IJ := Lib.hid (implJoinWords_any A4 ws ws.length w4 hW4 hsm.out hm (T.below hb14) (N.below hb14))
    go_wp2_with fail
    refine IJ.out.mono ?_
    rintro e w5 ⟨rfl, hb5⟩
    clear IJ
    have hb15 := hb14.trans (hb5.mono hb14.size)
    have q1 : ((joinF ws).1.toList == (joinF ws).1.toList) = true := by simp
    generalize (joinF ws).1 = t1 at *
    generalize (joinF ws).2 = t2 at *
    cases t2
    all_goals
      go_wp2_with fail
      refine (toWordS_any A ws cap w5 ((hW.below hb15).more hb15.size) hm).mono ?_
      rintro e w6 ⟨⟨A6, rfl, hW6⟩, hb6⟩
      have hb16 := hb15.trans (hb6.mono hb15.size)
      go_wp2_with fail
      have hW4' : Words w6 w6.heap.size A4 ws := by
        have h1 := hW4.below hb5
        have h2 := h1.below (hb6.mono hb5.size)
        exact h2.more (by have := hb5.size; have := hb6.size; omega)
      refine (eqWordS_any A4 ws ws.length A6 ws ws.length w6 hW4' hW6 (by omega) (by omega)).mono ?_
      rintro e w7 ⟨rfl, hb7⟩
      have hd : decide (ws = ws) = true := by simp
      rw [hd]
      have hb17 := hb16.trans (hb7.mono hb16.size)
      clear hb1 hb2 hb12 hb3 hb13 hb4 hb14 hb5 hb15 hb6 hb16 hb7 hd q1
      go_wp2
      go_ret
      exact ⟨rfl, hb17⟩
  · clear hr
    go_wp2
    go_ret
    exact ⟨rfl, hb1⟩
end Go.Proofs.YtkgjdmojlpkeeaaDoor
