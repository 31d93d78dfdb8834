/-
  The law that words that are cut are valid, and are cut again when they are joined: its walk.
-/
import Derived.Test.YtcgjlfkjcgpocaaDoorCutLaw
import Derived.Test.YtcgjlfkjcgpocaaDoorDraw5
import Derived.Test.YtcgjlfkjcgpocaaDoorWW
import Derived.Test.YtcgjlfkjcgpocaaDoorCutL2
namespace Go.Proofs.YtcgjlfkjcgpocaaDoor
open Go.RowKit
set_option maxRecDepth 100000

theorem cut_joined {s : ByteArray} {ws : List (Int × ByteArray)} (h : cutRes s = (ws, true)) :
    ∃ x, joinF ws = (x, true) ∧ cutRes x = (ws, true) ∧ x.size ≤ 3000 ∧ (∀ y ∈ ws, validB y.1 y.2 = true) ∧ ws.length ≤ 600 := by
  obtain ⟨x, h1, h2, _, _, h3⟩ := plain_yes h
  unfold plainF at h1
  rw [h] at h1
  have hv := cutRes_valid s
  rw [h] at hv
  have hl := cutRes_len s
  rw [h] at hl
  exact ⟨x, h1, h2, h3, hv, hl⟩
set_option maxHeartbeats 4000000 in
theorem fnCut_walk (A : Option Addr) (l : List UInt8) (cap : Nat) (w : World) (hB : Bytes w w.heap.size A l) (hn : l.length ≤ cap) (hcap : cap ≤ 9223372036854775807) (T : Tabs w) (N : NTabs w) :
    Calls Tryd.prog 3 #[.slice A l.length cap] w fun e w' => e = .returned (.bool true) ∧ Below w.heap.size w w' := by
  by_cases hl : 1048576 < l.length
  · clear hB T N
    go_enter Tryd.func3, Tryd.ntmps3
    go_wp2
    go_ret
    exact ⟨rfl, Below.refl _ _⟩
  have hl' : l.length ≤ 1048576 := by omega
  have DC := Lib.hid (drawCutWords_any A l cap w hB hn hcap)
  clear hl hB
  have SC := fun s hs W => Lib.hid (specCutWords_any s W hs)
  have IC := fun s hs W h h' => Lib.hid (implCutWords_any s W hs h h')
  go_enter Tryd.func3, Tryd.ntmps3
  go_wp2_with fail
  refine DC.out.mono ?_
  rintro e w1 ⟨s, hs, rfl, hb1⟩
  clear DC
  have T1 := T.below hb1
  have N1 := N.below hb1
  have SC1 := SC s (by omega)
  have IC1 := IC s (by omega)
  clear SC T N
  cases hc : cutRes s with
  | mk ws ok =>
  have hlen := cutRes_len s
  rw [hc] at hlen SC1 IC1
  have hlen' : ws.length ≤ 600 := hlen
  clear hlen
  cases ok
  · obtain ⟨rfl, _⟩ := cutRes_off hc
    clear hc IC
    go_wp2_with fail
    refine (IC1 w1 T1 N1).out.mono ?_
    rintro e w2 ⟨⟨v2, rfl, hO2⟩, hb2⟩
    obtain ⟨A2, cap2, rfl, hW2⟩ := words_own hO2
    clear hO2
    go_wp2_with fail
    refine (SC1 w2).out.mono ?_
    rintro e w3 ⟨⟨v3, rfl, hO3⟩, hb3⟩
    obtain ⟨A3, cap3, rfl, hW3⟩ := words_own hO3
    have hb13 := hb2.trans (hb3.mono hb2.size)
    have hb03 := hb1.trans (hb13.mono hb1.size)
    have WW := fun W (h : Below w3.heap.size w3 W) => Lib.hid (wwWords_same A2 [] cap2 A3 cap3 W (((hW2.below hb3).more hb3.size).below h |>.more h.size) ((hW3.below h).more h.size) (by simp))
    clear hO3 hW2 hW3 SC1 IC1 hb2 hb3 hb13
    go_wp2_with fail
    refine (WW w3 (Below.refl _ _)).out.mono ?_
    rintro e w4 ⟨rfl, hb4⟩
    have WW2 := Lib.hid (WW w4 hb4).out
    clear WW
    go_wp2_with fail
    refine WW2.out.mono ?_
    rintro e w5 ⟨rfl, hb5⟩
    have hb05 := hb03.trans ((hb4.mono hb03.size).trans (hb5.mono (Nat.le_trans hb03.size hb4.size)))
    clear WW2 hb4 hb5 hb03 hb1
    go_wp2_with fail
    go_ret
    exact ⟨rfl, hb05⟩
  · obtain ⟨x, hj, hcx, hx, hv, _⟩ := cut_joined hc
    have hsz : ∀ y ∈ ws, y.2.size ≤ 1048576 := fun y hy => by have := validB_size (hv y hy); omega
    have JW := fun A cap W hW h h' => Lib.hid (implJoinWords_any A ws cap W hW hsz (by omega) h h')
    have IC2 := IC x (by omega)
    rw [hj] at JW
    rw [hcx] at IC2
    have WV := fun (y : Int × ByteArray) (hy : y ∈ ws) W h h' => Lib.hid (show Calls Tryd.prog 13 #[.agg #[.int .i64 y.1, .string y.2]] W (BoolBelow true W) by
      have := implWordValid_any y.1 y.2 W (hsz y hy) h h'
      rw [hv y hy] at this
      exact this)
    have HWV := Lib.hid WV
    clear hc IC hj hcx hv hsz WV
    go_wp2_with fail
    refine (IC1 w1 T1 N1).out.mono ?_
    rintro e w2 ⟨⟨v2, rfl, hO2⟩, hb2⟩
    obtain ⟨A2, cap2, rfl, hW2⟩ := words_own hO2
    clear hO2
    go_wp2_with fail
    refine (SC1 w2).out.mono ?_
    rintro e w3 ⟨⟨v3, rfl, hO3⟩, hb3⟩
    obtain ⟨A3, cap3, rfl, hW3⟩ := words_own hO3
    have hb13 := hb2.trans (hb3.mono hb2.size)
    have WW := Lib.hid (wwWords_same A2 ws cap2 A3 cap3 w3 ((hW2.below hb3).more hb3.size) hW3 (by omega))
    have HW2 := Lib.hid hW2
    clear hO3 hW2 hW3 SC1 IC1
    go_wp2_with fail
    refine WW.out.mono ?_
    rintro e w4 ⟨rfl, hb4⟩
    have hb14 := hb13.trans (hb4.mono hb13.size)
    have HW4 := Lib.hid ((HW2.out.below (hb3.trans (hb4.mono hb3.size))).more (Nat.le_trans hb3.size hb4.size))
    have T4 := Lib.hid (T1.below hb14)
    have N4 := Lib.hid (N1.below hb14)
    have hb04 := hb1.trans (hb14.mono hb1.size)
    clear WW hb2 hb3 hb4 hb13 hb14 hb1 HW2 T1 N1
    go_wp2_with fail
    go_loopw [57] (fun i wr => ∃ k : Nat, k ≤ ws.length ∧ i = .int .i64 k ∧ Below w4.heap.size w4 wr) (fun i _ => ws.length - (intOf i).toNat)
    case atStart => exact ⟨0, Nat.zero_le _, rfl, Below.refl _ _⟩
    case round =>
      obtain ⟨k, hk, rfl, hb⟩ := hrel
      have hbs := hb.size
      by_cases hlk : k < ws.length
      · obtain ⟨b, o, rfl, hB, c1, c2⟩ := (HW4.out.below hb).at_ hlk
        have hal := (Below.refl wr.heap.size wr).alloc (Nat.le_refl _) (.cells #[.int .i64 ws[k].1, .string ws[k].2] 29)
        have CV := HWV.out ws[k] (List.getElem_mem hlk) _ (T4.out.below (hb.trans (hal.mono hbs))) (N4.out.below (hb.trans (hal.mono hbs)))
        clear HWV JW IC2
        generalize ws[k].1 = n1 at *
        generalize ws[k].2 = t1 at *
        have hb2 := hb.trans (hal.mono hbs)
        replace CV := Lib.hid CV.out
        clear hal hb
        go_wp2_with fail
        refine Calls.mono CV.out ?_
        rintro ee w6 ⟨rfl, hb6⟩
        have hb7 := hb2.trans (hb6.mono hb2.size)
        clear CV hb2 hb6
        go_wp2_with fail
        go_roundw
        case rel => exact ⟨k + 1, by omega, by go_num, hb7⟩
        case measure => simp only [intOf]; omega
      · obtain rfl : k = ws.length := by omega
        have hW5 := (HW4.out.below hb).more hbs
        have J1 := Lib.hid (JW _ cap2 wr hW5 (T4.out.below hb) (N4.out.below hb)).out
        have HW5 := Lib.hid hW5
        have hb05 := hb04.trans (hb.mono hb04.size)
        have T5 := Lib.hid (T4.out.below hb)
        have N5 := Lib.hid (N4.out.below hb)
        clear JW hW5 HWV HW4 T4 N4 hb hb04
        go_wp2_with fail
        refine Calls.mono J1.out ?_
        rintro ee w6 ⟨rfl, hb6⟩
        have I1 := Lib.hid (IC2 w6 (T5.out.below hb6) (N5.out.below hb6)).out
        clear IC2 J1
        go_wp2_with fail
        refine Calls.mono I1.out ?_
        rintro ee w7 ⟨⟨v7, rfl, hO7⟩, hb7⟩
        obtain ⟨A7, cap7, rfl, hW7⟩ := words_own hO7
        have hb57 := hb6.trans (hb7.mono hb6.size)
        have WW := Lib.hid (wwWords_same A7 ws cap7 A2 cap2 w7 hW7 ((HW5.out.below hb57).more hb57.size) (by omega))
        have hb07 := hb05.trans (hb57.mono hb05.size)
        clear hO7 hW7 hb6 hb7 I1
        go_wp2_with fail
        refine WW.out.mono ?_
        rintro e w8 ⟨rfl, hb8⟩
        have hb08 := hb07.trans (hb8.mono hb07.size)
        clear WW hb8
        go_wp2_with fail
        go_ret
        exact ⟨rfl, hb08⟩
end Go.Proofs.YtcgjlfkjcgpocaaDoor
