/-
  The law that a plain text is plain: its walk.
-/
import Derived.Test.YtkgjdmojlpkeeaaDoorCutLaw
import Derived.Test.YtkgjdmojlpkeeaaDoorDraw5
import Derived.Test.YtkgjdmojlpkeeaaDoorWW
import Derived.Test.YtkgjdmojlpkeeaaDoorCutL2
namespace Go.Proofs.YtkgjdmojlpkeeaaDoor
open Go.RowKit
set_option maxRecDepth 100000

set_option maxHeartbeats 4000000 in
theorem fnPlain_walk (A : Option Addr) (l : List UInt8) (cap : Nat) (w : World) (hB : Bytes w w.heap.size A l) (hn : l.length ≤ cap) (hcap : cap ≤ 9223372036854775807) (T : Tabs w) (N : NTabs w) :
    Calls Tryd.prog 3 #[.slice A l.length cap] w fun e w' => e = .returned (.bool true) ∧ Below w.heap.size w w' := by
  by_cases hl : 1048576 < l.length
  · clear hB T N
    go_enter Tryd.func3, Tryd.ntmps3
    go_wp2
    go_ret
    exact ⟨rfl, Below.refl _ _⟩
  have hl' : l.length ≤ 1048576 := by omega
  have DC := Lib.hid (drawPlainText_any A l cap w hB hn hcap)
  clear hl hB
  have SP := fun s hs W => Lib.hid (specPlainText_any s W hs)
  have IP := fun s hs W h h' => Lib.hid (implPlainText_any s W hs h h')
  have IC := fun s hs W h h' => Lib.hid (implCutWords_any s W hs h h')
  go_enter Tryd.func3, Tryd.ntmps3
  go_wp2_with fail
  refine DC.out.mono ?_
  rintro e w1 ⟨s, hs, rfl, hb1⟩
  clear DC
  have T1 := T.below hb1
  have N1 := N.below hb1
  have SP1 := SP s (by omega)
  have IP1 := IP s (by omega)
  have IC1 := IC s (by omega)
  clear SP
  cases hc : cutRes s with
  | mk ws ok =>
  have hlen := cutRes_len s
  rw [hc] at hlen IC1
  have hlen' : ws.length ≤ 600 := hlen
  clear hlen
  cases ok
  · rw [plain_no hc] at SP1 IP1
    clear hc IC1 IC IP
    go_wp2_with fail
    refine (IP1 w1 T1 N1).out.mono ?_
    rintro e w2 ⟨rfl, hb2⟩
    go_wp2_with fail
    refine (SP1 w2).out.mono ?_
    rintro e w3 ⟨rfl, hb3⟩
    have hb13 := hb2.trans (hb3.mono hb2.size)
    have hb03 := hb1.trans (hb13.mono hb1.size)
    clear SP1 IP1
    go_wp2
    go_ret
    exact ⟨rfl, hb03⟩
  · obtain ⟨x, hp1, hc2, hp2, hx1, hx2⟩ := plain_yes hc
    have IPx := IP x (by omega)
    have ICx := IC x (by omega)
    rw [hp1] at SP1 IP1
    rw [hp2] at IPx
    rw [hc2] at ICx
    clear hc IC IP hp1 hp2 hc2
    have q1 : (x.toList == x.toList) = true := by simp
    go_wp2_with fail
    refine (IP1 w1 T1 N1).out.mono ?_
    rintro e w2 ⟨rfl, hb2⟩
    go_wp2_with fail
    refine (SP1 w2).out.mono ?_
    rintro e w3 ⟨rfl, hb3⟩
    have hb13 := hb2.trans (hb3.mono hb2.size)
    have T3 := T1.below hb13
    have N3 := N1.below hb13
    clear SP1 IP1
    go_wp2_with fail
    refine (IPx w3 T3 N3).out.mono ?_
    rintro e w4 ⟨rfl, hb4⟩
    have hb14 := hb13.trans (hb4.mono hb13.size)
    clear IPx
    go_wp2_with fail
    refine (IC1 w4 (T1.below hb14) (N1.below hb14)).out.mono ?_
    rintro e w5 ⟨⟨v5, rfl, hO5⟩, hb5⟩
    obtain ⟨A5, cap5, rfl, hW5⟩ := words_own hO5
    have hb15 := hb14.trans (hb5.mono hb14.size)
    clear IC1 hO5
    go_wp2_with fail
    refine (ICx w5 (T1.below hb15) (N1.below hb15)).out.mono ?_
    rintro e w6 ⟨⟨v6, rfl, hO6⟩, hb6⟩
    obtain ⟨A6, cap6, rfl, hW6⟩ := words_own hO6
    have hb16 := hb15.trans (hb6.mono hb15.size)
    have hW56 := (hW5.below hb6).more hb6.size
    have WW := Lib.hid (wwWords_same A5 ws cap5 A6 cap6 w6 hW56 hW6 (by omega))
    clear ICx hO6 hW5 hW6 hW56
    go_wp2_with fail
    refine WW.out.mono ?_
    rintro e w7 ⟨rfl, hb7⟩
    have hb17 := hb16.trans (hb7.mono hb16.size)
    have hb07 := hb1.trans (hb17.mono hb1.size)
    clear WW hb1 hb2 hb3 hb4 hb5 hb6 hb7 hb13 hb14 hb15 hb16 hb17 T1 N1 T3 N3
    have hmax : (x.size : Int) ≤ max (2 * (s.size : Int)) 1 := by omega
    go_wp2
    go_ret
    exact ⟨rfl, hb07⟩
end Go.Proofs.YtkgjdmojlpkeeaaDoor
