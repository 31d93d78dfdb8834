/-
  Chapter 1's drawers of texts, with what stays as it was.
-/
import Derived.Test.YtljoipgpkmdjbaaDoorDrawV
import Derived.Test.YtljoipgpkmdjbaaDoorDrawT
namespace Go.Proofs.YtljoipgpkmdjbaaDoor
open Go.RowKit
set_option maxRecDepth 100000

def SomeT (R p m : Nat) (w : World) (e : Ending) (w' : World) : Prop := ∃ s : ByteArray, (0 < s.size ∧ s.size ≤ m) ∧ e = .returned (.string s) ∧ DrewT R p w w'
set_option maxHeartbeats 2000000 in
theorem l1Some_t (R p : Nat) (w : World) (h : Rd w R p) (hp : p ≤ 900000) :
    Calls Tryd.prog 39 #[.pointer (some ⟨R, 0, none⟩)] w (SomeT R (p + 2) 300 w) := by
  have PK := Lib.hid (pick_t R p 5 w h (by omega) (by omega) (by omega))
  have OA := fun q W hR hq => Lib.hid (oflit_t R q someA W 9 (0, 0) hR hq (by decide) (by decide))
  have OB := fun q W hR hq => Lib.hid (oflit_t R q someB W 9 (0, 0) hR hq (by decide) (by decide))
  have OK := fun q W hR hq => Lib.hid (oflit_t R q keyS W 9 (0, 0) hR hq (by decide) (by decide))
  have ON := fun q W hR hq => Lib.hid (num_t R q someN W 3 (0, 0) hR hq (by decide) (by decide))
  have KW := fun W => Lib.hid (specKeyWords_any W)
  have DC := fun n W hn => Lib.hid (l30Dec_pos n W hn)
  clear h
  go_enter Tryd.func39, Tryd.ntmps39
  go_wp2_with fail
  refine PK.out.mono ?_
  rintro e w1 ⟨r, hr, rfl, hd1⟩
  obtain ⟨q1, hq1, hR1⟩ := hd1.1
  replace hd1 := Lib.hid hd1
  replace hR1 := Lib.hid hR1
  clear PK
  have hcase : r = 0 ∨ r = 1 ∨ r = 2 ∨ r = 3 ∨ r = 4 := by omega
  rcases hcase with rfl | rfl | rfl | hr34
  · go_wp2_with fail
    refine (OA q1 w1 hR1.out (by omega)).out.mono ?_
    rintro e w2 ⟨s, hs, rfl, hd2⟩
    have hz := someA_pos s hs
    replace hd2 := Lib.hid (hd1.out.trans hd2)
    clear OA OB OK ON KW DC hs
    go_wp2
    go_ret
    exact ⟨s, by omega, rfl, hd2.out.more (by omega)⟩
  · go_wp2_with fail
    refine (ON q1 w1 hR1.out (by omega)).out.mono ?_
    rintro e w2 ⟨s, hs, rfl, hd2⟩
    obtain ⟨n, hn, rfl⟩ := someN_le s hs
    replace hd2 := Lib.hid (hd1.out.trans hd2)
    clear OA OB OK ON KW hs
    go_wp2_with fail
    refine (DC n w2 (by omega)).out.mono ?_
    rintro e w3 ⟨s, hs0, hs, rfl, hb3⟩
    replace hb3 := Lib.hid hb3
    clear DC
    go_wp2
    go_ret
    obtain ⟨q2, hq2, hR2⟩ := hd2.out.1
    exact ⟨s, by omega, rfl, (hd2.out.trans (DrewT.below hR2 hb3.out)).more (by omega)⟩
  · go_wp2_with fail
    refine (KW w1).out.mono ?_
    rintro e w2 ⟨rfl, hw2⟩
    rw [hw2]
    clear hw2
    go_wp2_with fail
    refine (OK q1 w1 hR1.out (by omega)).out.mono ?_
    rintro e w2 ⟨s, hs, rfl, hd2⟩
    have hz := keyS_pos s hs
    replace hd2 := Lib.hid (hd1.out.trans hd2)
    clear OA OB OK ON KW DC hs
    go_wp2
    go_ret
    exact ⟨s, by omega, rfl, hd2.out.more (by omega)⟩
  · have e0 : ((r : Int) == 0) = false := by rw [beq_eq_false_iff_ne]; omega
    have e1 : ((r : Int) == 1) = false := by rw [beq_eq_false_iff_ne]; omega
    have e2 : ((r : Int) == 2) = false := by rw [beq_eq_false_iff_ne]; omega
    clear hr34
    go_wp2_with fail
    refine (OB q1 w1 hR1.out (by omega)).out.mono ?_
    rintro e w2 ⟨s, hs, rfl, hd2⟩
    have hz := someB_pos s hs
    replace hd2 := Lib.hid (hd1.out.trans hd2)
    clear OA OB OK ON KW DC hs
    go_wp2
    go_ret
    exact ⟨s, by omega, rfl, hd2.out.more (by omega)⟩

/-- What a drawer of texts gives, the empty one too. -/
def BadT (R p m : Nat) (w : World) (e : Ending) (w' : World) : Prop := ∃ s : ByteArray, s.size ≤ m ∧ e = .returned (.string s) ∧ DrewT R p w w'
set_option maxHeartbeats 2000000 in
theorem l1Bad_t (R p : Nat) (w : World) (h : Rd w R p) (hp : p ≤ 800000) :
    Calls Tryd.prog 40 #[.pointer (some ⟨R, 0, none⟩)] w (BadT R (p + 3) 300 w) := by
  have PK := Lib.hid (pick_t R p 10 w h (by omega) (by omega) (by omega))
  have OA := fun q W hR hq => Lib.hid (oflit_t R q badA W 9 (0, 0) hR hq (by decide) (by decide))
  have SM := fun q W hR hq => Lib.hid (l1Some_t R q W hR hq)
  clear h
  go_enter Tryd.func40, Tryd.ntmps40
  go_wp2_with fail
  refine PK.out.mono ?_
  rintro e w1 ⟨r, hr, rfl, hd1⟩
  obtain ⟨q1, hq1, hR1⟩ := hd1.1
  replace hd1 := Lib.hid hd1
  replace hR1 := Lib.hid hR1
  clear PK
  by_cases h0 : r = 0
  · subst h0
    go_wp2_with fail
    refine (OA q1 w1 hR1.out (by omega)).out.mono ?_
    rintro e w2 ⟨s, hs, rfl, hd2⟩
    have hz := badA_le s hs
    replace hd2 := Lib.hid (hd1.out.trans hd2)
    clear OA SM hs
    go_wp2
    go_ret
    exact ⟨s, by omega, rfl, hd2.out.more (by omega)⟩
  · have e0 : ((r : Int) == 0) = false := by rw [beq_eq_false_iff_ne]; omega
    clear h0
    go_wp2_with fail
    refine (SM q1 w1 hR1.out (by omega)).out.mono ?_
    rintro e w2 ⟨s, ⟨_, hs⟩, rfl, hd2⟩
    replace hd2 := Lib.hid (hd1.out.trans hd2)
    clear OA SM
    go_wp2
    go_ret
    exact ⟨s, hs, rfl, hd2.out.more (by omega)⟩
end Go.Proofs.YtljoipgpkmdjbaaDoor
