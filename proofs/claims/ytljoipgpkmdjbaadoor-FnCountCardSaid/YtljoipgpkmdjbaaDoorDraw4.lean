/-
  Chapter 1's drawers: l1Some, l1Bad, l1Text, DrawCutWords, DrawPlainText.
-/
import Derived.Test.YtljoipgpkmdjbaaDoorDraw3
namespace Go.Proofs.YtljoipgpkmdjbaaDoor
open Go.RowKit
set_option maxRecDepth 100000

theorem Drew.mono {R p p' : Nat} {a b : World} (h : Drew R p a b) (hp : p ≤ p') : Drew R p' a b := by
  obtain ⟨⟨q, hq, hr⟩, hb⟩ := h
  exact ⟨⟨q, by omega, hr⟩, hb⟩
theorem Drew.of_below {R p : Nat} {a b : World} (h : Rd a R p) (hb : Below a.heap.size a b) : Drew R p a b := ⟨⟨p, Nat.le_refl _, h.keep hb⟩, hb.mono (Nat.le_of_lt h.lt)⟩
/-- What a drawer of texts gives. -/
def TextDrawn (R p m : Nat) (w : World) (e : Ending) (w' : World) : Prop := ∃ s : ByteArray, s.size ≤ m ∧ e = .returned (.string s) ∧ Drew R p w w'

def someA : List ByteArray := [⟨#[97]⟩, ⟨#[98]⟩, ⟨#[120]⟩, ⟨#[103, 111]⟩, ⟨#[97, 98, 99, 100]⟩, ⟨#[122, 122]⟩]
def someB : List ByteArray := [⟨#[40]⟩, ⟨#[41]⟩, ⟨#[123]⟩, ⟨#[125]⟩, ⟨#[59]⟩, ⟨#[44]⟩, ⟨#[43]⟩, ⟨#[45]⟩, ⟨#[42]⟩, ⟨#[47]⟩, ⟨#[37]⟩, ⟨#[60]⟩, ⟨#[61]⟩, ⟨#[38]⟩, ⟨#[33]⟩, ⟨#[64]⟩]
def someN : List Int := [0, 1, 7, 10, 99, 100, 255]
theorem someA_le : ∀ s ∈ someA, s.size ≤ 9 := by decide
theorem someB_le : ∀ s ∈ someB, s.size ≤ 9 := by decide
theorem keyS_le : ∀ s ∈ keyS, s.size ≤ 9 := by decide
theorem someN_le : ∀ s ∈ someN, ∃ n : Nat, n ≤ 255 ∧ s = (n : Int) := by
  intro s hs
  have h : 0 ≤ s ∧ s ≤ 255 := by revert s; decide
  exact ⟨s.toNat, by omega, by omega⟩

set_option maxHeartbeats 2000000 in
theorem l1Some_any (R p : Nat) (w : World) (h : Rd w R p) (hp : p ≤ 900000) :
    Calls Tryd.prog 39 #[.pointer (some ⟨R, 0, none⟩)] w (TextDrawn R (p + 2) 300 w) := by
  have PK := Lib.hid (pick_drew R p 5 w h (by omega) (by omega) (by omega))
  have OA := fun q W hR hq => Lib.hid (of_lit R q someA W 9 (0, 0) hR hq (by decide) (by decide))
  have OB := fun q W hR hq => Lib.hid (of_lit R q someB W 9 (0, 0) hR hq (by decide) (by decide))
  have OK := fun q W hR hq => Lib.hid (of_lit R q keyS W 9 (0, 0) hR hq (by decide) (by decide))
  have ON := fun q W hR hq => Lib.hid (num_lit R q someN W 3 (0, 0) hR hq (by decide) (by decide))
  have KW := fun W => Lib.hid (specKeyWords_any W)
  have DC := fun n W hn => Lib.hid (l30Dec_any n W hn)
  clear h
  go_enter Tryd.func39, Tryd.ntmps39
  go_wp2_with fail
  refine PK.out.mono ?_
  rintro e w1 ⟨r, hr, rfl, hd1⟩
  obtain ⟨q1, hq1, hR1⟩ := hd1.1
  replace hd1 := Lib.hid hd1
  replace hR1 := Lib.hid hR1
  clear PK
  have hcase : r = 0 ∨ r = 1 ∨ r = 2 ∨ r = 3 ∨ r = 4 := by omega
  rcases hcase with rfl | rfl | rfl | hr34
  · go_wp2_with fail
    refine (OA q1 w1 hR1.out (by omega)).out.mono ?_
    rintro e w2 ⟨s, hs, rfl, hd2⟩
    have hz := someA_le s hs
    replace hd2 := Lib.hid (hd1.out.trans hd2)
    clear OA OB OK ON KW DC hs
    go_wp2
    go_ret
    exact ⟨s, by omega, rfl, hd2.out.mono (by omega)⟩
  · go_wp2_with fail
    refine (ON q1 w1 hR1.out (by omega)).out.mono ?_
    rintro e w2 ⟨s, hs, rfl, hd2⟩
    obtain ⟨n, hn, rfl⟩ := someN_le s hs
    replace hd2 := Lib.hid (hd1.out.trans hd2)
    clear OA OB OK ON KW hs
    go_wp2_with fail
    refine (DC n w2 (by omega)).out.mono ?_
    rintro e w3 ⟨s, hs, rfl, hb3⟩
    replace hb3 := Lib.hid hb3
    clear DC
    go_wp2
    go_ret
    obtain ⟨q2, hq2, hR2⟩ := hd2.out.1
    exact ⟨s, by omega, rfl, (hd2.out.trans (Drew.of_below hR2 hb3.out)).mono (by omega)⟩
  · go_wp2_with fail
    refine (KW w1).out.mono ?_
    rintro e w2 ⟨rfl, hw2⟩
    rw [hw2]
    clear hw2
    go_wp2_with fail
    refine (OK q1 w1 hR1.out (by omega)).out.mono ?_
    rintro e w2 ⟨s, hs, rfl, hd2⟩
    have hz := keyS_le s hs
    replace hd2 := Lib.hid (hd1.out.trans hd2)
    clear OA OB OK ON KW DC hs
    go_wp2
    go_ret
    exact ⟨s, by omega, rfl, hd2.out.mono (by omega)⟩
  · have e0 : ((r : Int) == 0) = false := by rw [beq_eq_false_iff_ne]; omega
    have e1 : ((r : Int) == 1) = false := by rw [beq_eq_false_iff_ne]; omega
    have e2 : ((r : Int) == 2) = false := by rw [beq_eq_false_iff_ne]; omega
    clear hr34
    go_wp2_with fail
    refine (OB q1 w1 hR1.out (by omega)).out.mono ?_
    rintro e w2 ⟨s, hs, rfl, hd2⟩
    have hz := someB_le s hs
    replace hd2 := Lib.hid (hd1.out.trans hd2)
    clear OA OB OK ON KW DC hs
    go_wp2
    go_ret
    exact ⟨s, by omega, rfl, hd2.out.mono (by omega)⟩

def badA : List ByteArray := [⟨#[97, 98, 99, 100, 101]⟩, ⟨#[50, 53, 54]⟩, ⟨#[48, 49]⟩, ⟨#[48, 48]⟩, ⟨#[63]⟩, ⟨#[65]⟩, ⟨#[9]⟩, ⟨#[36]⟩, ⟨#[120, 95, 121]⟩, ⟨#[]⟩]
theorem badA_le : ∀ s ∈ badA, s.size ≤ 9 := by decide
set_option maxHeartbeats 2000000 in
theorem l1Bad_any (R p : Nat) (w : World) (h : Rd w R p) (hp : p ≤ 800000) :
    Calls Tryd.prog 40 #[.pointer (some ⟨R, 0, none⟩)] w (TextDrawn R (p + 3) 300 w) := by
  have PK := Lib.hid (pick_drew R p 10 w h (by omega) (by omega) (by omega))
  have OA := fun q W hR hq => Lib.hid (of_lit R q badA W 9 (0, 0) hR hq (by decide) (by decide))
  have SM := fun q W hR hq => Lib.hid (l1Some_any R q W hR hq)
  clear h
  go_enter Tryd.func40, Tryd.ntmps40
  go_wp2_with fail
  refine PK.out.mono ?_
  rintro e w1 ⟨r, hr, rfl, hd1⟩
  obtain ⟨q1, hq1, hR1⟩ := hd1.1
  replace hd1 := Lib.hid hd1
  replace hR1 := Lib.hid hR1
  clear PK
  by_cases h0 : r = 0
  · subst h0
    go_wp2_with fail
    refine (OA q1 w1 hR1.out (by omega)).out.mono ?_
    rintro e w2 ⟨s, hs, rfl, hd2⟩
    have hz := badA_le s hs
    replace hd2 := Lib.hid (hd1.out.trans hd2)
    clear OA SM hs
    go_wp2
    go_ret
    exact ⟨s, by omega, rfl, hd2.out.mono (by omega)⟩
  · have e0 : ((r : Int) == 0) = false := by rw [beq_eq_false_iff_ne]; omega
    clear h0
    go_wp2_with fail
    refine (SM q1 w1 hR1.out (by omega)).out.mono ?_
    rintro e w2 ⟨s, hs, rfl, hd2⟩
    replace hd2 := Lib.hid (hd1.out.trans hd2)
    clear OA SM
    go_wp2
    go_ret
    exact ⟨s, hs, rfl, hd2.out.mono (by omega)⟩
end Go.Proofs.YtljoipgpkmdjbaaDoor
