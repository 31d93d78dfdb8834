/-
  Chapter 1's drawers of a word: l30Dec and l1Some give a text that is not empty.
-/
import Derived.Test.YtljoipgpkmdjbaaDoorDraw5
namespace Go.Proofs.YtljoipgpkmdjbaaDoor
open Go.RowKit
set_option maxRecDepth 100000

theorem Bytes.more {w : World} {B B' : Nat} {A : Option Addr} {l : List UInt8} (h : Bytes w B A l) (hB : B ≤ B') : Bytes w B' A l := by
  intro hne
  obtain ⟨b, o, e, hb, hc⟩ := h hne
  exact ⟨b, o, e, Nat.lt_of_lt_of_le hb hB, hc⟩
set_option maxHeartbeats 1000000 in
theorem l30Dec_pos (n : Nat) (w : World) (hn : n ≤ 10000) :
    Calls Tryd.prog 63 #[.int .i64 (n : Int)] w fun e w' => ∃ t : ByteArray, 0 < t.size ∧ t.size ≤ n + 1 ∧ e = .returned (.string t) ∧ Below w.heap.size w w' := by
  have OB := one_byte
  go_enter Tryd.func63, Tryd.ntmps63
  go_wp2
  go_loopw [0, 3] (fun i o wr => ∃ (k : Nat) (out : ByteArray), i = .int .i64 k ∧ o = .string out ∧ k + out.size ≤ n ∧ Below w.heap.size w wr) (fun i _ _ => (intOf i).toNat)
  case atStart => exact ⟨n, ⟨#[]⟩, rfl, rfl, Nat.le_refl _, Below.refl _ _⟩
  case round =>
    obtain ⟨k, out, rfl, rfl, hk, hb⟩ := hrel
    have ob := fun x => OB wr x
    clear OB
    by_cases h0 : 9 < k
    · go_wp2
      go_roundw
      case rel => exact ⟨k / 10, _, by go_num, rfl, by rw [ByteArray.size_append]; show _ + (1 + _) ≤ _; omega, hb.alloc hb.size _⟩
      case measure => simp only [intOf]; omega
    · go_wp2
      go_ret
      exact ⟨_, by rw [ByteArray.size_append]; show 0 < 1 + _; omega, by rw [ByteArray.size_append]; show 1 + _ ≤ _; omega, rfl, hb.alloc hb.size _⟩
theorem someA_pos : ∀ s ∈ someA, 0 < s.size ∧ s.size ≤ 9 := by decide
theorem someB_pos : ∀ s ∈ someB, 0 < s.size ∧ s.size ≤ 9 := by decide
theorem keyS_pos : ∀ s ∈ keyS, 0 < s.size ∧ s.size ≤ 9 := by decide
def TextSome (R p m : Nat) (w : World) (e : Ending) (w' : World) : Prop := ∃ s : ByteArray, (0 < s.size ∧ s.size ≤ m) ∧ e = .returned (.string s) ∧ Drew R p w w'
set_option maxHeartbeats 2000000 in
theorem l1Some_pos (R p : Nat) (w : World) (h : Rd w R p) (hp : p ≤ 900000) :
    Calls Tryd.prog 39 #[.pointer (some ⟨R, 0, none⟩)] w (TextSome R (p + 2) 300 w) := by
  have PK := Lib.hid (pick_drew R p 5 w h (by omega) (by omega) (by omega))
  have OA := fun q W hR hq => Lib.hid (of_lit R q someA W 9 (0, 0) hR hq (by decide) (by decide))
  have OB := fun q W hR hq => Lib.hid (of_lit R q someB W 9 (0, 0) hR hq (by decide) (by decide))
  have OK := fun q W hR hq => Lib.hid (of_lit R q keyS W 9 (0, 0) hR hq (by decide) (by decide))
  have ON := fun q W hR hq => Lib.hid (num_lit R q someN W 3 (0, 0) hR hq (by decide) (by decide))
  have KW := fun W => Lib.hid (specKeyWords_any W)
  have DC := fun n W hn => Lib.hid (l30Dec_pos n W hn)
  clear h
  go_enter Tryd.func39, Tryd.ntmps39
  go_wp2_with fail
  refine PK.out.mono ?_
  rintro e w1 ⟨r, hr, rfl, hd1⟩
  obtain ⟨q1, hq1, hR1⟩ := hd1.1
  replace hd1 := Lib.hid hd1
  replace hR1 := Lib.hid hR1
  clear PK
  have hcase : r = 0 ∨ r = 1 ∨ r = 2 ∨ r = 3 ∨ r = 4 := by omega
  rcases hcase with rfl | rfl | rfl | hr34
  · go_wp2_with fail
    refine (OA q1 w1 hR1.out (by omega)).out.mono ?_
    rintro e w2 ⟨s, hs, rfl, hd2⟩
    have hz := someA_pos s hs
    replace hd2 := Lib.hid (hd1.out.trans hd2)
    clear OA OB OK ON KW DC hs
    go_wp2
    go_ret
    exact ⟨s, by omega, rfl, hd2.out.mono (by omega)⟩
  · go_wp2_with fail
    refine (ON q1 w1 hR1.out (by omega)).out.mono ?_
    rintro e w2 ⟨s, hs, rfl, hd2⟩
    obtain ⟨n, hn, rfl⟩ := someN_le s hs
    replace hd2 := Lib.hid (hd1.out.trans hd2)
    clear OA OB OK ON KW hs
    go_wp2_with fail
    refine (DC n w2 (by omega)).out.mono ?_
    rintro e w3 ⟨s, hs0, hs, rfl, hb3⟩
    replace hb3 := Lib.hid hb3
    clear DC
    go_wp2
    go_ret
    obtain ⟨q2, hq2, hR2⟩ := hd2.out.1
    exact ⟨s, by omega, rfl, (hd2.out.trans (Drew.of_below hR2 hb3.out)).mono (by omega)⟩
  · go_wp2_with fail
    refine (KW w1).out.mono ?_
    rintro e w2 ⟨rfl, hw2⟩
    rw [hw2]
    clear hw2
    go_wp2_with fail
    refine (OK q1 w1 hR1.out (by omega)).out.mono ?_
    rintro e w2 ⟨s, hs, rfl, hd2⟩
    have hz := keyS_pos s hs
    replace hd2 := Lib.hid (hd1.out.trans hd2)
    clear OA OB OK ON KW DC hs
    go_wp2
    go_ret
    exact ⟨s, by omega, rfl, hd2.out.mono (by omega)⟩
  · have e0 : ((r : Int) == 0) = false := by rw [beq_eq_false_iff_ne]; omega
    have e1 : ((r : Int) == 1) = false := by rw [beq_eq_false_iff_ne]; omega
    have e2 : ((r : Int) == 2) = false := by rw [beq_eq_false_iff_ne]; omega
    clear hr34
    go_wp2_with fail
    refine (OB q1 w1 hR1.out (by omega)).out.mono ?_
    rintro e w2 ⟨s, hs, rfl, hd2⟩
    have hz := someB_pos s hs
    replace hd2 := Lib.hid (hd1.out.trans hd2)
    clear OA OB OK ON KW DC hs
    go_wp2
    go_ret
    exact ⟨s, by omega, rfl, hd2.out.mono (by omega)⟩

end Go.Proofs.YtljoipgpkmdjbaaDoor
