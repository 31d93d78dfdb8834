/-
  Chapter 1's drawers: l1Text, DrawCutWords, DrawPlainText.
-/
import Derived.Test.YtcgjlfkjcgpocaaDoorDraw4
namespace Go.Proofs.YtcgjlfkjcgpocaaDoor
open Go.RowKit
set_option maxRecDepth 100000

def textA : List ByteArray := [⟨#[]⟩, ⟨#[]⟩, ⟨#[32]⟩, ⟨#[10, 32]⟩]
def textB : List ByteArray := [⟨#[32]⟩, ⟨#[32]⟩, ⟨#[32]⟩, ⟨#[32, 32]⟩, ⟨#[10]⟩, ⟨#[]⟩]
def textN : List Int := [3, 6, 10, 1, 0, 20]
def textM : List Int := [600, 601]
def textL : List Int := [0, 2399, 2400, 2401]
theorem textA_le : ∀ s ∈ textA, s.size ≤ 9 := by decide
theorem textB_le : ∀ s ∈ textB, s.size ≤ 9 := by decide
theorem nat_of (s : Int) (m : Nat) (h : 0 ≤ s ∧ s ≤ m) : ∃ n : Nat, n ≤ m ∧ s = (n : Int) := ⟨s.toNat, by omega, by omega⟩
theorem textN_le : ∀ s ∈ textN, 0 ≤ s ∧ s ≤ (20 : Nat) := by decide
theorem textM_le : ∀ s ∈ textM, 0 ≤ s ∧ s ≤ (601 : Nat) := by decide
theorem textL_le : ∀ s ∈ textL, 0 ≤ s ∧ s ≤ (2401 : Nat) := by decide

set_option maxHeartbeats 4000000 in
theorem l1Text_any (R p : Nat) (w : World) (h : Rd w R p) (hp : p ≤ 700000) :
    Calls Tryd.prog 31 #[.pointer (some ⟨R, 0, none⟩)] w (TextDrawn R (p + 200) 7000 w) := by
  have OA := fun q W hR hq => Lib.hid (of_lit R q textA W 9 (0, 0) hR hq (by decide) (by decide))
  have OB := fun q W hR hq => Lib.hid (of_lit R q textB W 9 (0, 0) hR hq (by decide) (by decide))
  have ON := fun q W hR hq => Lib.hid (num_lit R q textN W 3 (0, 0) hR hq (by decide) (by decide))
  have OM := fun q W hR hq => Lib.hid (num_lit R q textM W 3 (0, 0) hR hq (by decide) (by decide))
  have OL := fun q W hR hq => Lib.hid (num_lit R q textL W 3 (0, 0) hR hq (by decide) (by decide))
  have PK := fun n q W hR hq h1 h2 => Lib.hid (pick_drew R q n W hR hq h1 h2)
  have SM := fun q W hR hq => Lib.hid (l1Some_any R q W hR hq)
  have BD := fun q W hR hq => Lib.hid (l1Bad_any R q W hR hq)
  have MN := fun s n W hs hn => Lib.hid (l30Many_any s n W hs hn)
  go_enter Tryd.func31, Tryd.ntmps31
  go_wp2_with fail
  refine (OA p w h (by omega)).out.mono ?_
  rintro e w1 ⟨s, hs, rfl, hd1⟩
  have hz := textA_le s hs
  obtain ⟨q1, hq1, hR1⟩ := hd1.1
  replace hd1 := Lib.hid hd1
  replace hR1 := Lib.hid hR1
  clear OA hs h
  go_wp2_with fail
  refine (PK 4 q1 w1 hR1.out (by omega) (by omega) (by omega)).out.mono ?_
  rintro e w2 ⟨r, hr, rfl, hd2⟩
  obtain ⟨q2, hq2, hR2⟩ := hd2.1
  replace hd2 := Lib.hid (hd1.out.trans hd2)
  replace hR2 := Lib.hid hR2
  clear hd1 hR1
  have hbad : ∃ bad : Bool, ((r : Int) == 0) = bad := ⟨_, rfl⟩
  obtain ⟨bad, hbad⟩ := hbad
  go_wp2_with fail
  refine (ON q2 w2 hR2.out (by omega)).out.mono ?_
  rintro e w3 ⟨s3, hs3, rfl, hd3⟩
  obtain ⟨n, hn, rfl⟩ := nat_of s3 20 (textN_le s3 hs3)
  obtain ⟨q3, hq3, hR3⟩ := hd3.1
  replace hd3 := Lib.hid (hd2.out.trans hd3)
  replace hR3 := Lib.hid hR3
  clear hd2 hR2 ON hs3 hbad
  go_wp2
  go_loopw [3, 5] (fun o i wr => ∃ (k : Nat) (out : ByteArray), k ≤ 20 ∧ i = .int .i64 k ∧ o = .string out ∧ out.size ≤ 9 + 309 * (20 - k) ∧ Drew R (p + 3 + 5 * (20 - k)) w wr) (fun _ i _ => (intOf i).toNat)
  case atStart => exact ⟨n, s, hn, rfl, rfl, by omega, hd3.out.mono (by omega)⟩
  case round =>
    clear hd3 hR3
    obtain ⟨k, out, hk, rfl, rfl, ho, hd⟩ := hrel
    obtain ⟨q, hq, hR⟩ := hd.1
    replace hd := Lib.hid hd
    replace hR := Lib.hid hR
    by_cases h0 : 0 < k
    · clear OM OL MN PK
      cases bad
      · clear BD
        go_wp2_with fail
        refine (SM q wr hR.out (by omega)).out.mono ?_
        rintro e w4 ⟨t, ht, rfl, hd4⟩
        obtain ⟨q4, hq4, hR4⟩ := hd4.1
        replace hd4 := Lib.hid (hd.out.trans hd4)
        replace hR4 := Lib.hid hR4
        clear hd hR SM
        go_wp2_with fail
        refine (OB q4 w4 hR4.out (by omega)).out.mono ?_
        rintro e w5 ⟨t5, ht5, rfl, hd5⟩
        have hz5 := textB_le t5 ht5
        replace hd5 := Lib.hid (hd4.out.trans hd5)
        clear hd4 hR4 OB ht5
        go_wp2
        go_roundw
        case rel => exact ⟨k - 1, _, by omega, by go_num, rfl, by rw [ByteArray.size_append, ByteArray.size_append]; omega, hd5.out.mono (by omega)⟩
        case measure => simp only [intOf]; omega
      · clear SM
        go_wp2_with fail
        refine (BD q wr hR.out (by omega)).out.mono ?_
        rintro e w4 ⟨t, ht, rfl, hd4⟩
        obtain ⟨q4, hq4, hR4⟩ := hd4.1
        replace hd4 := Lib.hid (hd.out.trans hd4)
        replace hR4 := Lib.hid hR4
        clear hd hR BD
        go_wp2_with fail
        refine (OB q4 w4 hR4.out (by omega)).out.mono ?_
        rintro e w5 ⟨t5, ht5, rfl, hd5⟩
        have hz5 := textB_le t5 ht5
        replace hd5 := Lib.hid (hd4.out.trans hd5)
        clear hd4 hR4 OB ht5
        go_wp2
        go_roundw
        case rel => exact ⟨k - 1, _, by omega, by go_num, rfl, by rw [ByteArray.size_append, ByteArray.size_append]; omega, hd5.out.mono (by omega)⟩
        case measure => simp only [intOf]; omega
    · obtain rfl : k = 0 := by omega
      clear SM BD OB h0
      go_wp2_with fail
      refine (PK 60 q wr hR.out (by omega) (by omega) (by omega)).out.mono ?_
      rintro e w4 ⟨r4, hr4, rfl, hd4⟩
      obtain ⟨q4, hq4, hR4⟩ := hd4.1
      replace hd4 := Lib.hid (hd.out.trans hd4)
      replace hR4 := Lib.hid hR4
      clear hd hR PK
      by_cases h1 : r4 = 0
      · subst h1
        go_wp2_with fail
        refine (OM q4 w4 hR4.out (by omega)).out.mono ?_
        rintro e w5 ⟨s5, hs5, rfl, hd5⟩
        obtain ⟨n5, hn5, rfl⟩ := nat_of s5 601 (textM_le s5 hs5)
        replace hd5 := Lib.hid (hd4.out.trans hd5)
        clear hd4 hR4 OM hs5
        go_wp2_with fail
        refine (MN ⟨#[59]⟩ n5 w5 (by decide) (by omega)).out.mono ?_
        rintro e w6 ⟨t6, ht6, rfl, hb6⟩
        obtain ⟨q5, hq5, hR5⟩ := hd5.out.1
        have hd6 := Drew.of_below hR5 hb6
        obtain ⟨q6, hq6, hR6⟩ := hd6.1
        replace hd6 := Lib.hid (hd5.out.trans hd6)
        replace hR6 := Lib.hid hR6
        replace ht6 : t6.size ≤ 1 * n5 := ht6
        clear hd5 hR5 hb6
        go_wp2_with fail
        refine (OL q6 w6 hR6.out (by omega)).out.mono ?_
        rintro e w7 ⟨s7, hs7, rfl, hd7⟩
        obtain ⟨n7, hn7, rfl⟩ := nat_of s7 2401 (textL_le s7 hs7)
        replace hd7 := Lib.hid (hd6.out.trans hd7)
        clear hd6 hR6 OL hs7
        go_wp2_with fail
        refine (MN ⟨#[32]⟩ n7 w7 (by decide) (by omega)).out.mono ?_
        rintro e w8 ⟨t8, ht8, rfl, hb8⟩
        obtain ⟨q7, hq7, hR7⟩ := hd7.out.1
        have hd8 := Drew.of_below hR7 hb8
        replace hd8 := Lib.hid (hd7.out.trans hd8)
        replace ht8 : t8.size ≤ 1 * n7 := ht8
        clear hd7 hR7 hb8 MN
        go_wp2
        go_ret
        exact ⟨_, by rw [ByteArray.size_append]; omega, rfl, hd8.out.mono (by omega)⟩
      · have e0 : ((r4 : Int) == 0) = false := by rw [beq_eq_false_iff_ne]; omega
        clear h1 OM OL MN
        go_wp2
        go_ret
        exact ⟨out, by omega, rfl, hd4.out.mono (by omega)⟩

/-- What the drawers of texts give to a law. -/
def TextDraw (w : World) (e : Ending) (w' : World) : Prop := ∃ s : ByteArray, s.size ≤ 7000 ∧ e = .returned (.string s) ∧ Below w.heap.size w w'
set_option maxHeartbeats 1000000 in
theorem drawCutWords_any (A : Option Addr) (l : List UInt8) (cap : Nat) (w : World) (h : Bytes w w.heap.size A l) (hn : l.length ≤ cap) (hcap : cap ≤ 9223372036854775807) :
    Calls Tryd.prog 9 #[.slice A l.length cap] w (TextDraw w) := by
  have OP := Lib.hid (l30Open_any A l cap w h hn hcap)
  have TX := fun q W hR hq => Lib.hid (l1Text_any w.heap.size q W hR hq)
  clear h
  go_enter Tryd.func9, Tryd.ntmps9
  go_wp2_with fail
  refine OP.out.mono ?_
  rintro e w1 ⟨rfl, hR1, hb1⟩
  replace hR1 := Lib.hid hR1
  replace hb1 := Lib.hid hb1
  clear OP
  go_wp2_with fail
  refine (TX 0 w1 hR1.out (by omega)).out.mono ?_
  rintro e w2 ⟨s, hs, rfl, hd2⟩
  replace hd2 := Lib.hid hd2
  clear TX
  go_wp2
  go_ret
  exact ⟨s, hs, rfl, hb1.out.trans hd2.out.2⟩
end Go.Proofs.YtcgjlfkjcgpocaaDoor
