/-
  Chapter 1's drawers of a word: DrawWordValid, DrawNumberOf.
-/
import Derived.Test.YtcgjlfkjcgpocaaDoorDrawV
import Derived.Test.YtcgjlfkjcgpocaaDoorC6
namespace Go.Proofs.YtcgjlfkjcgpocaaDoor
open Go.RowKit
set_option maxRecDepth 100000

/-- What a drawer of words gives. -/
def WordDraw (w : World) (e : Ending) (w' : World) : Prop := ∃ (n : Int) (s : ByteArray), s.size ≤ 7000 ∧ e = .returned (.agg #[.int .i64 n, .string s]) ∧ Below w.heap.size w w'
set_option maxHeartbeats 2000000 in
theorem drawWordValid_any (A : Option Addr) (l : List UInt8) (cap : Nat) (w : World) (h : Bytes w w.heap.size A l) (hn : l.length ≤ cap) (hcap : cap ≤ 9223372036854775807) :
    Calls Tryd.prog 30 #[.slice A l.length cap] w (WordDraw w) := by
  have hb0 : Below w.heap.size w (w.alloc (.cells #[.int .i64 0, .string ⟨#[]⟩] 29)) := (Below.refl _ _).alloc (Nat.le_refl _) _
  have OP0 := l30Open_any A l cap (w.alloc (.cells #[.int .i64 0, .string ⟨#[]⟩] 29)) ((h.below hb0).more hb0.size) hn hcap
  generalize hRe : (w.alloc (.cells #[.int .i64 0, .string ⟨#[]⟩] 29)).heap.size = R at OP0
  have HS := Lib.hid (fun W (hb : Below R (w.alloc (.cells #[.int .i64 0, .string ⟨#[]⟩] 29)) W) => (show R ≤ W.heap.size by rw [← hRe]; exact hb.size))
  have OP := Lib.hid OP0
  replace hRe := Lib.hid hRe
  clear OP0
  have PK := fun R q n W hR hq h1 h2 => Lib.hid (pick_drew R q n W hR hq h1 h2)
  have SM := fun R q W hR hq => Lib.hid (l1Some_pos R q W hR hq)
  have BD := fun R q W hR hq => Lib.hid (l1Bad_any R q W hR hq)
  have LW := fun t W h0 => Lib.hid (l1Word_any t W h0)
  clear h
  go_enter Tryd.func30, Tryd.ntmps30
  go_wp2_with fail
  refine OP.out.mono ?_
  rintro e w1 ⟨rfl, hR1, hb1⟩
  have PK1 := PK _ 0 2 w1 hR1 (by omega) (by omega) (by omega)
  clear OP hR1
  go_wp2_with fail
  refine PK1.out.mono ?_
  rintro e w2 ⟨r, hr, rfl, hd2⟩
  obtain ⟨q2, hq2, hR2⟩ := hd2.1
  have hb2 := hb1.trans hd2.2
  replace hR2 := Lib.hid hR2
  clear PK1 hd2 hb1
  by_cases h0 : r = 0
  · subst h0
    clear PK BD
    go_wp2_with fail
    refine (SM _ q2 w2 hR2.out (by omega)).out.mono ?_
    rintro e w3 ⟨s, hs, rfl, hd3⟩
    have hb3 := hb2.trans hd3.2
    clear SM hR2 hd3 hb2
    have hs1 := hs.1
    have hs2 := hs.2
    clear hs
    go_wp2_with fail
    refine (LW s w3 hs1).out.mono ?_
    rintro e w4 ⟨rfl, hb4⟩
    have hb5 := hb3.trans (hb4.mono (HS.out _ hb3))
    clear LW hb3 hb4
    rw [← hRe.out] at hb5
    obtain ⟨k0, k1, k2, k3⟩ := own_cells hb5
    have hb6 := hb0.trans (hb5.mono hb0.size)
    clear hb0 hb5 hRe HS
    generalize wordKind s _ = z at *
    obtain ⟨g0, g1⟩ := own_set k0 k1
    go_wp2
    refine bodyPost_ret (v := .agg #[.int .i64 z, .string s]) (by simp [results, Tryd.results30, go_sem, g0, g1]) rfl ?_
    exact ⟨z, s, by omega, rfl, (hb6.setCell (Nat.le_refl _) _).setCell (Nat.le_refl _) _⟩
  · have e0 : ((r : Int) == 0) = false := by rw [beq_eq_false_iff_ne]; omega
    clear h0 SM LW
    have PK2 := PK _ q2 6 w2 hR2.out (by omega) (by omega) (by omega)
    clear PK hR2
    go_wp2_with fail
    refine PK2.out.mono ?_
    rintro e w3 ⟨z, hz, rfl, hd3⟩
    obtain ⟨q3, hq3, hR3⟩ := hd3.1
    have hb3 := hb2.trans hd3.2
    replace hR3 := Lib.hid hR3
    clear PK2 hd3 hb2
    go_wp2_with fail
    refine (BD _ q3 w3 hR3.out (by omega)).out.mono ?_
    rintro e w4 ⟨s, hs, rfl, hd4⟩
    have hb5 := hb3.trans hd4.2
    clear BD hR3 hd4 hb3
    rw [← hRe.out] at hb5
    obtain ⟨k0, k1, k2, k3⟩ := own_cells hb5
    have hb6 := hb0.trans (hb5.mono hb0.size)
    clear hb0 hb5 hRe HS
    obtain ⟨g0, g1⟩ := own_set k0 k1
    go_wp2
    refine bodyPost_ret (v := .agg #[.int .i64 (z : Int), .string s]) (by simp [results, Tryd.results30, go_sem, g0, g1]) rfl ?_
    exact ⟨(z : Int), s, by omega, rfl, (hb6.setCell (Nat.le_refl _) _).setCell (Nat.le_refl _) _⟩
def numZ : List Int := [2, 2, 2, 3, 1]
set_option maxHeartbeats 2000000 in
theorem drawNumberOf_any (A : Option Addr) (l : List UInt8) (cap : Nat) (w : World) (h : Bytes w w.heap.size A l) (hn : l.length ≤ cap) (hcap : cap ≤ 9223372036854775807) :
    Calls Tryd.prog 20 #[.slice A l.length cap] w (WordDraw w) := by
  have hb0 : Below w.heap.size w (w.alloc (.cells #[.int .i64 0, .string ⟨#[]⟩] 29)) := (Below.refl _ _).alloc (Nat.le_refl _) _
  have h1 := (h.below hb0).more hb0.size
  have OP0 := l30Open_any A l cap (w.alloc (.cells #[.int .i64 0, .string ⟨#[]⟩] 29)) h1 hn hcap
  generalize hRe : (w.alloc (.cells #[.int .i64 0, .string ⟨#[]⟩] 29)).heap.size = R at OP0 h1
  have HS := Lib.hid (fun W (hb : Below R (w.alloc (.cells #[.int .i64 0, .string ⟨#[]⟩] 29)) W) => (show R ≤ W.heap.size by rw [← hRe]; exact hb.size))
  have OP := Lib.hid OP0
  replace hRe := Lib.hid hRe
  clear OP0
  have PK := fun R q n W hR hq h1 h2 => Lib.hid (pick_drew R q n W hR hq h1 h2)
  have DW := fun W hB => Lib.hid (drawWordValid_any A l cap W hB hn hcap)
  have DC := fun n W hn => Lib.hid (l30Dec_any n W hn)
  have NZ := fun R q W hR hq => Lib.hid (num_lit R q numZ W 3 (0, 0) hR hq (by decide) (by decide))
  have OF := fun t1 t2 R q W hR hq => Lib.hid (of_lit R q [t1, t2, ⟨#[48, 49]⟩, ⟨#[45, 49]⟩, ⟨#[]⟩] W 9 (0, 0) hR hq (by simp) (by simp))
  have HB := Lib.hid h1
  clear h h1
  go_enter Tryd.func20, Tryd.ntmps20
  go_wp2_with fail
  refine OP.out.mono ?_
  rintro e w1 ⟨rfl, hR1, hb1⟩
  have PK1 := PK _ 0 3 w1 hR1 (by omega) (by omega) (by omega)
  clear OP hR1
  go_wp2_with fail
  refine PK1.out.mono ?_
  rintro e w2 ⟨r, hr, rfl, hd2⟩
  obtain ⟨q2, hq2, hR2⟩ := hd2.1
  have hb2 := hb1.trans hd2.2
  replace hR2 := Lib.hid hR2
  clear PK1 hd2 hb1
  by_cases h0 : r = 0
  · subst h0
    have DW2 := DW w2 ((HB.out.below hb2).more (HS.out _ hb2))
    clear PK DW DC NZ OF HB hR2
    go_wp2_with fail
    refine DW2.out.mono ?_
    rintro e w4 ⟨z, s, hs, rfl, hb4⟩
    have hb5 := hb2.trans (hb4.mono (HS.out _ hb2))
    clear DW2 hb2 hb4
    rw [← hRe.out] at hb5
    obtain ⟨k0, k1, k2, k3⟩ := own_cells hb5
    have hb6 := hb0.trans (hb5.mono hb0.size)
    clear hb0 hb5 hRe HS
    obtain ⟨g0, g1⟩ := own_set k0 k1
    go_wp2
    refine bodyPost_ret (v := .agg #[.int .i64 z, .string s]) (by simp [results, Tryd.results20, go_sem, g0, g1]) rfl ?_
    exact ⟨z, s, by omega, rfl, (hb6.setCell (Nat.le_refl _) _).setCell (Nat.le_refl _) _⟩
  · have e0 : ((r : Int) == 0) = false := by rw [beq_eq_false_iff_ne]; omega
    clear h0 DW HB
    have NZ2 := NZ _ q2 w2 hR2.out (by omega)
    clear NZ hR2
    go_wp2_with fail
    refine NZ2.out.mono ?_
    rintro e w3 ⟨z, _, rfl, hd3⟩
    obtain ⟨q3, hq3, hR3⟩ := hd3.1
    have hb3 := hb2.trans hd3.2
    have PK3 := PK _ q3 256 w3 hR3 (by omega) (by omega) (by omega)
    clear NZ2 hd3 hb2 hR3
    go_wp2_with fail
    refine PK3.out.mono ?_
    rintro e w4 ⟨a, ha, rfl, hd4⟩
    obtain ⟨q4, hq4, hR4⟩ := hd4.1
    have hb4 := hb3.trans hd4.2
    replace hR4 := Lib.hid hR4
    clear PK3 hd4 hb3
    have DC4 := DC a w4 (by omega)
    go_wp2_with fail
    refine DC4.out.mono ?_
    rintro e w5 ⟨t1, ht1, rfl, hb5⟩
    have hR5 := hR4.out.keep hb5
    have hb5' := hb4.trans (hb5.mono (HS.out _ hb4))
    have PK5 := PK _ q4 400 w5 hR5 (by omega) (by omega) (by omega)
    clear DC4 hR4 hb5 hR5 hb4 PK
    go_wp2_with fail
    refine PK5.out.mono ?_
    rintro e w6 ⟨b, hb, rfl, hd6⟩
    obtain ⟨q6, hq6, hR6⟩ := hd6.1
    have hb6 := hb5'.trans hd6.2
    replace hR6 := Lib.hid hR6
    clear PK5 hd6 hb5'
    have DC6 := DC b w6 (by omega)
    clear DC
    go_wp2_with fail
    refine DC6.out.mono ?_
    rintro e w7 ⟨t2, ht2, rfl, hb7⟩
    have hR7 := hR6.out.keep hb7
    have hb7' := hb6.trans (hb7.mono (HS.out _ hb6))
    have OF7 := OF t1 t2 _ q6 w7 hR7 (by omega)
    clear DC6 hR6 hb7 hR7 hb6 OF
    go_wp2_with fail
    refine OF7.out.mono ?_
    rintro e w8 ⟨s, hs, rfl, hd8⟩
    have hb8 := hb7'.trans hd8.2
    have hz : s.size ≤ 401 := by
      simp only [List.mem_cons, List.not_mem_nil, or_false] at hs
      rcases hs with rfl | rfl | rfl | rfl | rfl
      · omega
      · omega
      all_goals decide
    clear OF7 hb7' hd8 hs ht1 ht2
    rw [← hRe.out] at hb8
    obtain ⟨k0, k1, k2, k3⟩ := own_cells hb8
    have hb9 := hb0.trans (hb8.mono hb0.size)
    clear hb0 hb8 hRe HS
    obtain ⟨g0, g1⟩ := own_set k0 k1
    go_wp2
    refine bodyPost_ret (v := .agg #[.int .i64 z, .string s]) (by simp [results, Tryd.results20, go_sem, g0, g1]) rfl ?_
    exact ⟨z, s, by omega, rfl, (hb9.setCell (Nat.le_refl _) _).setCell (Nat.le_refl _) _⟩
end Go.Proofs.YtcgjlfkjcgpocaaDoor
