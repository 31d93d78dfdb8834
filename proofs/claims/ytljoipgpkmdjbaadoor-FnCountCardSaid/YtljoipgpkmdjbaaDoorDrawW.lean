/-
  Chapter 1's drawers of a word: DrawWordValid, DrawNumberOf.
-/
import Derived.Test.YtljoipgpkmdjbaaDoorDrawV
import Derived.Test.YtljoipgpkmdjbaaDoorC6
namespace Go.Proofs.YtljoipgpkmdjbaaDoor
open Go.RowKit
set_option maxRecDepth 100000

/-- What a drawer of words gives. -/
def WordDraw (w : World) (e : Ending) (w' : World) : Prop := ∃ (n : Int) (s : ByteArray), s.size ≤ 7000 ∧ e = .returned (.agg #[.int .i64 n, .string s]) ∧ Below w.heap.size w w'
set_option maxHeartbeats 2000000 in
theorem drawWordValid_any (A : Option Addr) (l : List UInt8) (cap : Nat) (w : World) (h : Bytes w w.heap.size A l) (hn : l.length ≤ cap) (hcap : cap ≤ 9223372036854775807) :
    Calls Tryd.prog 11 #[.slice A l.length cap] w (WordDraw w) := by
  have hb0 : Below w.heap.size w (w.alloc (.cells #[.int .i64 0, .string ⟨#[]⟩] 28)) := (Below.refl _ _).alloc (Nat.le_refl _) _
  have OP0 := l30Open_any A l cap (w.alloc (.cells #[.int .i64 0, .string ⟨#[]⟩] 28)) ((h.below hb0).more hb0.size) hn hcap
  generalize hRe : (w.alloc (.cells #[.int .i64 0, .string ⟨#[]⟩] 28)).heap.size = R at OP0
  have HS := Lib.hid (fun W (hb : Below R (w.alloc (.cells #[.int .i64 0, .string ⟨#[]⟩] 28)) W) => (show R ≤ W.heap.size by rw [← hRe]; exact hb.size))
  have OP := Lib.hid OP0
  replace hRe := Lib.hid hRe
  clear OP0
  have PK := fun R q n W hR hq h1 h2 => Lib.hid (pick_drew R q n W hR hq h1 h2)
  have SM := fun R q W hR hq => Lib.hid (l1Some_pos R q W hR hq)
  have BD := fun R q W hR hq => Lib.hid (l1Bad_any R q W hR hq)
  have LW := fun t W h0 => Lib.hid (l1Word_any t W h0)
  clear h
  go_enter Tryd.func11, Tryd.ntmps11
  go_wp2_with fail
  refine OP.out.mono ?_
  rintro e w1 ⟨rfl, hR1, hb1⟩
  have PK1 := PK _ 0 2 w1 hR1 (by omega) (by omega) (by omega)
  clear OP hR1
  go_wp2_with fail
  refine PK1.out.mono ?_
  rintro e w2 ⟨r, hr, rfl, hd2⟩
  obtain ⟨q2, hq2, hR2⟩ := hd2.1
  have hb2 := hb1.trans hd2.2
  replace hR2 := Lib.hid hR2
  clear PK1 hd2 hb1
  by_cases h0 : r = 0
  · subst h0
    clear PK BD
    go_wp2_with fail
    refine (SM _ q2 w2 hR2.out (by omega)).out.mono ?_
    rintro e w3 ⟨s, hs, rfl, hd3⟩
    have hb3 := hb2.trans hd3.2
    clear SM hR2 hd3 hb2
    have hs1 := hs.1
    have hs2 := hs.2
    clear hs
    go_wp2_with fail
    refine (LW s w3 hs1).out.mono ?_
    rintro e w4 ⟨rfl, hb4⟩
    have hb5 := hb3.trans (hb4.mono (HS.out _ hb3))
    clear LW hb3 hb4
    rw [← hRe.out] at hb5
    obtain ⟨k0, k1, k2, k3⟩ := own_cells hb5
    have hb6 := hb0.trans (hb5.mono hb0.size)
    clear hb0 hb5 hRe HS
    generalize wordKind s _ = z at *
    obtain ⟨g0, g1⟩ := own_set k0 k1
    go_wp2
    refine bodyPost_ret (v := .agg #[.int .i64 z, .string s]) (by simp [results, Tryd.results11, go_sem, g0, g1]) rfl ?_
    exact ⟨z, s, by omega, rfl, (hb6.setCell (Nat.le_refl _) _).setCell (Nat.le_refl _) _⟩
  · have e0 : ((r : Int) == 0) = false := by rw [beq_eq_false_iff_ne]; omega
    clear h0 SM LW
    have PK2 := PK _ q2 6 w2 hR2.out (by omega) (by omega) (by omega)
    clear PK hR2
    go_wp2_with fail
    refine PK2.out.mono ?_
    rintro e w3 ⟨z, hz, rfl, hd3⟩
    obtain ⟨q3, hq3, hR3⟩ := hd3.1
    have hb3 := hb2.trans hd3.2
    replace hR3 := Lib.hid hR3
    clear PK2 hd3 hb2
    go_wp2_with fail
    refine (BD _ q3 w3 hR3.out (by omega)).out.mono ?_
    rintro e w4 ⟨s, hs, rfl, hd4⟩
    have hb5 := hb3.trans hd4.2
    clear BD hR3 hd4 hb3
    rw [← hRe.out] at hb5
    obtain ⟨k0, k1, k2, k3⟩ := own_cells hb5
    have hb6 := hb0.trans (hb5.mono hb0.size)
    clear hb0 hb5 hRe HS
    obtain ⟨g0, g1⟩ := own_set k0 k1
    go_wp2
    refine bodyPost_ret (v := .agg #[.int .i64 (z : Int), .string s]) (by simp [results, Tryd.results11, go_sem, g0, g1]) rfl ?_
    exact ⟨(z : Int), s, by omega, rfl, (hb6.setCell (Nat.le_refl _) _).setCell (Nat.le_refl _) _⟩
def numZ : List Int := [2, 2, 2, 3, 1]
end Go.Proofs.YtljoipgpkmdjbaaDoor
