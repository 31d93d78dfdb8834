/-
  The law FnExactSameExpr, walked.
-/
import Derived.Test.YtoepehlndljkoaaGC
namespace Go.Proofs.Ytoepehlndljkoaa
open Go.RowKit
set_option maxRecDepth 100000

/-- Two arguments in their boxes. -/
def KK (w : World) (b : Nat) (x : E) (A : Option Addr) (cap : Nat) (y : E) (B : Option Addr) (cap' : Nat) : Prop :=
  Bx4 w b (.int .i64 x.op) (.int .i64 x.n) (.string x.name) (.slice A x.kids.length cap) ∧ Bx4 w (b + 1) (.int .i64 y.op) (.int .i64 y.n) (.string y.name) (.slice B y.kids.length cap')
theorem KK.below {w w' : World} {b T : Nat} {x : E} {A : Option Addr} {cap : Nat} {y : E} {B : Option Addr} {cap' : Nat} (h : KK w b x A cap y B cap') (hb : Below T w w') (hk : b + 1 < T) : KK w' b x A cap y B cap' :=
  ⟨h.1.below hb (by omega), h.2.below hb hk⟩
/-- A copy. -/
def Bx (w : World) (b : Nat) (x : E) (A : Option Addr) : Prop := Bx4 w b (.int .i64 x.op) (.int .i64 x.n) (.string x.name) (.slice A x.kids.length x.kids.length)
set_option maxHeartbeats 4000000 in
theorem fnExactSameExpr_walk (a : E) (A : Option Addr) (cap : Nat) (b : E) (A' : Option Addr) (cap' : Nat) (w : World) (hR : RdS w w.heap.size a.kids A) (hs : SmE a) (hR' : RdS w w.heap.size b.kids A') (hs' : SmE b) :
    Calls Try.prog 3 #[exV a A cap, exV b A' cap'] w fun ee w' => ee = .returned (.bool true) ∧ Below w.heap.size w w' := by
  obtain ⟨c0, c1, hlt, hb⟩ := two4 w (.int .i64 a.op) (.int .i64 a.n) (.string a.name) (.slice A a.kids.length cap) (.int .i64 b.op) (.int .i64 b.n) (.string b.name) (.slice A' b.kids.length cap') 24 24
  have SZ := szExpr_any a hs A cap _ 1048576 (hR.on hb hb.size) (by omega) (by omega)
  by_cases hbig : 1048576 < bulkE a
  · rw [szR_no hbig] at SZ
    unfold exV at *
    replace SZ := Lib.hid SZ
    clear hR hs hR' hs' hbig c0 c1
    have hl0 : w.heap.size ≤ ((w.alloc (.cells #[.int .i64 a.op, .int .i64 a.n, .string a.name, .slice A a.kids.length cap] 24)).alloc (.cells #[.int .i64 b.op, .int .i64 b.n, .string b.name, .slice A' b.kids.length cap'] 24)).heap.size := hb.size
    go_enter Try.func3, Try.ntmps3
    go_wp2_with fail
    (with_reducible refine Calls.mono SZ.out ?_)
    rintro ee w1 ⟨rfl, hb1⟩
    have hb2 := hb.trans (hb1.mono hl0)
    go_wp2_with fail
    go_ret
    exact ⟨rfl, hb2⟩
  · rw [szR_yes hbig] at SZ
    have hl : bulkE a ≤ 1048576 := by omega
    have hge : (0 : Int) ≤ 1048576 - bulkE a := by omega
    have SZ2 := fun W (h : Below w.heap.size w W) => szExpr_any b hs' A' cap' W (1048576 - bulkE a) (hR'.on h h.size) (by omega) (by omega)
    have K0 := Lib.hid (show KK _ w.heap.size a A cap b A' cap' from ⟨c0, c1⟩)
    have HB := Lib.hid hb
    by_cases hbig2 : 1048576 - (bulkE a : Int) < bulkE b
    · have e1 : szR (1048576 - (bulkE a : Int)) (bulkE b) = -1 := if_pos hbig2
      rw [e1] at SZ2
      have SZ3 := fun W h => Lib.hid (SZ2 W h)
      generalize bulkE a = bk at *
      unfold exV at *
      replace SZ := Lib.hid SZ
      clear hR hs hR' hs' hbig hbig2 e1 SZ2 c0 c1 hb
      go_enter Try.func3, Try.ntmps3
      go_wp2_with fail
      generalize (w.alloc (.cells #[.int .i64 a.op, .int .i64 a.n, .string a.name, .slice A a.kids.length cap] 24)).alloc (.cells #[.int .i64 b.op, .int .i64 b.n, .string b.name, .slice A' b.kids.length cap'] 24) = wa at *
      (with_reducible refine Calls.mono SZ.out ?_)
      rintro ee w1 ⟨rfl, hb1⟩
      obtain ⟨⟨k0, k1, k2, k3⟩, k4, k5, k6, k7⟩ := K0.out.below hb1 hlt
      have hb2 := HB.out.trans (hb1.mono HB.out.size)
      clear hb1 SZ
      go_wp2_with fail
      (with_reducible refine Calls.mono (SZ3 _ hb2).out ?_)
      rintro ee w2 ⟨rfl, hb3⟩
      have hb4 := hb2.trans (hb3.mono hb2.size)
      clear hb3 k0 k1 k2 k3 k4 k5 k6 k7
      go_wp2_with fail
      go_ret
      exact ⟨rfl, hb4⟩
    · have e1 : szR (1048576 - (bulkE a : Int)) (bulkE b) = 1048576 - (bulkE a : Int) - bulkE b := if_neg hbig2
      rw [e1] at SZ2
      have hl' : bulkE b ≤ 1048576 := by omega
      have hge2 : (0 : Int) ≤ 1048576 - bulkE a - bulkE b := by omega
      have SZ3 := fun W h => Lib.hid (SZ2 W h)
      have TA := fun W (h : Below w.heap.size w W) => Lib.hid (toExpr_any a hl A cap W (hR.on h h.size))
      have TB := fun W (h : Below w.heap.size w W) => Lib.hid (toExpr_any b hl' A' cap' W (hR'.on h h.size))
      have SP := fun W A1 A2 h1 h2 => Lib.hid (specSameExpr_any a b A1 a.kids.length A2 b.kids.length W h1 h2 (by omega) (by omega))
      have IM := fun W A1 A2 h1 h2 => Lib.hid (implSame_walk a b A1 a.kids.length A2 b.kids.length W h1 h2 (by omega) (by omega))
      have QA := fun W A1 A2 h1 h2 => Lib.hid (eqExpr_self a hl A1 a.kids.length A2 a.kids.length W h1 h2)
      have QB := fun W A1 A2 h1 h2 => Lib.hid (eqExpr_self b hl' A1 b.kids.length A2 b.kids.length W h1 h2)
      generalize eqB a b = z at *
      generalize bulkE a = bk at *
      generalize bulkE b = bk' at *
      unfold exV at *
      replace SZ := Lib.hid SZ
      clear hR hs hR' hs' hbig hbig2 e1 SZ2 c0 c1 hb
      go_enter Try.func3, Try.ntmps3
      go_wp2_with fail
      generalize (w.alloc (.cells #[.int .i64 a.op, .int .i64 a.n, .string a.name, .slice A a.kids.length cap] 24)).alloc (.cells #[.int .i64 b.op, .int .i64 b.n, .string b.name, .slice A' b.kids.length cap'] 24) = wa at *
      (with_reducible refine Calls.mono SZ.out ?_)
      rintro ee w1 ⟨rfl, hb1⟩
      have K1 := Lib.hid (K0.out.below hb1 hlt)
      obtain ⟨⟨k0, k1, k2, k3⟩, k4, k5, k6, k7⟩ := K1.out
      have hl1 := Nat.lt_of_lt_of_le hlt hb1.size
      have hs1 := HB.out.trans (hb1.mono HB.out.size)
      clear hb1 SZ K0 HB hlt
      go_wp2_with fail
      (with_reducible refine Calls.mono (SZ3 _ hs1).out ?_)
      rintro ee w2 ⟨rfl, hb2⟩
      have K2 := Lib.hid (show KK w2.drew w.heap.size a A cap b A' cap' from K1.out.below hb2.drew hl1)
      have K2' := Lib.hid (K1.out.below hb2 hl1)
      obtain ⟨⟨g0, g1, g2, g3⟩, g4, g5, g6, g7⟩ := K2'.out
      have hl2 := Nat.lt_of_lt_of_le hl1 hb2.size
      have hs2 := hs1.trans (hb2.mono hs1.size)
      have hd2 : Below w.heap.size w w2.drew := hs2.drew
      have hd2l : w.heap.size + 1 < w2.drew.heap.size := hl2
      have hX := fun W (h : Below w2.drew.heap.size w2.drew W) => Lib.hid (hd2.trans (h.mono hd2.size))
      have TA1 := Lib.hid (TA _ hd2).out
      clear hb2 K1 SZ3 k0 k1 k2 k3 k4 k5 k6 k7 hl1
      go_wp2_with fail
      go_region_held3 (fun u => u.cell? ⟨w.heap.size, 0, none⟩ = some (.int .i64 a.op) ∧ u.cell? ⟨w.heap.size, 1, none⟩ = some (.int .i64 a.n) ∧ u.cell? ⟨w.heap.size, 2, none⟩ = some (.string a.name) ∧ u.cell? ⟨w.heap.size, 3, none⟩ = some (.slice A a.kids.length cap) ∧ u.cell? ⟨w.heap.size + 1, 0, none⟩ = some (.int .i64 b.op) ∧ u.cell? ⟨w.heap.size + 1, 1, none⟩ = some (.int .i64 b.n) ∧ u.cell? ⟨w.heap.size + 1, 2, none⟩ = some (.string b.name) ∧ u.cell? ⟨w.heap.size + 1, 3, none⟩ = some (.slice A' b.kids.length cap')) (go_keep)
        (first
          | (go_at_call 6; (with_reducible refine Calls.mono TA1.out ?_); rintro ee w3 ⟨⟨P1, rfl, hp1⟩, hb3⟩; unfold exV; have HP1 := Lib.hid hp1; have K3 := Lib.hid (K2.out.below hb3 hd2l); have hl3 := Nat.lt_of_lt_of_le hd2l hb3.size; obtain ⟨⟨m0, m1, m2, m3⟩, m4, m5, m6, m7⟩ := K3.out; clear hp1)
          | (go_at_call 6; (with_reducible refine Calls.mono (TB _ (hX _ hb3).out).out ?_); rintro ee w4 ⟨⟨P2, rfl, hp2⟩, hb4⟩; unfold exV; have HP2 := Lib.hid hp2; have K4 := Lib.hid (K3.out.below hb4 hl3); have hl4 := Nat.lt_of_lt_of_le hl3 hb4.size; obtain ⟨⟨n0, n1, n2, n3⟩, n4, n5, n6, n7⟩ := K4.out; clear hp2)
          | (go_at_call 5; (with_reducible refine Calls.mono (SP _ P1 P2 (HP1.out.later hb4 (Nat.le_refl _) hb4.size).between_rd HP2.out.between_rd).out ?_); rintro ee w5 ⟨rfl, hb5⟩; have K5 := Lib.hid (K4.out.below hb5 hl4); have hl5 := Nat.lt_of_lt_of_le hl4 hb5.size; obtain ⟨⟨q0, q1, q2, q3⟩, q4, q5, q6, q7⟩ := K5.out))
      have hs5 := (((hX _ hb3).out.trans (hb4.mono (hX _ hb3).out.size))).trans (hb5.mono (Nat.le_trans (hX _ hb3).out.size hb4.size))
      clear hb3 hb4 hb5 HP1 HP2 K3 K4 K2 K2' hX TA1 hd2 hd2l hs1 hs2 hl2 hl3 hl4 g0 g1 g2 g3 g4 g5 g6 g7 m0 m1 m2 m3 m4 m5 m6 m7 n0 n1 n2 n3 n4 n5 n6 n7 SP
      go_wp2_with fail
      (with_reducible refine Calls.mono (TA _ hs5).out ?_)
      rintro ee w6 ⟨⟨P6, rfl, hp6⟩, hb6⟩
      unfold exV
      have K6 := Lib.hid (K5.out.below hb6 hl5)
      have hl6 := Nat.lt_of_lt_of_le hl5 hb6.size
      have hs6 := hs5.trans (hb6.mono hs5.size)
      have HP6 := Lib.hid hp6
      obtain ⟨⟨k0, k1, k2, k3⟩, k4, k5, k6, k7⟩ := K6.out
      clear q0 q1 q2 q3 q4 q5 q6 q7 hp6 hb6 hs5 K5
      go_wp2_with fail
      have hb7 := (Below.refl w6.heap.size w6).alloc (Nat.le_refl _) (.cells #[.int .i64 a.op, .int .i64 a.n, .string a.name, .slice P6 a.kids.length a.kids.length] 29)
      have X7 := Lib.hid (show Bx _ w6.heap.size a P6 from Bx4.new w6 (.int .i64 a.op) (.int .i64 a.n) (.string a.name) (.slice P6 a.kids.length a.kids.length) 29)
      have hx7 : w6.heap.size < (w6.alloc (.cells #[.int .i64 a.op, .int .i64 a.n, .string a.name, .slice P6 a.kids.length a.kids.length] 29)).heap.size := by rw [World.size_alloc]; omega
      generalize w6.alloc (.cells #[.int .i64 a.op, .int .i64 a.n, .string a.name, .slice P6 a.kids.length a.kids.length] 29) = w7 at *
      have K7 := Lib.hid (K6.out.below hb7 hl6)
      have hl7 := Nat.lt_of_lt_of_le hl6 hb7.size
      have hs7 := hs6.trans (hb7.mono hs6.size)
      clear k0 k1 k2 k3 k4 k5 k6 k7 K6
      (with_reducible refine Calls.mono (TB _ hs7).out ?_)
      rintro ee w8 ⟨⟨P8, rfl, hp8⟩, hb8⟩
      unfold exV
      have K8 := Lib.hid (K7.out.below hb8 hl7)
      have X8 := Lib.hid (show Bx w8 w6.heap.size a P6 from Bx4.below X7.out hb8 hx7)
      have hl8 := Nat.lt_of_lt_of_le hl7 hb8.size
      have hx8 := Nat.lt_of_lt_of_le hx7 hb8.size
      have hs8 := hs7.trans (hb8.mono hs7.size)
      have hb68 := hb7.trans (hb8.mono hb7.size)
      have HP8 := Lib.hid hp8
      obtain ⟨x0, x1, x2, x3⟩ := X8.out
      clear hp8 hb8 hb7 hs7 hl7 K7 X7 hs6 hl6 hx7
      go_wp2_with fail
      have hb9 := (Below.refl w8.heap.size w8).alloc (Nat.le_refl _) (.cells #[.int .i64 b.op, .int .i64 b.n, .string b.name, .slice P8 b.kids.length b.kids.length] 29)
      have Y9 := Lib.hid (show Bx _ w8.heap.size b P8 from Bx4.new w8 (.int .i64 b.op) (.int .i64 b.n) (.string b.name) (.slice P8 b.kids.length b.kids.length) 29)
      have hy9 : w8.heap.size < (w8.alloc (.cells #[.int .i64 b.op, .int .i64 b.n, .string b.name, .slice P8 b.kids.length b.kids.length] 29)).heap.size := by rw [World.size_alloc]; omega
      generalize w8.alloc (.cells #[.int .i64 b.op, .int .i64 b.n, .string b.name, .slice P8 b.kids.length b.kids.length] 29) = w9 at *
      have hb69 := hb68.trans (hb9.mono hb68.size)
      have IM1 := Lib.hid (IM w9 P6 P8 (HP6.out.later hb69 (Nat.zero_le _) hb69.size) (HP8.out.later hb9 (Nat.zero_le _) hb9.size)).out
      have K9 := Lib.hid (K8.out.below hb9 hl8)
      have X9 := Lib.hid (show Bx w9 w6.heap.size a P6 from Bx4.below X8.out hb9 hx8)
      have hl9 := Nat.lt_of_lt_of_le hl8 hb9.size
      have hx9 := Nat.lt_of_lt_of_le hx8 hb9.size
      have hs9 := hs8.trans (hb9.mono hs8.size)
      clear x0 x1 x2 x3 K8 X8 IM hs8 hl8 hx8 hb68
      (with_reducible refine Calls.mono IM1.out ?_)
      rintro ee w10 ⟨rfl, hb10⟩
      have K10 := Lib.hid (show KK w10.drew w.heap.size a A cap b A' cap' from K9.out.below hb10.drew hl9)
      have X10 := Lib.hid (show Bx w10.drew w6.heap.size a P6 from Bx4.below X9.out hb10.drew hx9)
      have Y10 := Lib.hid (show Bx w10.drew w8.heap.size b P8 from Bx4.below Y9.out hb10.drew hy9)
      obtain ⟨⟨k0, k1, k2, k3⟩, _⟩ := K9.out.below hb10 hl9
      obtain ⟨x0, x1, x2, x3⟩ := Bx4.below X9.out hb10 hx9
      have hl10 : w.heap.size + 1 < w10.drew.heap.size := Nat.lt_of_lt_of_le hl9 hb10.size
      have hx10 : w6.heap.size < w10.drew.heap.size := Nat.lt_of_lt_of_le hx9 hb10.size
      have hy10 : w8.heap.size < w10.drew.heap.size := Nat.lt_of_lt_of_le hy9 hb10.size
      have hs10 : Below w.heap.size w w10.drew := (hs9.trans (hb10.mono hs9.size)).drew
      have hb610 : Below w6.heap.size w6 w10.drew := (hb69.trans (hb10.mono hb69.size)).drew
      have hb810 : Below w8.heap.size w8 w10.drew := (hb9.trans (hb10.mono hb9.size)).drew
      have TA10 := Lib.hid (TA _ hs10).out
      have R11 := Lib.hid (show ∀ W, Below w10.drew.heap.size w10.drew W → RdS W W.heap.size a.kids P6 from fun W h => (HP6.out.later (hb610.trans (h.mono hb610.size)) (Nat.le_refl _) (Nat.le_trans hb610.size h.size)).between_rd)
      clear hb10 hb69 hb9 hs9 hl9 hx9 hy9 K9 X9 Y9 IM1 TA
      have q1 : (z != z) = false := by simp
      go_wp2_with fail
      go_region_held3 (fun u => u.cell? ⟨w.heap.size, 0, none⟩ = some (.int .i64 a.op) ∧ u.cell? ⟨w.heap.size, 1, none⟩ = some (.int .i64 a.n) ∧ u.cell? ⟨w.heap.size, 2, none⟩ = some (.string a.name) ∧ u.cell? ⟨w.heap.size, 3, none⟩ = some (.slice A a.kids.length cap) ∧ u.cell? ⟨w6.heap.size, 0, none⟩ = some (.int .i64 a.op) ∧ u.cell? ⟨w6.heap.size, 1, none⟩ = some (.int .i64 a.n) ∧ u.cell? ⟨w6.heap.size, 2, none⟩ = some (.string a.name) ∧ u.cell? ⟨w6.heap.size, 3, none⟩ = some (.slice P6 a.kids.length a.kids.length)) (go_keep)
        (first
          | (go_at_call 6; (with_reducible refine Calls.mono TA10.out ?_); rintro ee w11 ⟨⟨P11, rfl, hp11⟩, hb11⟩; unfold exV; have K11 := Lib.hid (K10.out.below hb11 hl10); have X11 := Lib.hid (Bx4.below X10.out hb11 hx10); obtain ⟨⟨m0, m1, m2, m3⟩, _⟩ := K11.out; obtain ⟨y0, y1, y2, y3⟩ := X11.out; have HP11 := Lib.hid hp11; have hl11 := Nat.lt_of_lt_of_le hl10 hb11.size; have hx11 := Nat.lt_of_lt_of_le hx10 hb11.size; clear hp11)
          | (go_at_call 8; (with_reducible refine Calls.mono (QA _ P6 P11 (R11.out _ hb11) HP11.out.between_rd).out ?_); rintro ee w12 ⟨rfl, hb12⟩; obtain ⟨⟨n0, n1, n2, n3⟩, _⟩ := K11.out.below hb12 hl11; obtain ⟨z0, z1, z2, z3⟩ := Bx4.below X11.out hb12 hx11))
      all_goals
        have h1012 := hb11.trans (hb12.mono hb11.size)
        have K12 := Lib.hid (show KK w12.drew w.heap.size a A cap b A' cap' from K10.out.below h1012.drew hl10)
        have Y12 := Lib.hid (show Bx w12.drew w8.heap.size b P8 from Bx4.below Y10.out h1012.drew hy10)
        have hl12 : w.heap.size + 1 < w12.drew.heap.size := Nat.lt_of_lt_of_le hl10 h1012.size
        have hy12 : w8.heap.size < w12.drew.heap.size := Nat.lt_of_lt_of_le hy10 h1012.size
        have hs12 : Below w.heap.size w w12.drew := (hs10.trans (h1012.mono hs10.size)).drew
        have hb812 : Below w8.heap.size w8 w12.drew := (hb810.trans (h1012.mono hb810.size)).drew
        obtain ⟨_, k4, k5, k6, k7⟩ := K10.out.below h1012 hl10
        obtain ⟨u0, u1, u2, u3⟩ := Bx4.below Y10.out h1012 hy10
        have TB12 := Lib.hid (TB _ hs12).out
        have R13 := Lib.hid (show ∀ W, Below w12.drew.heap.size w12.drew W → RdS W W.heap.size b.kids P8 from fun W h => (HP8.out.later (hb812.trans (h.mono hb812.size)) (Nat.le_refl _) (Nat.le_trans hb812.size h.size)).between_rd)
        clear hb11 hb12 h1012 K10 X10 Y10 K11 X11 hl10 hx10 hy10 hs10 hb610 hb810 TA10 R11 k0 k1 k2 k3 x0 x1 x2 x3 m0 m1 m2 m3 y0 y1 y2 y3 n0 n1 n2 n3 z0 z1 z2 z3 HP11 hl11 hx11 TB QA
        go_wp2_with fail
        go_region_held3 (fun u => u.cell? ⟨w.heap.size + 1, 0, none⟩ = some (.int .i64 b.op) ∧ u.cell? ⟨w.heap.size + 1, 1, none⟩ = some (.int .i64 b.n) ∧ u.cell? ⟨w.heap.size + 1, 2, none⟩ = some (.string b.name) ∧ u.cell? ⟨w.heap.size + 1, 3, none⟩ = some (.slice A' b.kids.length cap') ∧ u.cell? ⟨w8.heap.size, 0, none⟩ = some (.int .i64 b.op) ∧ u.cell? ⟨w8.heap.size, 1, none⟩ = some (.int .i64 b.n) ∧ u.cell? ⟨w8.heap.size, 2, none⟩ = some (.string b.name) ∧ u.cell? ⟨w8.heap.size, 3, none⟩ = some (.slice P8 b.kids.length b.kids.length)) (go_keep)
          (first
            | (go_at_call 6; (with_reducible refine Calls.mono TB12.out ?_); rintro ee w13 ⟨⟨P13, rfl, hp13⟩, hb13⟩; unfold exV; have K13 := Lib.hid (K12.out.below hb13 hl12); have Y13 := Lib.hid (Bx4.below Y12.out hb13 hy12); obtain ⟨_, m0, m1, m2, m3⟩ := K13.out; obtain ⟨y0, y1, y2, y3⟩ := Y13.out; have HP13 := Lib.hid hp13; have hl13 := Nat.lt_of_lt_of_le hl12 hb13.size; have hy13 := Nat.lt_of_lt_of_le hy12 hb13.size; clear hp13)
            | (go_at_call 8; (with_reducible refine Calls.mono (QB _ P8 P13 (R13.out _ hb13) HP13.out.between_rd).out ?_); rintro ee w14 ⟨rfl, hb14⟩; obtain ⟨_, n0, n1, n2, n3⟩ := K13.out.below hb14 hl13; obtain ⟨z0, z1, z2, z3⟩ := Bx4.below Y13.out hb14 hy13))
        all_goals
          have hs14 := hs12.trans ((hb13.trans (hb14.mono hb13.size)).mono hs12.size)
          clear K12 Y12 K13 Y13 hb13 hb14 HP13 TB12 R13
          go_wp2_with fail
          go_ret
          exact ⟨rfl, hs14⟩
end Go.Proofs.Ytoepehlndljkoaa
