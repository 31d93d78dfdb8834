/-
  The law FnExactSameUnits, walked.
-/
import Derived.Test.YtjiimcbfniknoaaQL
import Derived.Test.YtjiimcbfniknoaaND
import Derived.Deep.RegionHeld3
namespace Go.Proofs.Ytjiimcbfniknoaa
open Go.RowKit
set_option maxRecDepth 100000

theorem two1 (w : World) (u v : Value) (t t' : TypeId) :
    ((w.alloc (.cells #[u] t)).alloc (.cells #[v] t')).cell? ⟨w.heap.size, 0, none⟩ = some u ∧ ((w.alloc (.cells #[u] t)).alloc (.cells #[v] t')).cell? ⟨w.heap.size + 1, 0, none⟩ = some v ∧
    w.heap.size + 1 < ((w.alloc (.cells #[u] t)).alloc (.cells #[v] t')).heap.size ∧ Below w.heap.size w ((w.alloc (.cells #[u] t)).alloc (.cells #[v] t')) := by
  have s1 : (w.alloc (.cells #[u] t)).heap.size = w.heap.size + 1 := World.size_alloc _ _
  have hal := (Below.refl _ (w.alloc (.cells #[u] t))).alloc (Nat.le_refl _) (.cells #[v] t')
  have Y := alloc_cell (w.alloc (.cells #[u] t)) #[v] t' (0, 0) 0
  rw [s1] at Y
  exact ⟨(hal.cell (p := ⟨w.heap.size, 0, none⟩) (by show w.heap.size < _; rw [s1]; omega)).trans (alloc_cell w _ _ (0, 0) 0), Y, by rw [World.size_alloc, s1]; omega, two_boxes _ _ _⟩
theorem szR_yes2 : True := trivial
/-- Two arguments in their boxes. -/
def KPP (w : World) (b : Nat) (u v : Value) : Prop := w.cell? ⟨b, 0, none⟩ = some u ∧ w.cell? ⟨b + 1, 0, none⟩ = some v
theorem KPP.below {w w' : World} {b T : Nat} {u v : Value} (h : KPP w b u v) (hb : Below T w w') (hk : b + 1 < T) : KPP w' b u v :=
  ⟨(hb.cell (p := ⟨b, 0, none⟩) (by show b < T; omega)).trans h.1, (hb.cell (p := ⟨b + 1, 0, none⟩) hk).trans h.2⟩
/-- A copy. -/
def BC1 (w : World) (b : Nat) (u : Value) : Prop := w.cell? ⟨b, 0, none⟩ = some u
theorem BC1.below {w w' : World} {b T : Nat} {u : Value} (h : BC1 w b u) (hb : Below T w w') (hk : b < T) : BC1 w' b u := (hb.cell (p := ⟨b, 0, none⟩) hk).trans h
open Classical in
set_option maxHeartbeats 4000000 in
theorem fnExactSameUnits_walk (p q : Un) (v u : Value) (w : World) (hV : UnV w (Lt w.heap.size) p v) (hm : SmUn p) (hU : UnV w (Lt w.heap.size) q u) (hn : SmUn q) :
    Calls Try.prog 5 #[v, u] w fun ee w' => ee = .returned (.bool true) ∧ Below w.heap.size w w' := by
  have SZ0 := fun W (h : Below w.heap.size w W) => szUnit_any p hm v W 1048576 (hV.on h h.size) (by omega) (by omega)
  have SZ1 := fun left h0 h1 W (h : Below w.heap.size w W) => szUnit_any q hn u W left (hU.on h h.size) h0 h1
  have TA0 := fun (hl : bulkUn p ≤ 1048576) W (h : Below w.heap.size w W) => toUnit_any p hl v W (hV.on h h.size)
  have TB0 := fun (hl : bulkUn q ≤ 1048576) W (h : Below w.heap.size w W) => toUnit_any q hl u W (hU.on h h.size)
  obtain ⟨A, c, rfl, _⟩ := hV
  obtain ⟨B, d, rfl, _⟩ := hU
  obtain ⟨c0, c1, hlt, hb⟩ := two1 w (.slice A p.codes.length c) (.slice B q.codes.length d) 48 48
  have SZ := SZ0 _ hb
  clear SZ0 hm hn
  by_cases hbig : 1048576 < bulkUn p
  · rw [szR_no hbig] at SZ
    replace SZ := Lib.hid SZ
    clear TA0 TB0 SZ1 hbig c0 c1
    have hl0 := hb.size
    go_enter Try.func5, Try.ntmps5
    go_wp2_with fail
    (with_reducible refine Calls.mono SZ.out ?_)
    rintro ee w1 ⟨rfl, hb1⟩
    have hb2 := hb.trans (hb1.mono hl0)
    go_wp2_with fail
    go_ret
    exact ⟨rfl, hb2⟩
  rw [szR_yes hbig] at SZ
  have hl : bulkUn p ≤ 1048576 := by omega
  have hge : (0 : Int) ≤ 1048576 - bulkUn p := by omega
  have SZ2 := SZ1 (1048576 - bulkUn p) hge (by omega)
  have TA := fun W h => Lib.hid (TA0 hl W h)
  clear SZ1 TA0
  have K0 := Lib.hid (show KPP _ w.heap.size (.slice A p.codes.length c) (.slice B q.codes.length d) from ⟨c0, c1⟩)
  have HB := Lib.hid hb
  by_cases hbig2 : 1048576 - (bulkUn p : Int) < bulkUn q
  · have e1 : szR (1048576 - (bulkUn p : Int)) (bulkUn q) = -1 := if_pos hbig2
    rw [e1] at SZ2
    have SZ3 := fun W h => Lib.hid (SZ2 W h)
    generalize bulkUn p = bk at *
    replace SZ := Lib.hid SZ
    clear TB0 TA hbig hbig2 e1 SZ2 c0 c1 hb
    go_enter Try.func5, Try.ntmps5
    go_wp2_with fail
    generalize (w.alloc (.cells #[.slice A p.codes.length c] 48)).alloc (.cells #[.slice B q.codes.length d] 48) = wa at *
    (with_reducible refine Calls.mono SZ.out ?_)
    rintro ee w1 ⟨rfl, hb1⟩
    obtain ⟨k0, k1⟩ := K0.out.below hb1 hlt
    have hb2 := HB.out.trans (hb1.mono HB.out.size)
    clear hb1 SZ
    go_wp2_with fail
    (with_reducible refine Calls.mono (SZ3 _ hb2).out ?_)
    rintro ee w2 ⟨rfl, hb3⟩
    have hb4 := hb2.trans (hb3.mono hb2.size)
    clear hb3 k0 k1
    go_wp2_with fail
    go_ret
    exact ⟨rfl, hb4⟩
  have e1 : szR (1048576 - (bulkUn p : Int)) (bulkUn q) = 1048576 - (bulkUn p : Int) - bulkUn q := if_neg hbig2
  rw [e1] at SZ2
  have hl' : bulkUn q ≤ 1048576 := by omega
  have hge2 : (0 : Int) ≤ 1048576 - bulkUn p - bulkUn q := by omega
  have SZ3 := fun W h => Lib.hid (SZ2 W h)
  have TB := fun W h => Lib.hid (TB0 hl' W h)
  have SPC := fun W P1 P2 h1 h2 => Lib.hid (specSameUnits_any p q _ _ W ⟨P1, p.codes.length, rfl, h1⟩ ⟨P2, q.codes.length, rfl, h2⟩ (by omega) (by omega))
  have IM := fun W P1 P2 h1 h2 => Lib.hid (implSameUnits_any p q _ _ W ⟨P1, p.codes.length, rfl, h1⟩ ⟨P2, q.codes.length, rfl, h2⟩ (by omega) (by omega))
  have QA := fun W P1 P2 h1 h2 => Lib.hid (eqUnit_self p _ _ W ⟨P1, p.codes.length, rfl, h1⟩ ⟨P2, p.codes.length, rfl, h2⟩ (by omega))
  have QB := fun W P1 P2 h1 h2 => Lib.hid (eqUnit_self q _ _ W ⟨P1, q.codes.length, rfl, h1⟩ ⟨P2, q.codes.length, rfl, h2⟩ (by omega))
  generalize decide (p = q) = z at *
  generalize bulkUn p = bk at *
  generalize bulkUn q = bk' at *
  unfold ToUnRet at TA TB
  replace SZ := Lib.hid SZ
  clear TB0 hbig hbig2 e1 SZ2 c0 c1 hb
  go_enter Try.func5, Try.ntmps5
  go_wp2_with fail
  generalize (w.alloc (.cells #[.slice A p.codes.length c] 48)).alloc (.cells #[.slice B q.codes.length d] 48) = wa at *
  (with_reducible refine Calls.mono SZ.out ?_)
  rintro ee w1 ⟨rfl, hb1⟩
  have K1 := Lib.hid (K0.out.below hb1 hlt)
  obtain ⟨k0, k1⟩ := K1.out
  have hl1 := Nat.lt_of_lt_of_le hlt hb1.size
  have hs1 := HB.out.trans (hb1.mono HB.out.size)
  clear hb1 SZ K0 HB hlt
  go_wp2_with fail
  (with_reducible refine Calls.mono (SZ3 _ hs1).out ?_)
  rintro ee w2 ⟨rfl, hb2⟩
  have K2 := Lib.hid (show KPP w2.drew w.heap.size _ _ from K1.out.below hb2.drew hl1)
  have K2' := Lib.hid (K1.out.below hb2 hl1)
  obtain ⟨g0, g1⟩ := K2'.out
  have hl2 := Nat.lt_of_lt_of_le hl1 hb2.size
  have hs2 := hs1.trans (hb2.mono hs1.size)
  have hd2 : Below w.heap.size w w2.drew := hs2.drew
  have hd2l : w.heap.size + 1 < w2.drew.heap.size := hl2
  have hX := fun W (h : Below w2.drew.heap.size w2.drew W) => Lib.hid (hd2.trans (h.mono hd2.size))
  have TA1 := Lib.hid (TA _ hd2).out
  clear hb2 K1 SZ3 k0 k1 hl1
  go_wp2_with fail
  go_region_held3 (fun x => x.cell? ⟨w.heap.size, 0, none⟩ = some (.slice A p.codes.length c) ∧ x.cell? ⟨w.heap.size + 1, 0, none⟩ = some (.slice B q.codes.length d)) (go_keep)
    (first
      | (go_at_call 23; (with_reducible refine Calls.mono TA1.out ?_); rintro ee w3 ⟨⟨P1, rfl, hp1⟩, hb3⟩; have HP1 := Lib.hid hp1; have K3 := Lib.hid (K2.out.below hb3 hd2l); have hl3 := Nat.lt_of_lt_of_le hd2l hb3.size; obtain ⟨m0, m1⟩ := K3.out; clear hp1)
      | (go_at_call 23; (with_reducible refine Calls.mono (TB _ (hX _ hb3).out).out ?_); rintro ee w4 ⟨⟨P2, rfl, hp2⟩, hb4⟩; have HP2 := Lib.hid hp2; have K4 := Lib.hid (K3.out.below hb4 hl3); have hl4 := Nat.lt_of_lt_of_le hl3 hb4.size; obtain ⟨n0, n1⟩ := K4.out; clear hp2)
      | (go_at_call 22; (with_reducible refine Calls.mono (SPC _ P1 P2 ((HP1.out.later hb4 (Nat.le_refl _) hb4.size).lt (Nat.le_refl _)) (HP2.out.lt (Nat.le_refl _))).out ?_); rintro ee w5 ⟨rfl, hb5⟩; have K5 := Lib.hid (K4.out.below hb5 hl4); have hl5 := Nat.lt_of_lt_of_le hl4 hb5.size; obtain ⟨q0, q1⟩ := K5.out))
  have hs5 := (((hX _ hb3).out.trans (hb4.mono (hX _ hb3).out.size))).trans (hb5.mono (Nat.le_trans (hX _ hb3).out.size hb4.size))
  clear hb3 hb4 hb5 HP1 HP2 K3 K4 K2 K2' hX TA1 hd2 hd2l hs1 hs2 hl2 hl3 hl4 g0 g1 m0 m1 n0 n1 SPC
  go_wp2_with fail
  (with_reducible refine Calls.mono (TA _ hs5).out ?_)
  rintro ee w6 ⟨⟨P6, rfl, hp6⟩, hb6⟩
  have K6 := Lib.hid (K5.out.below hb6 hl5)
  have hl6 := Nat.lt_of_lt_of_le hl5 hb6.size
  have hs6 := hs5.trans (hb6.mono hs5.size)
  have HP6 := Lib.hid hp6
  obtain ⟨k0, k1⟩ := K6.out
  clear q0 q1 hp6 hb6 hs5 K5
  go_wp2_with fail
  have hb7 := (Below.refl w6.heap.size w6).alloc (Nat.le_refl _) (.cells #[.slice P6 p.codes.length p.codes.length] 53)
  have X7 := Lib.hid (show BC1 _ w6.heap.size (.slice P6 p.codes.length p.codes.length) from alloc_cell w6 #[.slice P6 p.codes.length p.codes.length] 53 (0, 0) 0)
  have hx7 : w6.heap.size < (w6.alloc (.cells #[.slice P6 p.codes.length p.codes.length] 53)).heap.size := by rw [World.size_alloc]; omega
  generalize w6.alloc (.cells #[.slice P6 p.codes.length p.codes.length] 53) = w7 at *
  have K7 := Lib.hid (K6.out.below hb7 hl6)
  have hl7 := Nat.lt_of_lt_of_le hl6 hb7.size
  have hs7 := hs6.trans (hb7.mono hs6.size)
  clear k0 k1 K6
  (with_reducible refine Calls.mono (TB _ hs7).out ?_)
  rintro ee w8 ⟨⟨P8, rfl, hp8⟩, hb8⟩
  have K8 := Lib.hid (K7.out.below hb8 hl7)
  have X8 := Lib.hid (BC1.below X7.out hb8 hx7)
  have hl8 := Nat.lt_of_lt_of_le hl7 hb8.size
  have hx8 := Nat.lt_of_lt_of_le hx7 hb8.size
  have hs8 := hs7.trans (hb8.mono hs7.size)
  have hb68 := hb7.trans (hb8.mono hb7.size)
  have HP8 := Lib.hid hp8
  have x0 : w8.cell? ⟨w6.heap.size, 0, none⟩ = some (.slice P6 p.codes.length p.codes.length) := X8.out
  clear hp8 hb8 hb7 hs7 hl7 K7 X7 hs6 hl6 hx7
  go_wp2_with fail
  have hb9 := (Below.refl w8.heap.size w8).alloc (Nat.le_refl _) (.cells #[.slice P8 q.codes.length q.codes.length] 53)
  have Y9 := Lib.hid (show BC1 _ w8.heap.size (.slice P8 q.codes.length q.codes.length) from alloc_cell w8 #[.slice P8 q.codes.length q.codes.length] 53 (0, 0) 0)
  have hy9 : w8.heap.size < (w8.alloc (.cells #[.slice P8 q.codes.length q.codes.length] 53)).heap.size := by rw [World.size_alloc]; omega
  generalize w8.alloc (.cells #[.slice P8 q.codes.length q.codes.length] 53) = w9 at *
  have hb69 := hb68.trans (hb9.mono hb68.size)
  have IM1 := Lib.hid (IM w9 P6 P8 ((HP6.out.later hb69 (Nat.zero_le _) hb69.size).lt (Nat.le_refl _)) ((HP8.out.later hb9 (Nat.zero_le _) hb9.size).lt (Nat.le_refl _))).out
  have K9 := Lib.hid (K8.out.below hb9 hl8)
  have X9 := Lib.hid (BC1.below X8.out hb9 hx8)
  have hl9 := Nat.lt_of_lt_of_le hl8 hb9.size
  have hx9 := Nat.lt_of_lt_of_le hx8 hb9.size
  have hs9 := hs8.trans (hb9.mono hs8.size)
  clear x0 K8 X8 IM hs8 hl8 hx8 hb68
  (with_reducible refine Calls.mono IM1.out ?_)
  rintro ee w10 ⟨rfl, hb10⟩
  have K10 := Lib.hid (show KPP w10.drew w.heap.size _ _ from K9.out.below hb10.drew hl9)
  have X10 := Lib.hid (show BC1 w10.drew w6.heap.size _ from BC1.below X9.out hb10.drew hx9)
  have Y10 := Lib.hid (show BC1 w10.drew w8.heap.size _ from BC1.below Y9.out hb10.drew hy9)
  obtain ⟨k0, _⟩ := K9.out.below hb10 hl9
  have x0 : w10.cell? ⟨w6.heap.size, 0, none⟩ = some (.slice P6 p.codes.length p.codes.length) := BC1.below X9.out hb10 hx9
  have hl10 : w.heap.size + 1 < w10.drew.heap.size := Nat.lt_of_lt_of_le hl9 hb10.size
  have hx10 : w6.heap.size < w10.drew.heap.size := Nat.lt_of_lt_of_le hx9 hb10.size
  have hy10 : w8.heap.size < w10.drew.heap.size := Nat.lt_of_lt_of_le hy9 hb10.size
  have hs10 : Below w.heap.size w w10.drew := (hs9.trans (hb10.mono hs9.size)).drew
  have hb610 : Below w6.heap.size w6 w10.drew := (hb69.trans (hb10.mono hb69.size)).drew
  have hb810 : Below w8.heap.size w8 w10.drew := (hb9.trans (hb10.mono hb9.size)).drew
  have TA10 := Lib.hid (TA _ hs10).out
  have R11 := Lib.hid (show ∀ W, Below w10.drew.heap.size w10.drew W → CdS W (Lt W.heap.size) p.codes P6 from fun W h => (HP6.out.later (hb610.trans (h.mono hb610.size)) (Nat.le_refl _) (Nat.le_trans hb610.size h.size)).lt (Nat.le_refl _))
  clear hb10 hb69 hb9 hs9 hl9 hx9 hy9 K9 X9 Y9 IM1 TA
  have q1 : (z != z) = false := by simp
  go_wp2_with fail
  go_region_held3 (fun x => x.cell? ⟨w.heap.size, 0, none⟩ = some (.slice A p.codes.length c) ∧ x.cell? ⟨w6.heap.size, 0, none⟩ = some (.slice P6 p.codes.length p.codes.length)) (go_keep)
    (first
      | (go_at_call 23; (with_reducible refine Calls.mono TA10.out ?_); rintro ee w11 ⟨⟨P11, rfl, hp11⟩, hb11⟩; have K11 := Lib.hid (K10.out.below hb11 hl10); have X11 := Lib.hid (BC1.below X10.out hb11 hx10); have m0 := K11.out.1; have y0 : w11.cell? ⟨w6.heap.size, 0, none⟩ = some (.slice P6 p.codes.length p.codes.length) := X11.out; have HP11 := Lib.hid hp11; have hl11 := Nat.lt_of_lt_of_le hl10 hb11.size; have hx11 := Nat.lt_of_lt_of_le hx10 hb11.size; clear hp11)
      | (go_at_call 25; (with_reducible refine Calls.mono (QA _ P6 P11 (R11.out _ hb11) (HP11.out.lt (Nat.le_refl _))).out ?_); rintro ee w12 ⟨rfl, hb12⟩; have n0 := (K11.out.below hb12 hl11).1; have z0 : w12.cell? ⟨w6.heap.size, 0, none⟩ = some (.slice P6 p.codes.length p.codes.length) := BC1.below X11.out hb12 hx11))
  all_goals
    have h1012 := hb11.trans (hb12.mono hb11.size)
    have K12 := Lib.hid (show KPP w12.drew w.heap.size _ _ from K10.out.below h1012.drew hl10)
    have Y12 := Lib.hid (show BC1 w12.drew w8.heap.size _ from BC1.below Y10.out h1012.drew hy10)
    have hl12 : w.heap.size + 1 < w12.drew.heap.size := Nat.lt_of_lt_of_le hl10 h1012.size
    have hy12 : w8.heap.size < w12.drew.heap.size := Nat.lt_of_lt_of_le hy10 h1012.size
    have hs12 : Below w.heap.size w w12.drew := (hs10.trans (h1012.mono hs10.size)).drew
    have hb812 : Below w8.heap.size w8 w12.drew := (hb810.trans (h1012.mono hb810.size)).drew
    have k1 := (K10.out.below h1012 hl10).2
    have u0 : w12.cell? ⟨w8.heap.size, 0, none⟩ = some (.slice P8 q.codes.length q.codes.length) := BC1.below Y10.out h1012 hy10
    have TB12 := Lib.hid (TB _ hs12).out
    have R13 := Lib.hid (show ∀ W, Below w12.drew.heap.size w12.drew W → CdS W (Lt W.heap.size) q.codes P8 from fun W h => (HP8.out.later (hb812.trans (h.mono hb812.size)) (Nat.le_refl _) (Nat.le_trans hb812.size h.size)).lt (Nat.le_refl _))
    clear hb11 hb12 h1012 K10 X10 Y10 K11 X11 hl10 hx10 hy10 hs10 hb610 hb810 TA10 R11 k0 x0 m0 y0 n0 z0 HP11 hl11 hx11 TB QA
    go_wp2_with fail
    go_region_held3 (fun x => x.cell? ⟨w.heap.size + 1, 0, none⟩ = some (.slice B q.codes.length d) ∧ x.cell? ⟨w8.heap.size, 0, none⟩ = some (.slice P8 q.codes.length q.codes.length)) (go_keep)
      (first
        | (go_at_call 23; (with_reducible refine Calls.mono TB12.out ?_); rintro ee w13 ⟨⟨P13, rfl, hp13⟩, hb13⟩; have K13 := Lib.hid (K12.out.below hb13 hl12); have Y13 := Lib.hid (BC1.below Y12.out hb13 hy12); have m0 := K13.out.2; have y0 : w13.cell? ⟨w8.heap.size, 0, none⟩ = some (.slice P8 q.codes.length q.codes.length) := Y13.out; have HP13 := Lib.hid hp13; have hl13 := Nat.lt_of_lt_of_le hl12 hb13.size; have hy13 := Nat.lt_of_lt_of_le hy12 hb13.size; clear hp13)
        | (go_at_call 25; (with_reducible refine Calls.mono (QB _ P8 P13 (R13.out _ hb13) (HP13.out.lt (Nat.le_refl _))).out ?_); rintro ee w14 ⟨rfl, hb14⟩; have n0 := (K13.out.below hb14 hl13).2; have z0 : w14.cell? ⟨w8.heap.size, 0, none⟩ = some (.slice P8 q.codes.length q.codes.length) := BC1.below Y13.out hb14 hy13))
    all_goals
      have hs14 := hs12.trans ((hb13.trans (hb14.mono hb13.size)).mono hs12.size)
      clear K12 Y12 K13 Y13 hb13 hb14 HP13 TB12 R13
      go_wp2_with fail
      go_ret
      exact ⟨rfl, hs14⟩
end Go.Proofs.Ytjiimcbfniknoaa
