/-
  The law FnExactSameOutcome, walked.
-/
import Derived.Test.YtkhcfhhejmkikaaOC
import Derived.Deep.RegionHeld3
namespace Go.Proofs.Ytkhcfhhejmkikaa
open Go.RowKit
set_option maxRecDepth 100000

/-- Four cells of a block. -/
def Fr4 (w : World) (k : Nat) (v0 v1 v2 v3 : Value) : Prop := w.cell? ⟨k, 0, none⟩ = some v0 ∧ w.cell? ⟨k, 1, none⟩ = some v1 ∧ w.cell? ⟨k, 2, none⟩ = some v2 ∧ w.cell? ⟨k, 3, none⟩ = some v3
theorem Fr4.below {w w' : World} {B k : Nat} {v0 v1 v2 v3 : Value} (h : Fr4 w k v0 v1 v2 v3) (hb : Below B w w') (hk : k < B) : Fr4 w' k v0 v1 v2 v3 :=
  ⟨(hb.cell (p := ⟨k, 0, none⟩) hk).trans h.1, (hb.cell (p := ⟨k, 1, none⟩) hk).trans h.2.1, (hb.cell (p := ⟨k, 2, none⟩) hk).trans h.2.2.1, (hb.cell (p := ⟨k, 3, none⟩) hk).trans h.2.2.2⟩
theorem Fr4.new (w : World) (v0 v1 v2 v3 : Value) (t : TypeId) : Fr4 (w.alloc (.cells #[v0, v1, v2, v3] t)) w.heap.size v0 v1 v2 v3 := ⟨alloc_cell w _ _ _ 0, alloc_cell w _ _ _ 1, alloc_cell w _ _ _ 2, alloc_cell w _ _ _ 3⟩
theorem two4' (w : World) (u0 u1 u2 u3 v0 v1 v2 v3 : Value) (t t' : TypeId) :
    Fr4 ((w.alloc (.cells #[u0, u1, u2, u3] t)).alloc (.cells #[v0, v1, v2, v3] t')) w.heap.size u0 u1 u2 u3 ∧ Fr4 ((w.alloc (.cells #[u0, u1, u2, u3] t)).alloc (.cells #[v0, v1, v2, v3] t')) (w.heap.size + 1) v0 v1 v2 v3 ∧
    w.heap.size + 1 < ((w.alloc (.cells #[u0, u1, u2, u3] t)).alloc (.cells #[v0, v1, v2, v3] t')).heap.size ∧ Below w.heap.size w ((w.alloc (.cells #[u0, u1, u2, u3] t)).alloc (.cells #[v0, v1, v2, v3] t')) := by
  obtain ⟨U, V, h1, h2⟩ := two4o w u0 u1 u2 u3 v0 v1 v2 v3 t t'
  exact ⟨⟨U 0 _ rfl, U 1 _ rfl, U 2 _ rfl, U 3 _ rfl⟩, ⟨V 0 _ rfl, V 1 _ rfl, V 2 _ rfl, V 3 _ rfl⟩, h1, h2⟩
/-- Two arguments in their boxes. -/
def KO (w : World) (k : Nat) (a : Oc) (A : Option Addr) (cap : Nat) (A2 : Option Addr) (cap2 : Nat) (b : Oc) (A' : Option Addr) (cap' : Nat) (A2' : Option Addr) (cap2' : Nat) : Prop :=
  Fr4 w k (.slice A a.said.length cap) (.int .i64 a.en) (.int .i64 a.val) (.slice A2 a.cells.length cap2) ∧ Fr4 w (k + 1) (.slice A' b.said.length cap') (.int .i64 b.en) (.int .i64 b.val) (.slice A2' b.cells.length cap2')
theorem KO.below {w w' : World} {k T : Nat} {a : Oc} {A : Option Addr} {cap : Nat} {A2 : Option Addr} {cap2 : Nat} {b : Oc} {A' : Option Addr} {cap' : Nat} {A2' : Option Addr} {cap2' : Nat} (h : KO w k a A cap A2 cap2 b A' cap' A2' cap2') (hb : Below T w w') (hk : k + 1 < T) : KO w' k a A cap A2 cap2 b A' cap' A2' cap2' :=
  ⟨h.1.below hb (by omega), h.2.below hb hk⟩
/-- A copy. -/
def BxO (w : World) (k : Nat) (a : Oc) (P Q : Option Addr) : Prop := Fr4 w k (.slice P a.said.length a.said.length) (.int .i64 a.en) (.int .i64 a.val) (.slice Q a.cells.length a.cells.length)
theorem szR_no' {b : Nat} (h : 1048576 < b) : szR 1048576 b = -1 := if_pos (by omega)
set_option maxHeartbeats 4000000 in
theorem fnExactSameOutcome_walk (a : Oc) (A : Option Addr) (cap : Nat) (A2 : Option Addr) (cap2 : Nat) (b : Oc) (A' : Option Addr) (cap' : Nat) (A2' : Option Addr) (cap2' : Nat) (w : World) (hR : OcR w a A A2) (hs : SmO a) (hR' : OcR w b A' A2') (hs' : SmO b) :
    Calls Try.prog 4 #[ocV a A cap A2 cap2, ocV b A' cap' A2' cap2'] w fun ee w' => ee = .returned (.bool true) ∧ Below w.heap.size w w' := by
  obtain ⟨c0, c1, hlt, hb⟩ := two4' w (.slice A a.said.length cap) (.int .i64 a.en) (.int .i64 a.val) (.slice A2 a.cells.length cap2) (.slice A' b.said.length cap') (.int .i64 b.en) (.int .i64 b.val) (.slice A2' b.cells.length cap2') 34 34
  have SZ := szOutcome_any a hs A cap A2 cap2 ((w.alloc (.cells #[.slice A a.said.length cap, .int .i64 a.en, .int .i64 a.val, .slice A2 a.cells.length cap2] 34)).alloc (.cells #[.slice A' b.said.length cap', .int .i64 b.en, .int .i64 b.val, .slice A2' b.cells.length cap2'] 34)) 1048576 (by omega) (by omega)
  unfold NumB at SZ
  by_cases hbig : 1048576 < bulkO a
  · rw [szR_no hbig] at SZ
    unfold ocV at *
    replace SZ := Lib.hid SZ
    clear hR hs hR' hs' hbig c0 c1
    have hl0 : w.heap.size ≤ ((w.alloc (.cells #[.slice A a.said.length cap, .int .i64 a.en, .int .i64 a.val, .slice A2 a.cells.length cap2] 34)).alloc (.cells #[.slice A' b.said.length cap', .int .i64 b.en, .int .i64 b.val, .slice A2' b.cells.length cap2'] 34)).heap.size := hb.size
    go_enter Try.func4, Try.ntmps4
    go_wp2_with fail
    (with_reducible refine Calls.mono SZ.out ?_)
    rintro ee w1 ⟨rfl, hb1⟩
    have hb2 := hb.trans (hb1.mono hl0)
    go_wp2_with fail
    go_ret
    exact ⟨rfl, hb2⟩
  · rw [szR_yes hbig] at SZ
    have hl : bulkO a ≤ 1048576 := by omega
    have hge : (0 : Int) ≤ 1048576 - bulkO a := by omega
    have SZ2 := fun W (h : Below w.heap.size w W) => szOutcome_any b hs' A' cap' A2' cap2' W (1048576 - bulkO a) (by omega) (by omega)
    unfold NumB at SZ2
    have K0 := Lib.hid (show KO _ w.heap.size a A cap A2 cap2 b A' cap' A2' cap2' from ⟨c0, c1⟩)
    have HB := Lib.hid hb
    by_cases hbig2 : 1048576 - (bulkO a : Int) < bulkO b
    · have e1 : szR (1048576 - (bulkO a : Int)) (bulkO b) = -1 := if_pos hbig2
      rw [e1] at SZ2
      have SZ3 := fun W h => Lib.hid (SZ2 W h)
      generalize bulkO a = bk at *
      unfold ocV at *
      replace SZ := Lib.hid SZ
      clear hR hs hR' hs' hbig hbig2 e1 SZ2 c0 c1 hb
      go_enter Try.func4, Try.ntmps4
      go_wp2_with fail
      generalize (w.alloc (.cells #[.slice A a.said.length cap, .int .i64 a.en, .int .i64 a.val, .slice A2 a.cells.length cap2] 34)).alloc (.cells #[.slice A' b.said.length cap', .int .i64 b.en, .int .i64 b.val, .slice A2' b.cells.length cap2'] 34) = wa at *
      (with_reducible refine Calls.mono SZ.out ?_)
      rintro ee w1 ⟨rfl, hb1⟩
      obtain ⟨⟨k0, k1, k2, k3⟩, k4, k5, k6, k7⟩ := K0.out.below hb1 hlt
      have hb2 := HB.out.trans (hb1.mono HB.out.size)
      clear hb1 SZ
      go_wp2_with fail
      (with_reducible refine Calls.mono (SZ3 _ hb2).out ?_)
      rintro ee w2 ⟨rfl, hb3⟩
      have hb4 := hb2.trans (hb3.mono hb2.size)
      clear hb3 k0 k1 k2 k3 k4 k5 k6 k7
      go_wp2_with fail
      go_ret
      exact ⟨rfl, hb4⟩
    · have e1 : szR (1048576 - (bulkO a : Int)) (bulkO b) = 1048576 - (bulkO a : Int) - bulkO b := if_neg hbig2
      rw [e1] at SZ2
      have hl' : bulkO b ≤ 1048576 := by omega
      have hge2 : (0 : Int) ≤ 1048576 - bulkO a - bulkO b := by omega
      have SZ3 := fun W h => Lib.hid (SZ2 W h)
      have TA := fun W (h : Below w.heap.size w W) => Lib.hid (show Calls _ _ _ _ (fun ee w' => (∃ B B', ee = .returned (.agg #[.slice B a.said.length a.said.length, .int .i64 a.en, .int .i64 a.val, .slice B' a.cells.length a.cells.length]) ∧ OcR w' a B B') ∧ Below W.heap.size W w') from toOutcome_any a hl A cap A2 cap2 W (hR.on h))
      have TB := fun W (h : Below w.heap.size w W) => Lib.hid (show Calls _ _ _ _ (fun ee w' => (∃ B B', ee = .returned (.agg #[.slice B b.said.length b.said.length, .int .i64 b.en, .int .i64 b.val, .slice B' b.cells.length b.cells.length]) ∧ OcR w' b B B') ∧ Below W.heap.size W w') from toOutcome_any b hl' A' cap' A2' cap2' W (hR'.on h))
      have SP := fun W A1 B1 C1 D1 h1 h2 => Lib.hid (specSameOutcome_any a b A1 a.said.length B1 a.cells.length C1 b.said.length D1 b.cells.length W h1 h2 (by omega) (by omega))
      have IM := fun W A1 B1 C1 D1 h1 h2 => Lib.hid (implSameOutcome_any a b A1 a.said.length B1 a.cells.length C1 b.said.length D1 b.cells.length W h1 h2 (by omega) (by omega))
      have QA := fun W A1 B1 C1 D1 h1 h2 => Lib.hid (eqOutcome_self a hl A1 a.said.length B1 a.cells.length C1 a.said.length D1 a.cells.length W h1 h2)
      have QB := fun W A1 B1 C1 D1 h1 h2 => Lib.hid (eqOutcome_self b hl' A1 b.said.length B1 b.cells.length C1 b.said.length D1 b.cells.length W h1 h2)
      generalize sameO a b = z at *
      generalize bulkO a = bk at *
      generalize bulkO b = bk' at *
      unfold ocV at *
      replace SZ := Lib.hid SZ
      clear hR hs hR' hs' hbig hbig2 e1 SZ2 c0 c1 hb
      go_enter Try.func4, Try.ntmps4
      go_wp2_with fail
      generalize (w.alloc (.cells #[.slice A a.said.length cap, .int .i64 a.en, .int .i64 a.val, .slice A2 a.cells.length cap2] 34)).alloc (.cells #[.slice A' b.said.length cap', .int .i64 b.en, .int .i64 b.val, .slice A2' b.cells.length cap2'] 34) = wa at *
      (with_reducible refine Calls.mono SZ.out ?_)
      rintro ee w1 ⟨rfl, hb1⟩
      have K1 := Lib.hid (K0.out.below hb1 hlt)
      obtain ⟨⟨k0, k1, k2, k3⟩, k4, k5, k6, k7⟩ := K1.out
      have hl1 := Nat.lt_of_lt_of_le hlt hb1.size
      have hs1 := HB.out.trans (hb1.mono HB.out.size)
      clear hb1 SZ K0 HB hlt
      go_wp2_with fail
      (with_reducible refine Calls.mono (SZ3 _ hs1).out ?_)
      rintro ee w2 ⟨rfl, hb2⟩
      have K2 := Lib.hid (show KO w2.drew w.heap.size a A cap A2 cap2 b A' cap' A2' cap2' from K1.out.below hb2.drew hl1)
      have K2' := Lib.hid (K1.out.below hb2 hl1)
      obtain ⟨⟨g0, g1, g2, g3⟩, g4, g5, g6, g7⟩ := K2'.out
      have hl2 := Nat.lt_of_lt_of_le hl1 hb2.size
      have hs2 := hs1.trans (hb2.mono hs1.size)
      have hd2 : Below w.heap.size w w2.drew := hs2.drew
      have hd2l : w.heap.size + 1 < w2.drew.heap.size := hl2
      have hX := fun W (h : Below w2.drew.heap.size w2.drew W) => Lib.hid (hd2.trans (h.mono hd2.size))
      have TA1 := Lib.hid (TA _ hd2).out
      clear hb2 K1 SZ3 k0 k1 k2 k3 k4 k5 k6 k7 hl1
      go_wp2_with fail
      go_region_held3 (fun u => u.cell? ⟨w.heap.size, 0, none⟩ = some (.slice A a.said.length cap) ∧ u.cell? ⟨w.heap.size, 1, none⟩ = some (.int .i64 a.en) ∧ u.cell? ⟨w.heap.size, 2, none⟩ = some (.int .i64 a.val) ∧ u.cell? ⟨w.heap.size, 3, none⟩ = some (.slice A2 a.cells.length cap2) ∧ u.cell? ⟨w.heap.size + 1, 0, none⟩ = some (.slice A' b.said.length cap') ∧ u.cell? ⟨w.heap.size + 1, 1, none⟩ = some (.int .i64 b.en) ∧ u.cell? ⟨w.heap.size + 1, 2, none⟩ = some (.int .i64 b.val) ∧ u.cell? ⟨w.heap.size + 1, 3, none⟩ = some (.slice A2' b.cells.length cap2')) (go_keep)
        (first
          | (go_at_call 12; (with_reducible refine Calls.mono TA1.out ?_); rintro ee w3 ⟨⟨P1, Q1, rfl, hp1⟩, hb3⟩; have HP1 := Lib.hid hp1; have K3 := Lib.hid (K2.out.below hb3 hd2l); have hl3 := Nat.lt_of_lt_of_le hd2l hb3.size; obtain ⟨⟨m0, m1, m2, m3⟩, m4, m5, m6, m7⟩ := K3.out; clear hp1)
          | (go_at_call 12; (with_reducible refine Calls.mono (TB _ (hX _ hb3).out).out ?_); rintro ee w4 ⟨⟨P2, Q2, rfl, hp2⟩, hb4⟩; have HP2 := Lib.hid hp2; have K4 := Lib.hid (K3.out.below hb4 hl3); have hl4 := Nat.lt_of_lt_of_le hl3 hb4.size; obtain ⟨⟨n0, n1, n2, n3⟩, n4, n5, n6, n7⟩ := K4.out; clear hp2)
          | (go_at_call 11; (with_reducible refine Calls.mono (SP _ P1 Q1 P2 Q2 (HP1.out.on hb4) HP2.out).out ?_); rintro ee w5 ⟨rfl, hb5⟩; have K5 := Lib.hid (K4.out.below hb5 hl4); have hl5 := Nat.lt_of_lt_of_le hl4 hb5.size; obtain ⟨⟨q0, q1, q2, q3⟩, q4, q5, q6, q7⟩ := K5.out))
      have hs5 := (((hX _ hb3).out.trans (hb4.mono (hX _ hb3).out.size))).trans (hb5.mono (Nat.le_trans (hX _ hb3).out.size hb4.size))
      clear hb3 hb4 hb5 HP1 HP2 K3 K4 K2 K2' hX TA1 hd2 hd2l hs1 hs2 hl2 hl3 hl4 g0 g1 g2 g3 g4 g5 g6 g7 m0 m1 m2 m3 m4 m5 m6 m7 n0 n1 n2 n3 n4 n5 n6 n7 SP
      go_wp2_with fail
      (with_reducible refine Calls.mono (TA _ hs5).out ?_)
      rintro ee w6 ⟨⟨P6, Q6, rfl, hp6⟩, hb6⟩
      have K6 := Lib.hid (K5.out.below hb6 hl5)
      have hl6 := Nat.lt_of_lt_of_le hl5 hb6.size
      have hs6 := hs5.trans (hb6.mono hs5.size)
      have HP6 := Lib.hid hp6
      obtain ⟨⟨k0, k1, k2, k3⟩, k4, k5, k6, k7⟩ := K6.out
      clear q0 q1 q2 q3 q4 q5 q6 q7 hp6 hb6 hs5 K5
      go_wp2_with fail
      have hb7 := (Below.refl w6.heap.size w6).alloc (Nat.le_refl _) (.cells #[.slice P6 a.said.length a.said.length, .int .i64 a.en, .int .i64 a.val, .slice Q6 a.cells.length a.cells.length] 37)
      have X7 := Lib.hid (show BxO _ w6.heap.size a P6 Q6 from Fr4.new w6 (.slice P6 a.said.length a.said.length) (.int .i64 a.en) (.int .i64 a.val) (.slice Q6 a.cells.length a.cells.length) 37)
      have hx7 : w6.heap.size < (w6.alloc (.cells #[.slice P6 a.said.length a.said.length, .int .i64 a.en, .int .i64 a.val, .slice Q6 a.cells.length a.cells.length] 37)).heap.size := by rw [World.size_alloc]; omega
      generalize w6.alloc (.cells #[.slice P6 a.said.length a.said.length, .int .i64 a.en, .int .i64 a.val, .slice Q6 a.cells.length a.cells.length] 37) = w7 at *
      have K7 := Lib.hid (K6.out.below hb7 hl6)
      have hl7 := Nat.lt_of_lt_of_le hl6 hb7.size
      have hs7 := hs6.trans (hb7.mono hs6.size)
      clear k0 k1 k2 k3 k4 k5 k6 k7 K6
      (with_reducible refine Calls.mono (TB _ hs7).out ?_)
      rintro ee w8 ⟨⟨P8, Q8, rfl, hp8⟩, hb8⟩
      have K8 := Lib.hid (K7.out.below hb8 hl7)
      have X8 := Lib.hid (show BxO w8 w6.heap.size a P6 Q6 from Fr4.below X7.out hb8 hx7)
      have hl8 := Nat.lt_of_lt_of_le hl7 hb8.size
      have hx8 := Nat.lt_of_lt_of_le hx7 hb8.size
      have hs8 := hs7.trans (hb8.mono hs7.size)
      have hb68 := hb7.trans (hb8.mono hb7.size)
      have HP8 := Lib.hid hp8
      obtain ⟨x0, x1, x2, x3⟩ := X8.out
      clear hp8 hb8 hb7 hs7 hl7 K7 X7 hs6 hl6 hx7
      go_wp2_with fail
      have hb9 := (Below.refl w8.heap.size w8).alloc (Nat.le_refl _) (.cells #[.slice P8 b.said.length b.said.length, .int .i64 b.en, .int .i64 b.val, .slice Q8 b.cells.length b.cells.length] 37)
      have Y9 := Lib.hid (show BxO _ w8.heap.size b P8 Q8 from Fr4.new w8 (.slice P8 b.said.length b.said.length) (.int .i64 b.en) (.int .i64 b.val) (.slice Q8 b.cells.length b.cells.length) 37)
      have hy9 : w8.heap.size < (w8.alloc (.cells #[.slice P8 b.said.length b.said.length, .int .i64 b.en, .int .i64 b.val, .slice Q8 b.cells.length b.cells.length] 37)).heap.size := by rw [World.size_alloc]; omega
      generalize w8.alloc (.cells #[.slice P8 b.said.length b.said.length, .int .i64 b.en, .int .i64 b.val, .slice Q8 b.cells.length b.cells.length] 37) = w9 at *
      have hb69 := hb68.trans (hb9.mono hb68.size)
      have IM1 := Lib.hid (IM w9 P6 Q6 P8 Q8 (HP6.out.on hb69) (HP8.out.on hb9)).out
      have K9 := Lib.hid (K8.out.below hb9 hl8)
      have X9 := Lib.hid (show BxO w9 w6.heap.size a P6 Q6 from Fr4.below X8.out hb9 hx8)
      have hl9 := Nat.lt_of_lt_of_le hl8 hb9.size
      have hx9 := Nat.lt_of_lt_of_le hx8 hb9.size
      have hs9 := hs8.trans (hb9.mono hs8.size)
      clear x0 x1 x2 x3 K8 X8 IM hs8 hl8 hx8 hb68
      (with_reducible refine Calls.mono IM1.out ?_)
      rintro ee w10 ⟨rfl, hb10⟩
      have K10 := Lib.hid (show KO w10.drew w.heap.size a A cap A2 cap2 b A' cap' A2' cap2' from K9.out.below hb10.drew hl9)
      have X10 := Lib.hid (show BxO w10.drew w6.heap.size a P6 Q6 from Fr4.below X9.out hb10.drew hx9)
      have Y10 := Lib.hid (show BxO w10.drew w8.heap.size b P8 Q8 from Fr4.below Y9.out hb10.drew hy9)
      obtain ⟨⟨k0, k1, k2, k3⟩, _⟩ := K9.out.below hb10 hl9
      obtain ⟨x0, x1, x2, x3⟩ := Fr4.below X9.out hb10 hx9
      have hl10 : w.heap.size + 1 < w10.drew.heap.size := Nat.lt_of_lt_of_le hl9 hb10.size
      have hx10 : w6.heap.size < w10.drew.heap.size := Nat.lt_of_lt_of_le hx9 hb10.size
      have hy10 : w8.heap.size < w10.drew.heap.size := Nat.lt_of_lt_of_le hy9 hb10.size
      have hs10 : Below w.heap.size w w10.drew := (hs9.trans (hb10.mono hs9.size)).drew
      have hb610 : Below w6.heap.size w6 w10.drew := (hb69.trans (hb10.mono hb69.size)).drew
      have hb810 : Below w8.heap.size w8 w10.drew := (hb9.trans (hb10.mono hb9.size)).drew
      have TA10 := Lib.hid (TA _ hs10).out
      have R11 := Lib.hid (show ∀ W, Below w10.drew.heap.size w10.drew W → OcR W a P6 Q6 from fun W h => HP6.out.on (hb610.trans (h.mono hb610.size)))
      clear hb10 hb69 hb9 hs9 hl9 hx9 hy9 K9 X9 Y9 IM1 TA
      have q1 : (z != z) = false := by simp
      go_wp2_with fail
      go_region_held3 (fun u => u.cell? ⟨w.heap.size, 0, none⟩ = some (.slice A a.said.length cap) ∧ u.cell? ⟨w.heap.size, 1, none⟩ = some (.int .i64 a.en) ∧ u.cell? ⟨w.heap.size, 2, none⟩ = some (.int .i64 a.val) ∧ u.cell? ⟨w.heap.size, 3, none⟩ = some (.slice A2 a.cells.length cap2) ∧ u.cell? ⟨w6.heap.size, 0, none⟩ = some (.slice P6 a.said.length a.said.length) ∧ u.cell? ⟨w6.heap.size, 1, none⟩ = some (.int .i64 a.en) ∧ u.cell? ⟨w6.heap.size, 2, none⟩ = some (.int .i64 a.val) ∧ u.cell? ⟨w6.heap.size, 3, none⟩ = some (.slice Q6 a.cells.length a.cells.length)) (go_keep)
        (first
          | (go_at_call 12; (with_reducible refine Calls.mono TA10.out ?_); rintro ee w11 ⟨⟨P11, Q11, rfl, hp11⟩, hb11⟩; have K11 := Lib.hid (K10.out.below hb11 hl10); have X11 := Lib.hid (Fr4.below X10.out hb11 hx10); obtain ⟨⟨m0, m1, m2, m3⟩, _⟩ := K11.out; obtain ⟨y0, y1, y2, y3⟩ := X11.out; have HP11 := Lib.hid hp11; have hl11 := Nat.lt_of_lt_of_le hl10 hb11.size; have hx11 := Nat.lt_of_lt_of_le hx10 hb11.size; clear hp11)
          | (go_at_call 14; (with_reducible refine Calls.mono (QA _ P6 Q6 P11 Q11 (R11.out _ hb11) HP11.out).out ?_); rintro ee w12 ⟨rfl, hb12⟩; obtain ⟨⟨n0, n1, n2, n3⟩, _⟩ := K11.out.below hb12 hl11; obtain ⟨z0, z1, z2, z3⟩ := Fr4.below X11.out hb12 hx11))
      all_goals
        have h1012 := hb11.trans (hb12.mono hb11.size)
        have K12 := Lib.hid (show KO w12.drew w.heap.size a A cap A2 cap2 b A' cap' A2' cap2' from K10.out.below h1012.drew hl10)
        have Y12 := Lib.hid (show BxO w12.drew w8.heap.size b P8 Q8 from Fr4.below Y10.out h1012.drew hy10)
        have hl12 : w.heap.size + 1 < w12.drew.heap.size := Nat.lt_of_lt_of_le hl10 h1012.size
        have hy12 : w8.heap.size < w12.drew.heap.size := Nat.lt_of_lt_of_le hy10 h1012.size
        have hs12 : Below w.heap.size w w12.drew := (hs10.trans (h1012.mono hs10.size)).drew
        have hb812 : Below w8.heap.size w8 w12.drew := (hb810.trans (h1012.mono hb810.size)).drew
        obtain ⟨_, k4, k5, k6, k7⟩ := K10.out.below h1012 hl10
        obtain ⟨u0, u1, u2, u3⟩ := Fr4.below Y10.out h1012 hy10
        have TB12 := Lib.hid (TB _ hs12).out
        have R13 := Lib.hid (show ∀ W, Below w12.drew.heap.size w12.drew W → OcR W b P8 Q8 from fun W h => HP8.out.on (hb812.trans (h.mono hb812.size)))
        clear hb11 hb12 h1012 K10 X10 Y10 K11 X11 hl10 hx10 hy10 hs10 hb610 hb810 TA10 R11 k0 k1 k2 k3 x0 x1 x2 x3 m0 m1 m2 m3 y0 y1 y2 y3 n0 n1 n2 n3 z0 z1 z2 z3 HP11 hl11 hx11 TB QA
        go_wp2_with fail
        go_region_held3 (fun u => u.cell? ⟨w.heap.size + 1, 0, none⟩ = some (.slice A' b.said.length cap') ∧ u.cell? ⟨w.heap.size + 1, 1, none⟩ = some (.int .i64 b.en) ∧ u.cell? ⟨w.heap.size + 1, 2, none⟩ = some (.int .i64 b.val) ∧ u.cell? ⟨w.heap.size + 1, 3, none⟩ = some (.slice A2' b.cells.length cap2') ∧ u.cell? ⟨w8.heap.size, 0, none⟩ = some (.slice P8 b.said.length b.said.length) ∧ u.cell? ⟨w8.heap.size, 1, none⟩ = some (.int .i64 b.en) ∧ u.cell? ⟨w8.heap.size, 2, none⟩ = some (.int .i64 b.val) ∧ u.cell? ⟨w8.heap.size, 3, none⟩ = some (.slice Q8 b.cells.length b.cells.length)) (go_keep)
          (first
            | (go_at_call 12; (with_reducible refine Calls.mono TB12.out ?_); rintro ee w13 ⟨⟨P13, Q13, rfl, hp13⟩, hb13⟩; have K13 := Lib.hid (K12.out.below hb13 hl12); have Y13 := Lib.hid (Fr4.below Y12.out hb13 hy12); obtain ⟨_, m0, m1, m2, m3⟩ := K13.out; obtain ⟨y0, y1, y2, y3⟩ := Y13.out; have HP13 := Lib.hid hp13; have hl13 := Nat.lt_of_lt_of_le hl12 hb13.size; have hy13 := Nat.lt_of_lt_of_le hy12 hb13.size; clear hp13)
            | (go_at_call 14; (with_reducible refine Calls.mono (QB _ P8 Q8 P13 Q13 (R13.out _ hb13) HP13.out).out ?_); rintro ee w14 ⟨rfl, hb14⟩; obtain ⟨_, n0, n1, n2, n3⟩ := K13.out.below hb14 hl13; obtain ⟨z0, z1, z2, z3⟩ := Fr4.below Y13.out hb14 hy13))
        all_goals
          have hs14 := hs12.trans ((hb13.trans (hb14.mono hb13.size)).mono hs12.size)
          clear K12 Y12 K13 Y13 hb13 hb14 HP13 TB12 R13
          go_wp2_with fail
          go_ret
          exact ⟨rfl, hs14⟩
end Go.Proofs.Ytkhcfhhejmkikaa
