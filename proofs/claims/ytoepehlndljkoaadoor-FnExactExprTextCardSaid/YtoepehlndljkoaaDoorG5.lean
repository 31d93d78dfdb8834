/-
  The law FnExactExprText, walked.
-/
import Derived.Test.YtoepehlndljkoaaDoorFE
import Derived.Test.YtoepehlndljkoaaDoorG3
namespace Go.Proofs.YtoepehlndljkoaaDoor
open Go.RowKit
set_option maxRecDepth 100000

set_option maxHeartbeats 2000000 in
theorem fnExactExprText_walk (e : E) (A : Option Addr) (cap : Nat) (w : World) (hR : RdS w w.heap.size e.kids A) (hs : SmE e) (T : Tabs w) (N : NTabs w) (G : Sgn w) :
    Calls Tryd.prog 3 #[exV e A cap] w fun ee w' => ee = .returned (.bool true) ∧ Below w.heap.size w w' := by
  obtain ⟨c0, c1, c2, c3, hlt, hb⟩ := box4 w (.int .i64 e.op) (.int .i64 e.n) (.string e.name) (.slice A e.kids.length cap) 24
  have SZ := szExpr_any e hs A cap _ 1048576 (hR.on hb hb.size) (by omega) (by omega)
  by_cases hbig : 1048576 < bulkE e
  · rw [szR_no hbig] at SZ
    unfold exV at *
    replace SZ := Lib.hid SZ
    clear hR hs T N G hbig
    go_enter Tryd.func3, Tryd.ntmps3
    go_wp2_with fail
    (with_reducible refine Calls.mono SZ.out ?_)
    rintro ee w1 ⟨rfl, hb1⟩
    have hb2 := hb.trans (hb1.mono (Nat.le_of_lt hlt))
    go_wp2_with fail
    go_ret
    exact ⟨rfl, hb2⟩
  · rw [szR_yes hbig] at SZ
    have hl : bulkE e ≤ 1048576 := by omega
    have hge : (0 : Int) ≤ 1048576 - bulkE e := by omega
    have TO := fun W (h : Below w.heap.size w W) => Lib.hid (toExpr_any e hl A cap W (hR.on h h.size))
    have SP := fun W A' h => Lib.hid (specExprText_any e A' e.kids.length W h hl)
    have IM := fun W A' h h' => Lib.hid (implExprText_any e A' e.kids.length W h hl (T.below h') (N.below h') (G.below h'))
    have EQ := fun W A1 A2 h1 h2 => Lib.hid (eqExpr_self e hl A1 e.kids.length A2 e.kids.length W h1 h2)
    have HL := Lib.hid hl
    generalize textF e = p at *
    generalize bulkE e = bk at *
    unfold exV at *
    replace SZ := Lib.hid SZ
    clear hR hs T N G hbig
    have K0 := Lib.hid (show Bx4 _ w.heap.size _ _ _ _ from ⟨c0, c1, c2, c3⟩)
    go_enter Tryd.func3, Tryd.ntmps3
    go_wp2_with fail
    (with_reducible refine Calls.mono SZ.out ?_)
    rintro ee w1 ⟨rfl, hb1⟩
    have K1 := Lib.hid (K0.out.below hb1 hlt)
    obtain ⟨k0, k1, k2, k3⟩ := K1.out
    have hl1 := Nat.lt_of_lt_of_le hlt hb1.size
    have hbs1 := hb.trans (hb1.mono (Nat.le_of_lt hlt))
    clear c0 c1 c2 c3 hb hb1 SZ K0
    go_wp2_with fail
    (with_reducible refine Calls.mono (TO _ hbs1).out ?_)
    rintro ee w2 ⟨⟨A2, rfl, hp2⟩, hb2⟩
    unfold exV
    have K2 := Lib.hid (K1.out.below hb2 hl1)
    have hl2 := Nat.lt_of_lt_of_le hl1 hb2.size
    have hbs2 := hbs1.trans (hb2.mono hbs1.size)
    have SP1 := Lib.hid (SP w2 A2 hp2.between_rd).out
    clear k0 k1 k2 k3 hp2 hb2 hbs1 K1 SP
    go_wp2_with fail
    (with_reducible refine Calls.mono SP1.out ?_)
    rintro ee w3 ⟨rfl, hb3⟩
    have K3 := Lib.hid (K2.out.below hb3 hl2)
    obtain ⟨k0, k1, k2, k3⟩ := K3.out
    have hl3 := Nat.lt_of_lt_of_le hl2 hb3.size
    have hbs3 := hbs2.trans (hb3.mono hbs2.size)
    clear hb3 hbs2 K2 SP1
    go_wp2_with fail
    (with_reducible refine Calls.mono (TO _ hbs3).out ?_)
    rintro ee w4 ⟨⟨A4, rfl, hp4⟩, hb4⟩
    unfold exV
    have K4 := Lib.hid (K3.out.below hb4 hl3)
    have hl4 := Nat.lt_of_lt_of_le hl3 hb4.size
    have hbs4 := hbs3.trans (hb4.mono hbs3.size)
    have HP4 := Lib.hid hp4
    clear k0 k1 k2 k3 hp4 hb4 hbs3 K3
    go_wp2_with fail
    have hb5 := (Below.refl w4.heap.size w4).alloc (Nat.le_refl _) (.cells #[.int .i64 e.op, .int .i64 e.n, .string e.name, .slice A4 e.kids.length e.kids.length] 30)
    have X5 := Lib.hid (Bx4.new w4 (.int .i64 e.op) (.int .i64 e.n) (.string e.name) (.slice A4 e.kids.length e.kids.length) 30)
    have hx5 : w4.heap.size < (w4.alloc (.cells #[.int .i64 e.op, .int .i64 e.n, .string e.name, .slice A4 e.kids.length e.kids.length] 30)).heap.size := by rw [World.size_alloc]; omega
    generalize w4.alloc (.cells #[.int .i64 e.op, .int .i64 e.n, .string e.name, .slice A4 e.kids.length e.kids.length] 30) = w5 at *
    have K5 := Lib.hid (K4.out.below hb5 hl4)
    have hl5 := Nat.lt_of_lt_of_le hl4 hb5.size
    have hbs5 := hbs4.trans (hb5.mono hbs4.size)
    have IM1 := Lib.hid (IM w5 A4 (HP4.out.later hb5 (Nat.le_refl _) hb5.size).between_rd hbs5).out
    clear K4 IM
    (with_reducible refine Calls.mono IM1.out ?_)
    rintro ee w6 ⟨rfl, hb6⟩
    have K6 := Lib.hid (K5.out.below hb6 hl5)
    have X6 := Lib.hid (X5.out.below hb6 hx5)
    have hl6 := Nat.lt_of_lt_of_le hl5 hb6.size
    have hx6 := Nat.lt_of_lt_of_le hx5 hb6.size
    have hbs6 := hbs5.trans (hb6.mono hbs5.size)
    have hb46 := hb5.trans (hb6.mono hb5.size)
    clear hb6 hb5 hbs5 hbs4 K5 X5 IM1
    have q1 : (p.1.toList == p.1.toList) = true := by simp
    have q2 : (p.2 != p.2) = false := by simp
    go_wp2_with fail
    obtain ⟨k0, k1, k2, k3⟩ := K6.out
    obtain ⟨x0, x1, x2, x3⟩ := X6.out
    have TO6 := Lib.hid (TO w6.drew hbs6.drew).out
    have K6d := Lib.hid (show Bx4 w6.drew w.heap.size _ _ _ _ from K6.out)
    have X6d := Lib.hid (show Bx4 w6.drew w4.heap.size _ _ _ _ from X6.out)
    have R7 := Lib.hid (show ∀ w7, Below w6.drew.heap.size w6.drew w7 → RdS w7 w7.heap.size e.kids A4 from fun w7 h => (HP4.out.later (hb46.drew.trans (h.mono hb46.size)) (Nat.le_refl _) (Nat.le_trans hb46.size h.size)).between_rd)
    clear TO
    go_region_held3 (fun u => u.cell? ⟨w.heap.size, 0, none⟩ = some (.int .i64 e.op) ∧ u.cell? ⟨w.heap.size, 1, none⟩ = some (.int .i64 e.n) ∧ u.cell? ⟨w.heap.size, 2, none⟩ = some (.string e.name) ∧ u.cell? ⟨w.heap.size, 3, none⟩ = some (.slice A e.kids.length cap) ∧ u.cell? ⟨w4.heap.size, 0, none⟩ = some (.int .i64 e.op) ∧ u.cell? ⟨w4.heap.size, 1, none⟩ = some (.int .i64 e.n) ∧ u.cell? ⟨w4.heap.size, 2, none⟩ = some (.string e.name) ∧ u.cell? ⟨w4.heap.size, 3, none⟩ = some (.slice A4 e.kids.length e.kids.length)) (go_keep)
      (first
        | (go_at_call 7; (with_reducible refine Calls.mono TO6.out ?_); rintro ee w7 ⟨⟨A7, rfl, hp7⟩, hb7⟩; unfold exV; have hl7 := Nat.lt_of_lt_of_le hl6 hb7.size; have hx7 := Nat.lt_of_lt_of_le hx6 hb7.size; obtain ⟨m0, m1, m2, m3⟩ := K6d.out.below hb7 hl6; obtain ⟨y0, y1, y2, y3⟩ := X6d.out.below hb7 hx6; have HP7 := Lib.hid hp7; clear hp7)
        | (go_at_call 9; (with_reducible refine Calls.mono (EQ _ A4 A7 (R7.out _ hb7) HP7.out.between_rd).out ?_); rintro ee w8 ⟨rfl, hb8⟩; have n0 := (hb8.cell (p := ⟨w.heap.size, 0, none⟩) hl7).trans m0; have n1 := (hb8.cell (p := ⟨w.heap.size, 1, none⟩) hl7).trans m1; have n2 := (hb8.cell (p := ⟨w.heap.size, 2, none⟩) hl7).trans m2; have n3 := (hb8.cell (p := ⟨w.heap.size, 3, none⟩) hl7).trans m3; have z0 := (hb8.cell (p := ⟨w4.heap.size, 0, none⟩) hx7).trans y0; have z1 := (hb8.cell (p := ⟨w4.heap.size, 1, none⟩) hx7).trans y1; have z2 := (hb8.cell (p := ⟨w4.heap.size, 2, none⟩) hx7).trans y2; have z3 := (hb8.cell (p := ⟨w4.heap.size, 3, none⟩) hx7).trans y3))
    all_goals
      have hbs8 := hbs6.drew.trans ((hb7.mono hbs6.size).trans (hb8.mono (Nat.le_trans hbs6.size hb7.size)))
      go_wp2_with fail
      go_ret
      exact ⟨rfl, hbs8⟩
end Go.Proofs.YtoepehlndljkoaaDoor
