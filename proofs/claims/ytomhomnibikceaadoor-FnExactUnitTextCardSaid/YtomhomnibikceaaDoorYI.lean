/-
  The law FnExactUnitText, walked.
-/
import Derived.Test.YtomhomnibikceaaDoorYH
import Derived.Test.YtomhomnibikceaaDoorYE
import Derived.Test.YtomhomnibikceaaDoorNC
import Derived.Test.YtomhomnibikceaaDoorND
import Derived.Deep.RegionHeld3
namespace Go.Proofs.YtomhomnibikceaaDoor
open Go.RowKit
set_option maxRecDepth 100000

set_option maxHeartbeats 4000000 in
theorem fnExactUnitText_walk (x : Un) (v : Value) (w : World) (hV : UnV w (Lt w.heap.size) x v) (hm : SmUn x) (T0 : PowT w) (T1 : InsT w) (T2 : JmpT w) :
    Calls Tryd.prog 4 #[v] w fun ee w' => ee = .returned (.bool true) ∧ Below w.heap.size w w' := by
  have SZ0 := fun W (h : Below w.heap.size w W) => szUnit_any x hm v W 1048576 (hV.on h h.size) (by omega) (by omega)
  have TO0 := fun (hl : bulkUn x ≤ 1048576) W (h : Below w.heap.size w W) => toUnit_any x hl v W (hV.on h h.size)
  obtain ⟨A0, c0, rfl, _⟩ := hV
  have K0 := Lib.hid (BoxV.new w [.slice A0 x.codes.length c0] 24)
  have hlt : w.heap.size < (w.alloc (.cells #[.slice A0 x.codes.length c0] 24)).heap.size := by rw [World.size_alloc]; omega
  have hb : Below w.heap.size w (w.alloc (.cells #[.slice A0 x.codes.length c0] 24)) := (Below.refl _ _).alloc (Nat.le_refl _) _
  have SZ := SZ0 _ hb
  clear SZ0
  by_cases hbig : 1048576 < bulkUn x
  · rw [szR_no hbig] at SZ
    replace SZ := Lib.hid SZ
    clear TO0 hm T0 T1 T2 hbig
    go_enter Tryd.func4, Tryd.ntmps4
    go_wp2_with fail
    (with_reducible refine Calls.mono SZ.out ?_)
    rintro ee w1 ⟨rfl, hb1⟩
    have hb2 := hb.trans (hb1.mono (Nat.le_of_lt hlt))
    go_wp2_with fail
    go_ret
    exact ⟨rfl, hb2⟩
  rw [szR_yes hbig] at SZ
  have hl : bulkUn x ≤ 1048576 := by omega
  have hge : (0 : Int) ≤ 1048576 - bulkUn x := by omega
  have TO := fun W h => Lib.hid (TO0 hl W h)
  clear TO0
  have SP := fun v W h => Lib.hid (specUnitText_any x hl v W h)
  have IM := fun v W h hc h' => Lib.hid (implUnitText_any x hl v W h hc (T0.below h') (T1.below h') (T2.below h'))
  have EQ := fun v v' W h h' => Lib.hid (eqUnit_self x v v' W h h' (by omega))
  have HL := Lib.hid hl
  unfold TxRet at SP IM
  generalize hval : tx (unitTx x) = r at *
  generalize hbk : bulkUn x = bk at *
  unfold ToUnRet at TO
  replace SZ := Lib.hid SZ
  clear hm T0 T1 T2 hbig hl hval hbk
  go_enter Tryd.func4, Tryd.ntmps4
  go_wp2_with fail
  (with_reducible refine Calls.mono SZ.out ?_)
  rintro ee w1 ⟨rfl, hb1⟩
  have K1 := Lib.hid (K0.out.below hb1 hlt)
  have k0 := K1.out 0 _ rfl
  have hl1 := Nat.lt_of_lt_of_le hlt hb1.size
  have hbs1 := hb.trans (hb1.mono (Nat.le_of_lt hlt))
  clear hb hb1 SZ K0
  go_wp2_with fail
  (with_reducible refine Calls.mono (TO _ hbs1).out ?_)
  rintro ee w2 ⟨⟨B0_2, rfl, h0_2⟩, hb2⟩
  have K2 := Lib.hid (K1.out.below hb2 hl1)
  have hl2 := Nat.lt_of_lt_of_le hl1 hb2.size
  have hbs2 := hbs1.trans (hb2.mono hbs1.size)
  have SP1 := Lib.hid (SP _ w2 ⟨B0_2, x.codes.length, rfl, h0_2.lt (Nat.le_refl _)⟩).out
  clear k0 h0_2 hb2 hbs1 K1 SP
  go_wp2_with fail
  (with_reducible refine Calls.mono SP1.out ?_)
  rintro ee w3 ⟨rfl, hb3⟩
  have K3 := Lib.hid (K2.out.below hb3 hl2)
  have k0 := K3.out 0 _ rfl
  have hl3 := Nat.lt_of_lt_of_le hl2 hb3.size
  have hbs3 := hbs2.trans (hb3.mono hbs2.size)
  clear hb3 hbs2 K2 SP1
  go_wp2_with fail
  (with_reducible refine Calls.mono (TO _ hbs3).out ?_)
  rintro ee w4 ⟨⟨B0_4, rfl, h0_4⟩, hb4⟩
  have K4 := Lib.hid (K3.out.below hb4 hl3)
  have hl4 := Nat.lt_of_lt_of_le hl3 hb4.size
  have hbs4 := hbs3.trans (hb4.mono hbs3.size)
  have HP4 := Lib.hid (show UnV w4 (Between w4 w3.heap.size w4.heap.size) x _ from ⟨B0_4, x.codes.length, rfl, h0_4⟩)
  clear k0 h0_4 hb4 hbs3 K3
  go_wp2_with fail
  have hb5 := (Below.refl w4.heap.size w4).alloc (Nat.le_refl _) (.cells #[.slice B0_4 x.codes.length x.codes.length] 30)
  have X5 := Lib.hid (BoxV.new w4 [.slice B0_4 x.codes.length x.codes.length] 30)
  have hx5 : w4.heap.size < (w4.alloc (.cells #[.slice B0_4 x.codes.length x.codes.length] 30)).heap.size := by rw [World.size_alloc]; omega
  have e5 : w4.alloc (.cells [.slice B0_4 x.codes.length x.codes.length].toArray 30) = w4.alloc (.cells #[.slice B0_4 x.codes.length x.codes.length] 30) := rfl
  rw [e5] at X5
  clear e5
  generalize w4.alloc (.cells #[.slice B0_4 x.codes.length x.codes.length] 30) = w5 at *
  have K5 := Lib.hid (K4.out.below hb5 hl4)
  have hl5 := Nat.lt_of_lt_of_le hl4 hb5.size
  have hbs5 := hbs4.trans (hb5.mono hbs4.size)
  have IM1 := Lib.hid (IM _ w5 ((HP4.out.later hb5 (Nat.le_refl _) hb5.size).lt (Nat.le_refl _)) ⟨_, rfl⟩ hbs5).out
  clear K4 IM
  (with_reducible refine Calls.mono IM1.out ?_)
  rintro ee w6 ⟨rfl, hb6⟩
  have K6 := Lib.hid (K5.out.below hb6 hl5)
  have X6 := Lib.hid (X5.out.below hb6 hx5)
  have hl6 := Nat.lt_of_lt_of_le hl5 hb6.size
  have hx6 := Nat.lt_of_lt_of_le hx5 hb6.size
  have hbs6 := hbs5.trans (hb6.mono hbs5.size)
  have hb46 := hb5.trans (hb6.mono hb5.size)
  clear hb6 hb5 hbs5 hbs4 K5 X5 IM1
  have q1 : (r.toList == r.toList) = true := by simp
  go_wp2_with fail
  have k0 := K6.out 0 _ rfl
  have x0 := X6.out 0 _ rfl
  have TO6 := Lib.hid (TO w6.drew hbs6.drew).out
  have K6d := Lib.hid (show BoxV w6.drew w.heap.size _ from K6.out)
  have X6d := Lib.hid (show BoxV w6.drew w4.heap.size _ from X6.out)
  have R7 := Lib.hid (show ∀ w7, Below w6.drew.heap.size w6.drew w7 → UnV w7 (Lt w7.heap.size) x _ from fun w7 h => (HP4.out.later (hb46.drew.trans (h.mono hb46.size)) (Nat.le_refl _) (Nat.le_trans hb46.size h.size)).lt (Nat.le_refl _))
  clear TO
  go_region_held3 (fun u => u.cell? ⟨w.heap.size, 0, none⟩ = some (.slice A0 x.codes.length c0) ∧ u.cell? ⟨w4.heap.size, 0, none⟩ = some (.slice B0_4 x.codes.length x.codes.length)) (go_keep)
    (first
      | (go_at_call 8; (with_reducible refine Calls.mono TO6.out ?_); rintro ee w7 ⟨⟨B0_7, rfl, h0_7⟩, hb7⟩; have hl7 := Nat.lt_of_lt_of_le hl6 hb7.size; have hx7 := Nat.lt_of_lt_of_le hx6 hb7.size; have m0 := K6d.out.below hb7 hl6 0 _ rfl; have y0 := X6d.out.below hb7 hx6 0 _ rfl; have HP7 := Lib.hid (show UnV w7 (Between w7 w6.drew.heap.size w7.heap.size) x _ from ⟨B0_7, x.codes.length, rfl, h0_7⟩); clear h0_7)
      | (go_at_call 11; (with_reducible refine Calls.mono (EQ _ _ _ (R7.out _ hb7) (HP7.out.lt (Nat.le_refl _))).out ?_); rintro ee w8 ⟨rfl, hb8⟩; have n0 := (hb8.cell (p := ⟨w.heap.size, 0, none⟩) hl7).trans m0; have z0 := (hb8.cell (p := ⟨w4.heap.size, 0, none⟩) hx7).trans y0))
  all_goals
    have hbs8 := hbs6.drew.trans ((hb7.mono hbs6.size).trans (hb8.mono (Nat.le_trans hbs6.size hb7.size)))
    go_wp2_with fail
    go_ret
    exact ⟨rfl, hbs8⟩
end Go.Proofs.YtomhomnibikceaaDoor
