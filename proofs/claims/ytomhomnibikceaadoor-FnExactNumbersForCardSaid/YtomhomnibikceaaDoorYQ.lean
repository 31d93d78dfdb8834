/-
  The law FnExactNumbersFor, walked.
-/
import Derived.Test.YtomhomnibikceaaDoorYP
import Derived.Test.YtomhomnibikceaaDoorYK
import Derived.Test.YtomhomnibikceaaDoorND
import Derived.Deep.RegionHeld3
namespace Go.Proofs.YtomhomnibikceaaDoor
open Go.RowKit
set_option maxRecDepth 100000

set_option maxHeartbeats 8000000 in
theorem fnExactNumbersFor_walk (x : Un) (v : Value) (w : World) (hV : UnV w (Lt w.heap.size) x v) (hm : SmUn x) (T0 : InsT w) (T1 : JmpT w) :
    Calls Tryd.prog 3 #[v] w fun ee w' => ee = .returned (.bool true) ∧ Below w.heap.size w w' := by
  have SZ0 := fun W (h : Below w.heap.size w W) => szUnit_any x hm v W 1048576 (hV.on h h.size) (by omega) (by omega)
  have TO0 := fun (hl : bulkUn x ≤ 1048576) W (h : Below w.heap.size w W) => toUnit_any x hl v W (hV.on h h.size)
  obtain ⟨A, cap, rfl, _⟩ := hV
  have K0 := Lib.hid (BoxV.new w [.slice A x.codes.length cap] 24)
  have hlt : w.heap.size < (w.alloc (.cells #[.slice A x.codes.length cap] 24)).heap.size := by rw [World.size_alloc]; omega
  have hb : Below w.heap.size w (w.alloc (.cells #[.slice A x.codes.length cap] 24)) := (Below.refl _ _).alloc (Nat.le_refl _) _
  have SZ := SZ0 _ hb
  clear SZ0
  by_cases hbig : 1048576 < bulkUn x
  · rw [szR_no hbig] at SZ
    replace SZ := Lib.hid SZ
    clear TO0 hm hbig T0 T1
    go_enter Tryd.func3, Tryd.ntmps3
    go_wp2_with fail
    (with_reducible refine Calls.mono SZ.out ?_)
    rintro ee w1 ⟨rfl, hb1⟩
    have hb2 := hb.trans (hb1.mono (Nat.le_of_lt hlt))
    go_wp2_with fail
    go_ret
    exact ⟨rfl, hb2⟩
  rw [szR_yes hbig] at SZ
  have hl : bulkUn x ≤ 1048576 := by omega
  have hge : (0 : Int) ≤ 1048576 - bulkUn x := by omega
  have TO := fun W h => Lib.hid (TO0 hl W h)
  clear TO0
  have SP := fun v W h => Lib.hid (specNumbersFor_any x hl v W h)
  have IM := fun v W h hc h' => Lib.hid (implNumbersFor_any x hl v W h hc (T0.below h') (T1.below h'))
  have EQ := fun v v' W h h' => Lib.hid (eqUnit_self x v v' W h h' (by omega))
  have MC := fun lo hi A c W hlo h => Lib.hid (markUnit_soft lo hi x.codes hl A c W hlo h)
  have HBK := Lib.hid (show bulkR bulkCd x.codes ≤ 1048576 from hl)
  have hM := numM_le x
  have hN := numN_le x
  unfold ToUnRet at TO
  generalize numM x = m at *
  generalize numN x = n at *
  have EI := fun A c A' c' W h h' => Lib.hid (eqIntSS_any m n hM hN A c A' c' W h h')
  have MO := fun base v W h => Lib.hid (markIntSS_any base m n v hN W h)
  have HD := fun base v W h => Lib.hid (heldIntSS_any base m n v hN W h)
  have RD := Lib.hid (fun base v W (h : GS W base m n v false) => GS.rd h hN)
  have hr0 : (0 : Int) ≤ (1 : Int) + (m * n : Nat) := by omega
  generalize (1 : Int) + (m * n : Nat) = r at *
  have qq1 : (r != r) = false := by simp
  unfold BoolB at EI
  generalize bulkUn x = bk at *
  replace SZ := Lib.hid SZ
  clear hm hbig hl T0 T1 hM hN
  go_enter Tryd.func3, Tryd.ntmps3
  go_wp2_with fail
  (with_reducible refine Calls.mono SZ.out ?_)
  rintro ee w1 ⟨rfl, hb1⟩
  have K1 := Lib.hid (K0.out.below hb1 hlt)
  have hl1 := Nat.lt_of_lt_of_le hlt hb1.size
  have hbs1 := hb.trans (hb1.mono (Nat.le_of_lt hlt))
  have k0 := K1.out 0 _ rfl
  clear hb hb1 SZ K0
  go_wp2_with fail
  (with_reducible refine Calls.mono (TO _ hbs1).out ?_)
  rintro ee w2 ⟨⟨B2, rfl, h2⟩, hb2⟩
  have K1b := Lib.hid K1.out
  have H12 := Lib.hid hb2
  have K2 := Lib.hid (K1.out.below hb2 hl1)
  have hl2 := Nat.lt_of_lt_of_le hl1 hb2.size
  have hbs2 := hbs1.trans (hb2.mono hbs1.size)
  have SP1 := Lib.hid (SP _ w2 ⟨B2, x.codes.length, rfl, h2.lt (Nat.le_refl _)⟩).out
  clear k0 h2 hb2 hbs1 K1 SP
  go_wp2_with fail
  (with_reducible refine Calls.mono SP1.out ?_)
  rintro ee w3 ⟨⟨Aw, cw, rfl, nw3⟩, hb3⟩
  have H13 := Lib.hid (H12.out.trans (hb3.mono H12.out.size))
  have K3 := Lib.hid (K2.out.below hb3 hl2)
  have k0 := K3.out 0 _ rfl
  have hl3 := Nat.lt_of_lt_of_le hl2 hb3.size
  have hbs3 := hbs2.trans (hb3.mono hbs2.size)
  have NW := Lib.hid nw3
  clear hb3 hbs2 K2 SP1 nw3
  go_wp2_with fail
  (with_reducible refine Calls.mono (TO _ hbs3).out ?_)
  rintro ee w4 ⟨⟨B4, rfl, h4⟩, hb4⟩
  have hbs4 := hbs3.trans (hb4.mono hbs3.size)
  have HP4 := Lib.hid (show CdS w4 (Between w4 w3.heap.size w4.heap.size) x.codes B4 from h4)
  have hz34 : w3.heap.size ≤ w4.heap.size := hb4.size
  clear k0 h4
  go_wp2_with fail
  have hb5 := (Below.refl w4.heap.size w4).alloc (Nat.le_refl _) (.cells #[.slice B4 x.codes.length x.codes.length] 30)
  have X5 := Lib.hid (BoxV.new w4 [.slice B4 x.codes.length x.codes.length] 30)
  have hx5 : w4.heap.size < (w4.alloc (.cells #[.slice B4 x.codes.length x.codes.length] 30)).heap.size := by rw [World.size_alloc]; omega
  have e5 : w4.alloc (.cells [.slice B4 x.codes.length x.codes.length].toArray 30) = w4.alloc (.cells #[.slice B4 x.codes.length x.codes.length] 30) := rfl
  rw [e5] at X5
  clear e5
  generalize w4.alloc (.cells #[.slice B4 x.codes.length x.codes.length] 30) = w5 at *
  have H35 := Lib.hid (show Below w3.heap.size w3 w5 from hb4.trans (hb5.mono hz34))
  have hbs5 := hbs4.trans (hb5.mono hbs4.size)
  have IM1 := Lib.hid (IM _ w5 ⟨B4, x.codes.length, rfl, (HP4.out.later hb5 (Nat.le_refl _) hb5.size).lt (Nat.le_refl _)⟩ ⟨_, rfl⟩ hbs5).out
  have hz5 := hb5.size
  (with_reducible refine Calls.mono IM1.out ?_)
  rintro ee w6 ⟨⟨vg, rfl, hg6⟩, hb6⟩
  have HZ56 := Lib.hid hb6.size
  have X6 := Lib.hid (X5.out.below hb6 hx5)
  have hx6 := Nat.lt_of_lt_of_le hx5 hb6.size
  have H36 := Lib.hid (H35.out.trans (hb6.mono (Nat.le_trans hz34 hz5)))
  have H46 := Lib.hid (hb5.trans (hb6.mono hz5))
  obtain ⟨Ag, cg, evg, ng6⟩ := RD.out _ _ _ hg6
  subst evg
  have OG6 := Lib.hid hg6
  have E6 := Lib.hid (EI Ag cg Aw cw w6 ng6 (NW.out.on H36.out H36.out.size)).out
  clear IM1 ng6 hg6 hb6 hb5 X5 hx5 H35 K3 hl3 hbs5
  have hz6 := H46.out.size
  go_wp2_with fail
  (with_reducible refine Calls.mono E6.out ?_)
  rintro ee w7 ⟨rfl, hb7⟩
  have X7 := Lib.hid (X6.out.below hb7 hx6)
  have hx7 := Nat.lt_of_lt_of_le hx6 hb7.size
  have H37 := Lib.hid (H36.out.trans (hb7.mono (Nat.le_trans hz34 hz6)))
  have H47 := Lib.hid (H46.out.trans (hb7.mono hz6))
  have OG7 := Lib.hid (OG6.out.on hb7)
  have hbs7 := hbs3.trans (H37.out.mono hbs3.size)
  have hz57 : w5.heap.size ≤ w7.heap.size := Nat.le_trans HZ56.out hb7.size
  have hz37 : w3.heap.size ≤ w7.heap.size := H37.out.size
  have hz47 : w4.heap.size ≤ w7.heap.size := H47.out.size
  clear E6 X6 hx6 H36 H46 OG6 hb7
  have x0 := X7.out 0 _ rfl
  have hk7 : Below w.heap.size w w7.drew := hbs7.drew
  have TO7 := Lib.hid (TO w7.drew hk7).out
  have BX := Lib.hid (show ∀ W, Below w1.heap.size w1 W → BoxV W w.heap.size [.slice A x.codes.length cap] from fun W h => K1b.out.below h hl1)
  have H17 := Lib.hid (H13.out.trans (H37.out.mono H13.out.size))
  have k0 := (BX.out w7 H17.out) 0 _ rfl
  have hw7 : w.heap.size < w7.heap.size := Nat.lt_of_lt_of_le hl1 H17.out.size
  have R7 := Lib.hid (show ∀ W, Below w7.drew.heap.size w7.drew W → UnV W (Lt W.heap.size) x _ from fun W h => ⟨B4, x.codes.length, rfl, (HP4.out.later (H47.out.drew.trans (h.mono hz47)) (Nat.le_refl _) (Nat.le_trans hz47 h.size)).lt (Nat.le_refl _)⟩)
  go_wp2_with fail
  go_region_held3 (fun u => u.cell? ⟨w.heap.size, 0, none⟩ = some (.slice A x.codes.length cap) ∧ u.cell? ⟨w4.heap.size, 0, none⟩ = some (.slice B4 x.codes.length x.codes.length)) (go_keep)
    (first
      | (go_at_call 8; (with_reducible refine Calls.mono TO7.out ?_); rintro ee w8 ⟨⟨B8, rfl, h8⟩, hb8⟩; have m0 := (hb8.cell (p := ⟨w.heap.size, 0, none⟩) hw7).trans k0; have n0 := (hb8.cell (p := ⟨w4.heap.size, 0, none⟩) hx7).trans x0; have HP8 := Lib.hid (show UnV w8 (Lt w8.heap.size) x _ from ⟨B8, x.codes.length, rfl, h8.lt (Nat.le_refl _)⟩); clear h8)
      | (go_at_call 11; (with_reducible refine Calls.mono (EQ _ _ _ (R7.out _ hb8) HP8.out).out ?_); rintro ee w9 ⟨rfl, hb9⟩; have p0 := (hb9.cell (p := ⟨w.heap.size, 0, none⟩) (Nat.lt_of_lt_of_le hw7 hb8.size)).trans m0; have q0 := (hb9.cell (p := ⟨w4.heap.size, 0, none⟩) (Nat.lt_of_lt_of_le hx7 hb8.size)).trans n0))
  all_goals
    have hb79 : Below w7.heap.size w7 w9 := (Below.refl w7.heap.size w7).drew.trans (hb8.trans (hb9.mono hb8.size))
    clear hb8 hb9 HP8 TO7 R7 k0 x0 m0 n0 p0
    have H39 := Lib.hid (H37.out.trans (hb79.mono hz37))
    have H49 := Lib.hid (H47.out.trans (hb79.mono hz47))
    have OG9 := Lib.hid (OG7.out.on hb79)
    have hz39 : w3.heap.size ≤ w9.heap.size := H39.out.size
    have hz59 : w5.heap.size ≤ w9.heap.size := Nat.le_trans hz57 hb79.size
    have BW9 := Lib.hid ((HP4.out.later H49.out (Nat.le_refl _) (Nat.le_refl _)).cdW HBK.out)
    have MC9 := Lib.hid (MC w3.heap.size w4.heap.size B4 x.codes.length w9 hz39 BW9.out).out
    clear hb79
    go_wp2_with fail
    (with_reducible refine Calls.mono MC9.out ?_)
    rintro ee w10 ⟨⟨k', rfl, hk0, hk1⟩, hs10⟩
    have hb10 : Below w3.heap.size w9 w10 := hs10.below
    have H310 := Lib.hid (H39.out.trans hb10)
    have hz910 := hb10.size
    have OG10 := Lib.hid (show GS w10 w5.heap.size m n (.slice Ag m cg) false from OG9.out.same (fun g hg1 hg2 => hs10.same g hg2 (fun e => by omega)))
    obtain ⟨Ag2, cg2, evg2, ng10⟩ := RD.out _ _ _ OG10.out
    injection evg2 with eg1 _ eg2
    subst eg1
    subst eg2
    have E10 := Lib.hid (EI Ag cg Aw cw w10 ng10 (NW.out.on H310.out H310.out.size)).out
    clear hs10 MC9 BW9 OG9 H39 H49 q0 ng10
    have hz510 : w5.heap.size ≤ w10.heap.size := Nat.le_trans hz59 hz910
    go_wp2_with fail
    (with_reducible refine Calls.mono E10.out ?_)
    rintro ee w11 ⟨rfl, hb11⟩
    have OG11 := Lib.hid (OG10.out.on hb11)
    have H311 := Lib.hid (H310.out.trans (hb11.mono H310.out.size))
    have hz511 : w5.heap.size ≤ w11.heap.size := Nat.le_trans hz510 hb11.size
    have M11 := Lib.hid (MO w5.heap.size (.slice Ag m cg) w11 OG11.out).out
    clear hb11 E10 OG10 H310
    go_wp2_with fail
    (with_reducible refine Calls.mono M11.out ?_)
    rintro ee w12 ⟨rfl, hg12, hb12⟩
    have hz35 : w3.heap.size ≤ w5.heap.size := Nat.le_trans hz34 hz5
    have H312 := Lib.hid (H311.out.trans (hb12.mono hz35))
    have OG12 := Lib.hid hg12
    have D12 := Lib.hid (HD w5.heap.size (.slice Ag m cg) w12 hg12).out
    clear hb12 M11 OG11 H311 hg12
    go_wp2_with fail
    (with_reducible refine Calls.mono D12.out ?_)
    rintro ee w13 ⟨rfl, rfl⟩
    have hbs13 : Below w.heap.size w w13 := hbs3.trans (H312.out.mono hbs3.size)
    have H113 := Lib.hid (H13.out.trans (H312.out.mono H13.out.size))
    have k0 := (BX.out w13 H113.out) 0 _ rfl
    clear D12
    go_wp2_with fail
    (with_reducible refine Calls.mono (TO _ hbs13).out ?_)
    rintro ee w14 ⟨⟨B14, rfl, h14⟩, hb14⟩
    have hbs14 := hbs13.trans (hb14.mono hbs13.size)
    have IM14 := Lib.hid (IM _ w14 ⟨B14, x.codes.length, rfl, h14.lt (Nat.le_refl _)⟩ ⟨_, rfl⟩ hbs14).out
    have OG14 := Lib.hid (OG12.out.on hb14)
    have H314 := Lib.hid (H312.out.trans (hb14.mono H312.out.size))
    clear h14 hb14 OG12 k0
    go_wp2_with fail
    (with_reducible refine Calls.mono IM14.out ?_)
    rintro ee w15 ⟨⟨vh, rfl, hh15⟩, hb15⟩
    obtain ⟨Ah, ch, evh, nh15⟩ := RD.out _ _ _ hh15
    subst evh
    have H315 := Lib.hid (H314.out.trans (hb15.mono H314.out.size))
    have OG15 := Lib.hid (OG14.out.on hb15)
    have E15 := Lib.hid (EI Ah ch Aw cw w15 nh15 (NW.out.on H315.out H315.out.size)).out
    have hbs15 := hbs14.trans (hb15.mono hbs14.size)
    clear IM14 hh15 nh15 hb15 OG14 H314
    go_wp2_with fail
    (with_reducible refine Calls.mono E15.out ?_)
    rintro ee w16 ⟨rfl, hb16⟩
    have D16 := Lib.hid (HD w5.heap.size (.slice Ag m cg) w16 (OG15.out.on hb16)).out
    have hbs16 := hbs15.trans (hb16.mono hbs15.size)
    clear E15 hb16
    go_wp2_with fail
    (with_reducible refine Calls.mono D16.out ?_)
    rintro ee w17 ⟨rfl, rfl⟩
    go_wp2_with fail
    go_ret
    exact ⟨rfl, hbs16⟩
end Go.Proofs.YtomhomnibikceaaDoor
