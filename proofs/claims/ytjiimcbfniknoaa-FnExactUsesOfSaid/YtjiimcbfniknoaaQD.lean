/-
  The law FnExactUsesOf, walked.
-/
import Derived.Test.YtjiimcbfniknoaaQC
import Derived.Test.YtjiimcbfniknoaaND
import Derived.Deep.RegionHeld3
namespace Go.Proofs.Ytjiimcbfniknoaa
open Go.RowKit
set_option maxRecDepth 100000

theorem ownN_still {base : Nat} {w w' : World} {l : List Int} {v : Value} (h : OwnN base w l v) (hs : ∀ g, base ≤ g → g < w.heap.size → w'.heap[g]? = w.heap[g]?) {lo : Nat} (_ : Below lo w w') : OwnN base w' l v := by
  refine ⟨h.1, ?_⟩
  rcases h.2 with e | ⟨g, cap, cur, e, hg, hh, r⟩
  · exact .inl e
  · exact .inr ⟨g, cap, cur, e, hg, by rw [hs g hg (Array.getElem?_eq_some_iff.1 hh).1]; exact hh, r⟩
set_option maxHeartbeats 8000000 in
theorem fnExactUsesOf_walk (x : Ik) (v : Value) (w : World) (hV : IkV w (Lt w.heap.size) x v) (hm : SmIk x) :
    Calls Try.prog 3 #[v] w fun ee w' => ee = .returned (.bool true) ∧ Below w.heap.size w w' := by
  have SZ0 := fun W (h : Below w.heap.size w W) => szIns_any x hm v W 1048576 (hV.on h h.size) (by omega) (by omega)
  have TO0 := fun (hl : bulkIk x ≤ 1048576) W (h : Below w.heap.size w W) => toIns_any x hl v W (hV.on h h.size)
  obtain ⟨A, cap, rfl, _⟩ := hV
  have K0 := Lib.hid (BoxV.new w [.int .i64 x.op, .int .i64 x.to, .slice A x.args.length cap, .int .i64 x.n] 24)
  have hlt : w.heap.size < (w.alloc (.cells #[.int .i64 x.op, .int .i64 x.to, .slice A x.args.length cap, .int .i64 x.n] 24)).heap.size := by rw [World.size_alloc]; omega
  have hb : Below w.heap.size w (w.alloc (.cells #[.int .i64 x.op, .int .i64 x.to, .slice A x.args.length cap, .int .i64 x.n] 24)) := (Below.refl _ _).alloc (Nat.le_refl _) _
  have SZ := SZ0 _ hb
  clear SZ0
  by_cases hbig : 1048576 < bulkIk x
  · rw [szR_no hbig] at SZ
    replace SZ := Lib.hid SZ
    clear TO0 hm hbig
    go_enter Try.func3, Try.ntmps3
    go_wp2_with fail
    (with_reducible refine Calls.mono SZ.out ?_)
    rintro ee w1 ⟨rfl, hb1⟩
    have hb2 := hb.trans (hb1.mono (Nat.le_of_lt hlt))
    go_wp2_with fail
    go_ret
    exact ⟨rfl, hb2⟩
  rw [szR_yes hbig] at SZ
  have hl : bulkIk x ≤ 1048576 := by omega
  have hge : (0 : Int) ≤ 1048576 - bulkIk x := by omega
  have hbl : x.args.length ≤ 1048576 := hl
  have hpl : (usesTo x.args x.args.length).length ≤ 1048576 := Nat.le_trans (usesTo_len _ _) hbl
  have TO := fun W h => Lib.hid (TO0 hl W h)
  clear TO0
  have SP := fun A c W h => Lib.hid (specUses_any x.args hbl x.op x.to x.n A c W h)
  have IM := fun A c W h => Lib.hid (implUses_all x.args hbl x.op x.to x.n A c W h)
  have EQ := fun v v' W h h' => Lib.hid (eqIns_self x v v' W h h' (by omega))
  have MC := fun lo hi A c W hlo h => Lib.hid (markIns_soft lo hi x.op x.to x.n x.args.length hbl A c W hlo h)
  unfold ToIkRet at TO
  unfold PRetS at SP
  unfold PRet at IM
  generalize usesTo x.args x.args.length = pl at *
  have EI := fun A c A' c' W h h' => Lib.hid (eqIntS_self pl A c A' c' W h h' (by omega))
  have MO := fun base A c W h h' => Lib.hid (markOwn_any base pl A c W h hpl h')
  have HD := fun A c W h => Lib.hid (heldIntS_any pl.length A c W h hpl)
  generalize bulkIk x = bk at *
  replace SZ := Lib.hid SZ
  clear hm hbig hl
  go_enter Try.func3, Try.ntmps3
  go_wp2_with fail
  (with_reducible refine Calls.mono SZ.out ?_)
  rintro ee w1 ⟨rfl, hb1⟩
  have K1 := Lib.hid (K0.out.below hb1 hlt)
  have hl1 := Nat.lt_of_lt_of_le hlt hb1.size
  have hbs1 := hb.trans (hb1.mono (Nat.le_of_lt hlt))
  have k0 := K1.out 0 _ rfl
  have k1 := K1.out 1 _ rfl
  have k2 := K1.out 2 _ rfl
  have k3 := K1.out 3 _ rfl
  clear hb hb1 SZ K0
  go_wp2_with fail
  (with_reducible refine Calls.mono (TO _ hbs1).out ?_)
  rintro ee w2 ⟨⟨B2, rfl, h2⟩, hb2⟩
  have K1b := Lib.hid K1.out
  have H12 := Lib.hid hb2
  have K2 := Lib.hid (K1.out.below hb2 hl1)
  have hl2 := Nat.lt_of_lt_of_le hl1 hb2.size
  have hbs2 := hbs1.trans (hb2.mono hbs1.size)
  have SP1 := Lib.hid (SP B2 x.args.length w2 (h2.lt (Nat.le_refl _))).out
  clear k0 k1 k2 k3 h2 hb2 hbs1 K1 SP
  go_wp2_with fail
  (with_reducible refine Calls.mono SP1.out ?_)
  rintro ee w3 ⟨⟨vw, rfl, hw3⟩, hb3⟩
  obtain ⟨Aw, cw, rfl, nw3⟩ := hw3.1.slice
  have H13 := Lib.hid (H12.out.trans (hb3.mono H12.out.size))
  have K3 := Lib.hid (K2.out.below hb3 hl2)
  have k0 := K3.out 0 _ rfl
  have k1 := K3.out 1 _ rfl
  have k2 := K3.out 2 _ rfl
  have k3 := K3.out 3 _ rfl
  have hl3 := Nat.lt_of_lt_of_le hl2 hb3.size
  have hbs3 := hbs2.trans (hb3.mono hbs2.size)
  have NW := Lib.hid (nw3.lt (B := w3.heap.size) (Nat.le_refl _))
  clear hb3 hbs2 K2 SP1 hw3 nw3
  go_wp2_with fail
  (with_reducible refine Calls.mono (TO _ hbs3).out ?_)
  rintro ee w4 ⟨⟨B4, rfl, h4⟩, hb4⟩
  have hbs4 := hbs3.trans (hb4.mono hbs3.size)
  have HP4 := Lib.hid (show NumS w4 (Between w4 w3.heap.size w4.heap.size) x.args B4 from h4)
  have hz34 : w3.heap.size ≤ w4.heap.size := hb4.size
  clear k0 k1 k2 k3 h4
  go_wp2_with fail
  have hb5 := (Below.refl w4.heap.size w4).alloc (Nat.le_refl _) (.cells #[.int .i64 x.op, .int .i64 x.to, .slice B4 x.args.length x.args.length, .int .i64 x.n] 27)
  have X5 := Lib.hid (BoxV.new w4 [.int .i64 x.op, .int .i64 x.to, .slice B4 x.args.length x.args.length, .int .i64 x.n] 27)
  have hx5 : w4.heap.size < (w4.alloc (.cells #[.int .i64 x.op, .int .i64 x.to, .slice B4 x.args.length x.args.length, .int .i64 x.n] 27)).heap.size := by rw [World.size_alloc]; omega
  have e5 : w4.alloc (.cells [.int .i64 x.op, .int .i64 x.to, .slice B4 x.args.length x.args.length, .int .i64 x.n].toArray 27) = w4.alloc (.cells #[.int .i64 x.op, .int .i64 x.to, .slice B4 x.args.length x.args.length, .int .i64 x.n] 27) := rfl
  rw [e5] at X5
  clear e5
  generalize w4.alloc (.cells #[.int .i64 x.op, .int .i64 x.to, .slice B4 x.args.length x.args.length, .int .i64 x.n] 27) = w5 at *
  have H35 := Lib.hid (show Below w3.heap.size w3 w5 from hb4.trans (hb5.mono hz34))
  have IM1 := Lib.hid (IM B4 x.args.length w5 ((HP4.out.later hb5 (Nat.le_refl _) hb5.size).lt (Nat.le_refl _))).out
  have hz5 := hb5.size
  (with_reducible refine Calls.mono IM1.out ?_)
  rintro ee w6 ⟨⟨vg, rfl, hg6⟩, hb6⟩
  obtain ⟨Ag, cg, rfl, ng6⟩ := hg6.slice
  have X6 := Lib.hid (X5.out.below hb6 hx5)
  have hx6 := Nat.lt_of_lt_of_le hx5 hb6.size
  have HZ56 := Lib.hid hb6.size
  have H36 := Lib.hid (H35.out.trans (hb6.mono (Nat.le_trans hz34 hz5)))
  have H46 := Lib.hid (hb5.trans (hb6.mono hz5))
  have NG6 := Lib.hid ng6
  have OG6 := Lib.hid hg6
  have E6 := Lib.hid (EI Ag cg Aw cw w6 (ng6.lt (Nat.le_refl _)) (NW.out.on H36.out H36.out.size)).out
  clear IM1 ng6 hg6 hb6 hb5 X5 hx5 H35 K3 hl3
  have hz6 := H46.out.size
  go_wp2_with fail
  (with_reducible refine Calls.mono E6.out ?_)
  rintro ee w7 ⟨rfl, hb7⟩
  have X7 := Lib.hid (X6.out.below hb7 hx6)
  have hx7 := Nat.lt_of_lt_of_le hx6 hb7.size
  have H37 := Lib.hid (H36.out.trans (hb7.mono (Nat.le_trans hz34 hz6)))
  have H47 := Lib.hid (H46.out.trans (hb7.mono hz6))
  have NG7 := Lib.hid (NG6.out.later hb7 (Nat.le_refl _) hb7.size)
  have OG7 := Lib.hid (ownN_below OG6.out hb7)
  have hbs7 := hbs3.trans (H37.out.mono hbs3.size)
  have hz57 : w5.heap.size ≤ w7.heap.size := Nat.le_trans HZ56.out hb7.size
  have hz37 : w3.heap.size ≤ w7.heap.size := H37.out.size
  have hz47 : w4.heap.size ≤ w7.heap.size := H47.out.size
  clear E6 X6 hx6 H36 H46 NG6 OG6 hb7
  have x0 := X7.out 0 _ rfl
  have x1 := X7.out 1 _ rfl
  have x2 := X7.out 2 _ rfl
  have x3 := X7.out 3 _ rfl
  have hk7 : Below w.heap.size w w7.drew := hbs7.drew
  have TO7 := Lib.hid (TO w7.drew hk7).out
  have BX := Lib.hid (show ∀ W, Below w1.heap.size w1 W → BoxV W w.heap.size [.int .i64 x.op, .int .i64 x.to, .slice A x.args.length cap, .int .i64 x.n] from fun W h => K1b.out.below h hl1)
  have H17 := Lib.hid (H13.out.trans (H37.out.mono H13.out.size))
  have k0 := (BX.out w7 H17.out) 0 _ rfl
  have k1 := (BX.out w7 H17.out) 1 _ rfl
  have k2 := (BX.out w7 H17.out) 2 _ rfl
  have k3 := (BX.out w7 H17.out) 3 _ rfl
  have hw7 : w.heap.size < w7.heap.size := Nat.lt_of_lt_of_le hl1 H17.out.size
  have R7 := Lib.hid (show ∀ W, Below w7.drew.heap.size w7.drew W → IkV W (Lt W.heap.size) x _ from fun W h => ⟨B4, x.args.length, rfl, (HP4.out.later (H47.out.drew.trans (h.mono hz47)) (Nat.le_refl _) (Nat.le_trans hz47 h.size)).lt (Nat.le_refl _)⟩)
  go_wp2_with fail
  go_region_held3 (fun u => u.cell? ⟨w.heap.size, 0, none⟩ = some (.int .i64 x.op) ∧ u.cell? ⟨w.heap.size, 1, none⟩ = some (.int .i64 x.to) ∧ u.cell? ⟨w.heap.size, 2, none⟩ = some (.slice A x.args.length cap) ∧ u.cell? ⟨w.heap.size, 3, none⟩ = some (.int .i64 x.n) ∧ u.cell? ⟨w4.heap.size, 0, none⟩ = some (.int .i64 x.op) ∧ u.cell? ⟨w4.heap.size, 1, none⟩ = some (.int .i64 x.to) ∧ u.cell? ⟨w4.heap.size, 2, none⟩ = some (.slice B4 x.args.length x.args.length) ∧ u.cell? ⟨w4.heap.size, 3, none⟩ = some (.int .i64 x.n)) (go_keep)
    (first
      | (go_at_call 8; (with_reducible refine Calls.mono TO7.out ?_); rintro ee w8 ⟨⟨B8, rfl, h8⟩, hb8⟩; have m0 := (hb8.cell (p := ⟨w.heap.size, 0, none⟩) hw7).trans k0; have m1 := (hb8.cell (p := ⟨w.heap.size, 1, none⟩) hw7).trans k1; have m2 := (hb8.cell (p := ⟨w.heap.size, 2, none⟩) hw7).trans k2; have m3 := (hb8.cell (p := ⟨w.heap.size, 3, none⟩) hw7).trans k3; have n0 := (hb8.cell (p := ⟨w4.heap.size, 0, none⟩) hx7).trans x0; have n1 := (hb8.cell (p := ⟨w4.heap.size, 1, none⟩) hx7).trans x1; have n2 := (hb8.cell (p := ⟨w4.heap.size, 2, none⟩) hx7).trans x2; have n3 := (hb8.cell (p := ⟨w4.heap.size, 3, none⟩) hx7).trans x3; have HP8 := Lib.hid (show IkV w8 (Lt w8.heap.size) x _ from ⟨B8, x.args.length, rfl, h8.lt (Nat.le_refl _)⟩); clear h8)
      | (go_at_call 11; (with_reducible refine Calls.mono (EQ _ _ _ (R7.out _ hb8) HP8.out).out ?_); rintro ee w9 ⟨rfl, hb9⟩; have p0 := (hb9.cell (p := ⟨w.heap.size, 0, none⟩) (Nat.lt_of_lt_of_le hw7 hb8.size)).trans m0; have p1 := (hb9.cell (p := ⟨w.heap.size, 1, none⟩) (Nat.lt_of_lt_of_le hw7 hb8.size)).trans m1; have p2 := (hb9.cell (p := ⟨w.heap.size, 2, none⟩) (Nat.lt_of_lt_of_le hw7 hb8.size)).trans m2; have p3 := (hb9.cell (p := ⟨w.heap.size, 3, none⟩) (Nat.lt_of_lt_of_le hw7 hb8.size)).trans m3; have q0 := (hb9.cell (p := ⟨w4.heap.size, 0, none⟩) (Nat.lt_of_lt_of_le hx7 hb8.size)).trans n0; have q1 := (hb9.cell (p := ⟨w4.heap.size, 1, none⟩) (Nat.lt_of_lt_of_le hx7 hb8.size)).trans n1; have q2 := (hb9.cell (p := ⟨w4.heap.size, 2, none⟩) (Nat.lt_of_lt_of_le hx7 hb8.size)).trans n2; have q3 := (hb9.cell (p := ⟨w4.heap.size, 3, none⟩) (Nat.lt_of_lt_of_le hx7 hb8.size)).trans n3))
  all_goals
    have hb79 : Below w7.heap.size w7 w9 := (Below.refl w7.heap.size w7).drew.trans (hb8.trans (hb9.mono hb8.size))
    clear hb8 hb9 HP8 TO7 R7 k0 k1 k2 k3 x0 x1 x2 x3 m0 m1 m2 m3 n0 n1 n2 n3 p0 p1 p2 p3
    have H39 := Lib.hid (H37.out.trans (hb79.mono hz37))
    have H49 := Lib.hid (H47.out.trans (hb79.mono hz47))
    have NG9 := Lib.hid (NG7.out.later hb79 (Nat.le_refl _) hb79.size)
    have OG9 := Lib.hid (ownN_below OG7.out hb79)
    have hz39 : w3.heap.size ≤ w9.heap.size := H39.out.size
    have hz59 : w5.heap.size ≤ w9.heap.size := Nat.le_trans hz57 hb79.size
    have BW9 := Lib.hid ((HP4.out.later H49.out (Nat.le_refl _) (Nat.le_refl _)).numW)
    have MC9 := Lib.hid (MC w3.heap.size w4.heap.size B4 x.args.length w9 hz39 BW9.out).out
    clear hb79
    go_wp2_with fail
    (with_reducible refine Calls.mono MC9.out ?_)
    rintro ee w10 ⟨⟨k', rfl, hk0, hk1⟩, hs10⟩
    have hb10 : Below w3.heap.size w9 w10 := hs10.below
    have H310 := Lib.hid (H39.out.trans hb10)
    have hz910 := hb10.size
    have NG10 := Lib.hid (NG9.out |> fun h => (NumS.kp pl Ag w9 w10 _ _ h (fun b' o' hb' => World.cell?_of_block (hs10.same b' hb'.2.1 (fun e => by have := hb'.1; omega))) (fun b' hb' => (⟨hb'.1, Nat.lt_of_lt_of_le hb'.2.1 hz910, hs10.flat b' hb'.2.2⟩ : Between w10 w5.heap.size w10.heap.size b'))))
    have OG10 := Lib.hid (show OwnN w5.heap.size w10 pl (.slice Ag pl.length cg) from ownN_still OG9.out (fun g hg1 hg2 => hs10.same g hg2 (fun e => by omega)) hb10)
    have E10 := Lib.hid (EI Ag cg Aw cw w10 (NG10.out.lt (Nat.le_refl _)) (NW.out.on H310.out H310.out.size)).out
    clear hs10 MC9 BW9 NG9 OG9 H39 H49 q0 q1 q2 q3
    have hz510 : w5.heap.size ≤ w10.heap.size := Nat.le_trans hz59 hz910
    go_wp2_with fail
    (with_reducible refine Calls.mono E10.out ?_)
    rintro ee w11 ⟨rfl, hb11⟩
    have OG11 := Lib.hid (ownN_below OG10.out hb11)
    have H311 := Lib.hid (H310.out.trans (hb11.mono H310.out.size))
    have hz511 : w5.heap.size ≤ w11.heap.size := Nat.le_trans hz510 hb11.size
    have M11 := Lib.hid (MO w5.heap.size Ag cg w11 OG11.out hz511).out
    clear hb11 E10 OG10 NG10 H310
    go_wp2_with fail
    (with_reducible refine Calls.mono M11.out ?_)
    rintro ee w12 ⟨rfl, hg12, hb12⟩
    have hz35 : w3.heap.size ≤ w5.heap.size := Nat.le_trans hz34 hz5
    have H312 := Lib.hid (H311.out.trans (hb12.mono hz35))
    obtain ⟨Ax, cx, eAx, nx12⟩ := hg12.slice
    rw [upTo_len] at eAx
    injection eAx with eA1 _ eA2
    subst eA1
    subst eA2
    have NX12 := Lib.hid nx12
    have D12 := Lib.hid (HD Ag cg w12 (nx12.lt (Nat.le_refl _))).out
    have hz512 : w5.heap.size ≤ w12.heap.size := Nat.le_trans hz511 hb12.size
    clear hb12 M11 OG11 H311 hg12 nx12
    go_wp2_with fail
    (with_reducible refine Calls.mono D12.out ?_)
    rintro ee w13 ⟨rfl, hb13⟩
    have H313 := Lib.hid (H312.out.trans (hb13.mono H312.out.size))
    have hbs13 : Below w.heap.size w w13 := hbs3.trans (H313.out.mono hbs3.size)
    have H113 := Lib.hid (H13.out.trans (H313.out.mono H13.out.size))
    have k0 := (BX.out w13 H113.out) 0 _ rfl
    have k1 := (BX.out w13 H113.out) 1 _ rfl
    have k2 := (BX.out w13 H113.out) 2 _ rfl
    have k3 := (BX.out w13 H113.out) 3 _ rfl
    have NX13 := Lib.hid (NX12.out.later hb13 (Nat.le_refl _) hb13.size)
    have qq1 : (((1 : Int) + pl.length) != ((1 : Int) + pl.length)) = false := by simp
    clear D12 H312 hb13 NX12
    go_wp2_with fail
    (with_reducible refine Calls.mono (TO _ hbs13).out ?_)
    rintro ee w14 ⟨⟨B14, rfl, h14⟩, hb14⟩
    have IM14 := Lib.hid (IM B14 x.args.length w14 (h14.lt (Nat.le_refl _))).out
    have NX14 := Lib.hid (NX13.out.later hb14 (Nat.le_refl _) hb14.size)
    have H314 := Lib.hid (H313.out.trans (hb14.mono H313.out.size))
    have hbs14 := hbs13.trans (hb14.mono hbs13.size)
    clear h14 hb14 NX13 k0 k1 k2 k3
    go_wp2_with fail
    (with_reducible refine Calls.mono IM14.out ?_)
    rintro ee w15 ⟨⟨vh, rfl, hh15⟩, hb15⟩
    obtain ⟨Ah, ch, rfl, nh15⟩ := hh15.slice
    have H315 := Lib.hid (H314.out.trans (hb15.mono H314.out.size))
    have NX15 := Lib.hid (NX14.out.later hb15 (Nat.le_refl _) hb15.size)
    have E15 := Lib.hid (EI Ah ch Aw cw w15 (nh15.lt (Nat.le_refl _)) (NW.out.on H315.out H315.out.size)).out
    have hbs15 := hbs14.trans (hb15.mono hbs14.size)
    clear IM14 hh15 nh15 hb15 NX14 H314
    go_wp2_with fail
    (with_reducible refine Calls.mono E15.out ?_)
    rintro ee w16 ⟨rfl, hb16⟩
    have D16 := Lib.hid (HD Ag cg w16 ((NX15.out.later hb16 (Nat.le_refl _) hb16.size).lt (Nat.le_refl _))).out
    have hbs16 := hbs15.trans (hb16.mono hbs15.size)
    clear E15 hb16
    go_wp2_with fail
    (with_reducible refine Calls.mono D16.out ?_)
    rintro ee w17 ⟨rfl, hb17⟩
    have hbs17 := hbs16.trans (hb17.mono hbs16.size)
    go_wp2_with fail
    go_ret
    exact ⟨rfl, hbs17⟩

end Go.Proofs.Ytjiimcbfniknoaa
