/-
  For every stream of bytes the drawn expression's validity, parts and depth go with its text and with its parts', as the document's chapter 2 has them. Conditions: the program's tables and the library's variables stand as their text lays them (tied by the card).
-/
import Derived.Test.YtoepehlndljkoaaDoorLaidN
import Derived.Test.YtoepehlndljkoaaDoorLaidS
import Derived.Test.YtoepehlndljkoaaDoorOpenB
import Derived.Test.YtoepehlndljkoaaDoorRows
import Derived.ShapedOpen
import Derived.Test.YtoepehlndljkoaaDoorCards
import Derived.Test.YtoepehlndljkoaaDoorTie
import Derived.SevenTiedAt
import Derived.Test.YtoepehlndljkoaaDoorG16
import Derived.Test.YtoepehlndljkoaaDoorFE
import Derived.Test.YtoepehlndljkoaaDoorG6
namespace Go.Proofs.YtoepehlndljkoaaDoor
open Go.RowKit
set_option maxRecDepth 100000

/-- Four boxes. -/
def FB (w : World) (be bx by_ bz bk : Nat) (e : E) (A : Option Addr) (c : Nat) : Prop :=
  Bx4 w be (.int .i64 e.op) (.int .i64 e.n) (.string e.name) (.slice A e.kids.length c) ∧ Bx4 w bx (.int .i64 e.op) (.int .i64 (-1)) (.string e.name) (.slice A e.kids.length c) ∧
  Bx4 w by_ (.int .i64 e.op) (.int .i64 e.n) (.string ⟨#[100, 111]⟩) (.slice A e.kids.length c) ∧ Bx4 w bz (.int .i64 11) (.int .i64 0) (.string ⟨#[]⟩) (.slice (some ⟨bk, 0, none⟩) 1 1)
/-- All of them are there. -/
structure FL (w : World) (be bx by_ bz : Nat) : Prop where
  e : be < w.heap.size
  x : bx < w.heap.size
  y : by_ < w.heap.size
  z : bz < w.heap.size
theorem FL.next {w w' : World} {be bx by_ bz : Nat} (h : FL w be bx by_ bz) (hb : Below w.heap.size w w') : FL w' be bx by_ bz :=
  ⟨Nat.lt_of_lt_of_le h.e hb.size, Nat.lt_of_lt_of_le h.x hb.size, Nat.lt_of_lt_of_le h.y hb.size, Nat.lt_of_lt_of_le h.z hb.size⟩
theorem FB.below {w w' : World} {be bx by_ bz bk : Nat} {e : E} {A : Option Addr} {c : Nat} (h : FB w be bx by_ bz bk e A c) (hb : Below w.heap.size w w') (l : FL w be bx by_ bz) : FB w' be bx by_ bz bk e A c :=
  ⟨h.1.below hb l.e, h.2.1.below hb l.x, h.2.2.1.below hb l.y, h.2.2.2.below hb l.z⟩
/-- What stands for the calls at the law's end. -/
structure End (w : World) (bk : Nat) (e : E) (A : Option Addr) (c : Nat) (vz : Bool) (dp pp : Nat) : Prop where
  x : Calls Tryd.prog 11 #[.agg #[.int .i64 e.op, .int .i64 (-1), .string e.name, .slice A e.kids.length c]] w (BoolB false w)
  y : Calls Tryd.prog 11 #[.agg #[.int .i64 e.op, .int .i64 e.n, .string ⟨#[100, 111]⟩, .slice A e.kids.length c]] w (BoolB false w)
  z : Calls Tryd.prog 11 #[.agg #[.int .i64 11, .int .i64 0, .string ⟨#[]⟩, .slice (some ⟨bk, 0, none⟩) 1 1]] w (BoolB vz w)
  d : Calls Tryd.prog 13 #[.agg #[.int .i64 e.op, .int .i64 e.n, .string e.name, .slice A e.kids.length c]] w (NumBelow dp w)
  p : Calls Tryd.prog 14 #[.agg #[.int .i64 e.op, .int .i64 e.n, .string e.name, .slice A e.kids.length c]] w (NumBelow pp w)
theorem end_mk (w : World) (bk : Nat) (e : E) (A : Option Addr) (c : Nat) (hl : bulkE e ≤ 3000) (hR : RdS w w.heap.size e.kids A) (hK : RdS w w.heap.size [e] (some ⟨bk, 0, none⟩)) (T : Tabs w) (G : Sgn w) : End w bk e A c (validE (notE e)) (if validE e = true then deepE e else 0) (if validE e = true then sizeE e else 0) := by
  have hk : bulkE (E.mk e.op (-1) e.name e.kids) ≤ 1048576 := by have h := bulkE_kids e; show e.name.size + bulkL e.kids ≤ _; omega
  have hk2 : bulkE (E.mk e.op e.n doS e.kids) ≤ 1048576 := by have h := bulkE_kids e; show doS.size + bulkL e.kids ≤ _; have : doS.size = 2 := rfl; omega
  have hk3 : bulkE (notE e) ≤ 1048576 := by show 0 + (1 + bulkE e + 0) ≤ _; omega
  have h1 := implExprValid_any (E.mk e.op (-1) e.name e.kids) A c w hR hk T G
  have h2 := implExprValid_any (E.mk e.op e.n doS e.kids) A c w hR hk2 T G
  have h3 := implExprValid_any (notE e) (some ⟨bk, 0, none⟩) 1 w hK hk3 T G
  rw [valid_neg] at h1
  rw [valid_do] at h2
  exact ⟨h1, h2, h3, implExprDeep_any e A c w hR (by omega) T G, implExprParts_any e A c w hR (by omega) T G⟩
theorem four_new (w : World) (x0 x1 x2 x3 y0 y1 y2 y3 k0 k1 k2 k3 z0 z1 z2 z3 : Value) (t : TypeId) :
    let W := (((w.alloc (.cells #[x0, x1, x2, x3] t)).alloc (.cells #[y0, y1, y2, y3] t)).alloc (.cells #[k0, k1, k2, k3] t)).alloc (.cells #[z0, z1, z2, z3] t)
    Bx4 W w.heap.size x0 x1 x2 x3 ∧ Bx4 W (w.heap.size + 1) y0 y1 y2 y3 ∧ Bx4 W (w.heap.size + 1 + 1) k0 k1 k2 k3 ∧ Bx4 W (w.heap.size + 1 + 1 + 1) z0 z1 z2 z3 ∧ w.heap.size + 1 + 1 + 1 < W.heap.size ∧ Below w.heap.size w W := by
  intro W
  have s1 : (w.alloc (.cells #[x0, x1, x2, x3] t)).heap.size = w.heap.size + 1 := World.size_alloc _ _
  have s2 : ((w.alloc (.cells #[x0, x1, x2, x3] t)).alloc (.cells #[y0, y1, y2, y3] t)).heap.size = w.heap.size + 1 + 1 := by rw [World.size_alloc, s1]
  have s3 : (((w.alloc (.cells #[x0, x1, x2, x3] t)).alloc (.cells #[y0, y1, y2, y3] t)).alloc (.cells #[k0, k1, k2, k3] t)).heap.size = w.heap.size + 1 + 1 + 1 := by rw [World.size_alloc, s2]
  have s4 : W.heap.size = w.heap.size + 1 + 1 + 1 + 1 := by show (World.alloc _ _).heap.size = _; rw [World.size_alloc, s3]
  obtain ⟨a, b, h1, h2⟩ := two4 w x0 x1 x2 x3 y0 y1 y2 y3 t t
  obtain ⟨c, d, h3, h4⟩ := two4 ((w.alloc (.cells #[x0, x1, x2, x3] t)).alloc (.cells #[y0, y1, y2, y3] t)) k0 k1 k2 k3 z0 z1 z2 z3 t t
  rw [s2] at c d
  exact ⟨a.below h4 (by rw [s2]; omega), b.below h4 (by rw [s2]; omega), c, d, by rw [s4]; omega, h2.trans (h4.mono (by rw [s2]; omega))⟩
set_option maxHeartbeats 64000000 in
theorem fnExprForm_walk (Ac : Option Addr) (l : List UInt8) (cap : Nat) (w : World) (h : Bytes w w.heap.size Ac l) (hn : l.length ≤ cap) (hcap : cap ≤ 9223372036854775807) (T : Tabs w) (N : NTabs w) (G : Sgn w) :
    Calls Tryd.prog 4 #[.slice Ac l.length cap] w fun ee w' => ee = .returned (.bool true) ∧ Below w.heap.size w w' := by
  by_cases hbig : 1048576 < l.length
  · have hbig' : (1048576 : Int) < l.length := by omega
    clear h T N G
    go_enter Tryd.func4, Tryd.ntmps4
    go_wp2_with fail
    go_ret
    exact ⟨rfl, Below.refl _ _⟩
  · have hbig' : ¬ (1048576 : Int) < l.length := by omega
    have DR := Lib.hid (drawExprValid_any Ac l cap w h hn hcap)
    have TNG := Lib.hid (show ∀ W, Below w.heap.size w W → Tabs W ∧ NTabs W ∧ Sgn W from fun W h => ⟨T.below h, N.below h, G.below h⟩)
    clear h T N G hbig
    go_enter Tryd.func4, Tryd.ntmps4
    go_wp2_with fail
    refine Calls.mono DR.out ?_
    rintro ee w1 ⟨e, A, c, rfl, hp1, hbk, hb1⟩
    unfold exV
    have hlen : e.kids.length ≤ 3000 := by have h1 := bulkE_kids e; have h2 := sizeL_bulk e.kids; have h3 := length_le_sizeL e.kids; omega
    have hb2 := (Below.refl w1.heap.size w1).alloc (Nat.le_refl _) (.cells #[.int .i64 e.op, .int .i64 e.n, .string e.name, .slice A e.kids.length c] 30)
    have B2 := Lib.hid (Bx4.new w1 (.int .i64 e.op) (.int .i64 e.n) (.string e.name) (.slice A e.kids.length c) 30)
    have hl2 : w1.heap.size < (w1.alloc (.cells #[.int .i64 e.op, .int .i64 e.n, .string e.name, .slice A e.kids.length c] 30)).heap.size := by rw [World.size_alloc]; omega
    have HB1 := Lib.hid hb1
    have RD := Lib.hid (show ∀ W, Below w1.heap.size w1 W → RdS W W.heap.size e.kids A from fun W h => (hp1.later h (Nat.le_refl _) h.size).between_rd)
    clear hb1 hp1 DR
    go_wp2_with fail
    generalize w1.alloc (.cells #[.int .i64 e.op, .int .i64 e.n, .string e.name, .slice A e.kids.length c] 30) = w2 at *
    obtain ⟨t2, n2, g2⟩ := TNG.out w2 (HB1.out.trans (hb2.mono HB1.out.size))
    have IV := implExprValid_any e A c w2 (RD.out w2 hb2) (by omega) t2 g2
    unfold exV at IV
    replace IV := Lib.hid IV
    clear t2 n2 g2
    (with_reducible refine Calls.mono IV.out ?_)
    rintro ee w3 ⟨rfl, hb3⟩
    have B3 := Lib.hid (B2.out.below hb3 hl2)
    have hl3 := Nat.lt_of_lt_of_le hl2 hb3.size
    have hb13 := hb2.trans (hb3.mono hb2.size)
    have SV := specExprValid_any e A c w3 (RD.out w3 hb13) (by omega)
    unfold exV at SV
    replace SV := Lib.hid SV
    obtain ⟨x0, x1, x2, x3⟩ := B3.out
    clear hb2 hb3 B2 IV hl2
    go_wp2_with fail
    (with_reducible refine Calls.mono SV.out ?_)
    rintro ee w4 ⟨rfl, hb4⟩
    have B4 := Lib.hid (B3.out.below hb4 hl3)
    have hl4 := Nat.lt_of_lt_of_le hl3 hb4.size
    have hb14 := hb13.trans (hb4.mono hb13.size)
    have q1 : (validE e != validE e) = false := by simp
    obtain ⟨y0, y1, y2, y3⟩ := B4.out
    have VK := Lib.hid (fun (hv : validE e = true) k (hk : k ∈ e.kids) => valid_kid hv hk)
    have BK := Lib.hid (show ∀ k ∈ e.kids, bulkE k ≤ 1048576 from fun k hk => by have h1 := bulkL_mem hk; have h2 := bulkE_kids e; omega)
    clear hb13 hb4 B3 SV hl3 x0 x1 x2 x3
    go_wp2_with fail
    clear q1
    go_loopw [26] (fun i wr => ∃ k : Nat, k ≤ e.kids.length ∧ i = .int .i64 k ∧ Below w4.heap.size w4 wr) (fun i _ => e.kids.length - (intOf i).toNat)
    case atStart => exact ⟨0, Nat.zero_le _, rfl, Below.refl _ _⟩
    case round =>
      clear y0 y1 y2 y3
      obtain ⟨k, hk, rfl, hbr⟩ := hrel
      have hb1r := hb14.trans (hbr.mono hb14.size)
      by_cases hlt : k < e.kids.length
      · obtain ⟨b, o, rfl, hB, ⟨d0, d1, d2⟩, A', cap', d3, hr'⟩ := (RD.out wr hb1r).at_ hlt
        have hal := (Below.refl wr.heap.size wr).alloc (Nat.le_refl _) (.cells #[.int .i64 e.kids[k].op, .int .i64 e.kids[k].n, .string e.kids[k].name, .slice A' e.kids[k].kids.length cap'] 30)
        obtain ⟨tt, tn, tg⟩ := TNG.out _ (HB1.out.trans ((hb1r.trans (hal.mono hb1r.size)).mono HB1.out.size))
        have KV := implExprValid_any e.kids[k] A' cap' _ (hr'.on hal hal.size) (BK.out _ (List.getElem_mem hlt)) tt tg
        have hkv := VK.out
        have KT := Lib.hid (fun hv => hkv hv e.kids[k] (List.getElem_mem hlt))
        unfold exV at KV
        have HAL := Lib.hid hal
        clear hr' tt tn tg hkv hal
        generalize e.kids[k] = kid at *
        cases hv : validE e
        · have HV := Lib.hid hv
          clear hv KV KT
          go_wp2_with fail
          go_roundw
          case rel => exact ⟨k + 1, by omega, by go_num, hbr.trans (HAL.out.mono hbr.size)⟩
          case measure => simp only [intOf]; omega
        · have hkt := KT.out hv
          rw [hkt] at KV
          replace KV := Lib.hid KV
          clear hv hkt KT
          go_wp2_with fail
          (with_reducible refine Calls.mono KV.out ?_)
          rintro ee w6 ⟨rfl, hb6⟩
          have hb7 := (hbr.trans (HAL.out.mono hbr.size)).trans (hb6.mono (Nat.le_trans hbr.size HAL.out.size))
          clear KV HAL hb6
          go_wp2_with fail
          go_roundw
          case rel => exact ⟨k + 1, by omega, by go_num, hb7⟩
          case measure => simp only [intOf]; omega
      · obtain rfl : k = e.kids.length := by omega
        have B5 := Lib.hid (B4.out.below hbr hl4)
        obtain ⟨y0, y1, y2, y3⟩ := B5.out
        have hl5 := Nat.lt_of_lt_of_le hl4 hbr.size
        go_wp2_with fail
        obtain ⟨bX, bY, bK, bZ, hl6, hb6⟩ := four_new wr (.int .i64 e.op) (.int .i64 (-1)) (.string e.name) (.slice A e.kids.length c) (.int .i64 e.op) (.int .i64 e.n) (.string ⟨#[100, 111]⟩) (.slice A e.kids.length c) (.int .i64 e.op) (.int .i64 e.n) (.string e.name) (.slice A e.kids.length c) (.int .i64 11) (.int .i64 0) (.string ⟨#[]⟩) (.slice (some ⟨wr.heap.size + 1 + 1, 0, none⟩) 1 1) 30
        have FB6 := Lib.hid (show FB _ w1.heap.size wr.heap.size (wr.heap.size + 1) (wr.heap.size + 1 + 1 + 1) (wr.heap.size + 1 + 1) e A c from ⟨B5.out.below hb6 hl5, bX, bY, bZ⟩)
        have BK6 := Lib.hid bK
        clear bX bY bK bZ B5 y0 y1 y2 y3
        generalize (((wr.alloc (.cells #[.int .i64 e.op, .int .i64 (-1), .string e.name, .slice A e.kids.length c] 30)).alloc (.cells #[.int .i64 e.op, .int .i64 e.n, .string ⟨#[100, 111]⟩, .slice A e.kids.length c] 30)).alloc (.cells #[.int .i64 e.op, .int .i64 e.n, .string e.name, .slice A e.kids.length c] 30)).alloc (.cells #[.int .i64 11, .int .i64 0, .string ⟨#[]⟩, .slice (some ⟨wr.heap.size + 1 + 1, 0, none⟩) 1 1] 30) = w6 at *
        have hb1r := hb14.trans (hbr.mono hb14.size)
        have hb16 := hb1r.trans (hb6.mono hb1r.size)
        have HBW6 := Lib.hid (HB1.out.trans (hb16.mono HB1.out.size))
        have L6 : FL w6 w1.heap.size wr.heap.size (wr.heap.size + 1) (wr.heap.size + 1 + 1 + 1) := ⟨by omega, by omega, by omega, by omega⟩
        have HL6 := Lib.hid L6
        have RK := Lib.hid (show ∀ W, Below w6.heap.size w6 W → RdS W W.heap.size [e] (some ⟨wr.heap.size + 1 + 1, 0, none⟩) from fun W h => .inr ⟨_, 0, rfl, by have := h.size; omega, (RdC_cons _ _ _ _ _ _).2 ⟨⟨⟨(h.cell (p := ⟨wr.heap.size + 1 + 1, 0, none⟩) (by show wr.heap.size + 1 + 1 < _; omega)).trans BK6.out.1, (h.cell (p := ⟨wr.heap.size + 1 + 1, 1, none⟩) (by show wr.heap.size + 1 + 1 < _; omega)).trans BK6.out.2.1, (h.cell (p := ⟨wr.heap.size + 1 + 1, 2, none⟩) (by show wr.heap.size + 1 + 1 < _; omega)).trans BK6.out.2.2.1⟩, A, c, (h.cell (p := ⟨wr.heap.size + 1 + 1, 3, none⟩) (by show wr.heap.size + 1 + 1 < _; omega)).trans BK6.out.2.2.2, RD.out W (hb16.trans (h.mono hb16.size))⟩, by rw [RdC]; trivial⟩⟩)
        have CC0 := Lib.hid (show ∀ W, Below w6.heap.size w6 W → End W (wr.heap.size + 1 + 1) e A c (validE (notE e)) (if validE e = true then deepE e else 0) (if validE e = true then sizeE e else 0) from fun W h => by
          obtain ⟨t, _, g⟩ := TNG.out W (HBW6.out.trans (h.mono HBW6.out.size))
          exact end_mk W _ e A c hbk (RD.out W (hb16.trans (h.mono hb16.size))) (RK.out W h) t g)
        obtain ⟨t6, n6, g6⟩ := TNG.out w6 HBW6.out
        have hX : textF (E.mk e.op (-1) e.name e.kids) = (⟨#[]⟩, false) := by unfold textF; rw [valid_neg]; rfl
        have TX : Calls Tryd.prog 8 #[.agg #[.int .i64 e.op, .int .i64 (-1), .string e.name, .slice A e.kids.length c]] w6 (TextRet (⟨#[]⟩, false) w6) := by
          have h := implExprText_any (E.mk e.op (-1) e.name e.kids) A c w6 (RD.out w6 hb16) (by have h := bulkE_kids e; show e.name.size + bulkL e.kids ≤ _; omega) t6 n6 g6
          rw [hX] at h
          exact h
        replace TX := Lib.hid TX
        clear t6 n6 g6 hX RK BK6 RD VK BK TNG hb16 hb1r hb14 hb6 hl6 L6 hbr
        (with_reducible refine Calls.mono TX.out ?_)
        rintro ee w7 ⟨rfl, hb7⟩
        have U0 := Lib.hid (show Below w6.heap.size w6 w7.drew from hb7.drew)
        have FB0 := Lib.hid (show FB w7.drew w1.heap.size wr.heap.size (wr.heap.size + 1) (wr.heap.size + 1 + 1 + 1) (wr.heap.size + 1 + 1) e A c from FB6.out.below hb7.drew HL6.out)
        have L0 : FL w7.drew w1.heap.size wr.heap.size (wr.heap.size + 1) (wr.heap.size + 1 + 1 + 1) := HL6.out.next hb7.drew
        obtain ⟨⟨q0e0, q0e1, q0e2, q0e3⟩, ⟨q0x0, q0x1, q0x2, q0x3⟩, ⟨q0y0, q0y1, q0y2, q0y3⟩, ⟨q0z0, q0z1, q0z2, q0z3⟩⟩ := FB6.out.below hb7 HL6.out
        have HBW := HBW6
        clear FB6 HL6 TX hb7
        cases hv : validE e
        · have hz : validE (notE e) = false := by
            cases h : validE (notE e) with
            | false => rfl
            | true => rw [notE_of h] at hv; cases hv
          rw [hz] at CC0
          have CC := Lib.hid (fun W h => CC0.out W h)
          clear hz CC0 hv
          go_wp2_with fail
          -- not valid
          have hu : (undef : Value) = .tuple #[] := rfl
          (first | go_region_law (first | (go_simp; go_at_call 11; (with_reducible refine Calls.mono (CC.out _ U0.out).x ?_); rintro ee v1 ⟨rfl, hc1⟩; have U1 := Lib.hid (U0.out.trans (hc1.mono U0.out.size)); have FB1 := Lib.hid (FB0.out.below hc1 L0); have L1 := FL.next L0 hc1; obtain ⟨⟨q1e0, q1e1, q1e2, q1e3⟩, ⟨q1x0, q1x1, q1x2, q1x3⟩, ⟨q1y0, q1y1, q1y2, q1y3⟩, ⟨q1z0, q1z1, q1z2, q1z3⟩⟩ := FB1.out) | (go_simp; go_at_call 11; (with_reducible refine Calls.mono (CC.out _ U1.out).y ?_); rintro ee v2 ⟨rfl, hc2⟩; have U2 := Lib.hid (U1.out.trans (hc2.mono U1.out.size)); have FB2 := Lib.hid (FB1.out.below hc2 L1); have L2 := FL.next L1 hc2; obtain ⟨⟨q2e0, q2e1, q2e2, q2e3⟩, ⟨q2x0, q2x1, q2x2, q2x3⟩, ⟨q2y0, q2y1, q2y2, q2y3⟩, ⟨q2z0, q2z1, q2z2, q2z3⟩⟩ := FB2.out) | (go_simp; go_at_call 11; (with_reducible refine Calls.mono (CC.out _ U2.out).z ?_); rintro ee v3 ⟨rfl, hc3⟩; have U3 := Lib.hid (U2.out.trans (hc3.mono U2.out.size)); have FB3 := Lib.hid (FB2.out.below hc3 L2); have L3 := FL.next L2 hc3; obtain ⟨⟨q3e0, q3e1, q3e2, q3e3⟩, ⟨q3x0, q3x1, q3x2, q3x3⟩, ⟨q3y0, q3y1, q3y2, q3y3⟩, ⟨q3z0, q3z1, q3z2, q3z3⟩⟩ := FB3.out)) | fail)
          all_goals
            have hfin := HBW.out.trans (U3.out.mono HBW.out.size)
            clear U0 FB0 L0 CC
            go_wp2_with fail
            go_ret
            refine ⟨?_, hfin⟩
            rfl
        · have hz := notE_is hv
          rw [hz] at CC0
          have CC1 := Lib.hid (show ∀ W, Below w6.heap.size w6 W → End W (wr.heap.size + 1 + 1) e A c (decide (deepE e < 6) && decide (sizeE e < 30)) (deepE e) (sizeE e) from fun W h => by
            have h1 := CC0.out W h
            rw [hv, if_pos rfl, if_pos rfl] at h1
            exact h1)
          clear hz CC0 hv
          generalize deepE e = dp at *
          generalize sizeE e = pp at *
          by_cases hdp : dp < 6
          · have hdp' : (dp : Int) < 6 := by omega
            by_cases hpp : pp < 30
            · have hpp' : (pp : Int) < 30 := by omega
              rw [decide_eq_true hdp, decide_eq_true hpp] at CC1
              have CC := Lib.hid (show ∀ W, Below w6.heap.size w6 W → End W (wr.heap.size + 1 + 1) e A c true dp pp from fun W h => CC1.out W h)
              clear CC1 hdp hpp
              go_wp2_with fail
              -- one deeper is valid
              go_region_held3 (fun u => u.cell? ⟨w1.heap.size, 0, none⟩ = some (.int .i64 e.op) ∧ u.cell? ⟨w1.heap.size, 1, none⟩ = some (.int .i64 e.n) ∧ u.cell? ⟨w1.heap.size, 2, none⟩ = some (.string e.name) ∧ u.cell? ⟨w1.heap.size, 3, none⟩ = some (.slice A e.kids.length c) ∧ u.cell? ⟨wr.heap.size, 0, none⟩ = some (.int .i64 e.op) ∧ u.cell? ⟨wr.heap.size, 1, none⟩ = some (.int .i64 (-1)) ∧ u.cell? ⟨wr.heap.size, 2, none⟩ = some (.string e.name) ∧ u.cell? ⟨wr.heap.size, 3, none⟩ = some (.slice A e.kids.length c) ∧ u.cell? ⟨wr.heap.size + 1, 0, none⟩ = some (.int .i64 e.op) ∧ u.cell? ⟨wr.heap.size + 1, 1, none⟩ = some (.int .i64 e.n) ∧ u.cell? ⟨wr.heap.size + 1, 2, none⟩ = some (.string ⟨#[100, 111]⟩) ∧ u.cell? ⟨wr.heap.size + 1, 3, none⟩ = some (.slice A e.kids.length c) ∧ u.cell? ⟨wr.heap.size + 1 + 1 + 1, 0, none⟩ = some (.int .i64 11) ∧ u.cell? ⟨wr.heap.size + 1 + 1 + 1, 1, none⟩ = some (.int .i64 0) ∧ u.cell? ⟨wr.heap.size + 1 + 1 + 1, 2, none⟩ = some (.string ⟨#[]⟩) ∧ u.cell? ⟨wr.heap.size + 1 + 1 + 1, 3, none⟩ = some (.slice (some ⟨wr.heap.size + 1 + 1, 0, none⟩) 1 1)) (go_keep)
                (first | (go_at_call 11; (with_reducible refine Calls.mono (CC.out _ U0.out).x ?_); rintro ee v1 ⟨rfl, hc1⟩; have U1 := Lib.hid (U0.out.trans (hc1.mono U0.out.size)); have FB1 := Lib.hid (FB0.out.below hc1 L0); have L1 := FL.next L0 hc1; obtain ⟨⟨q1e0, q1e1, q1e2, q1e3⟩, ⟨q1x0, q1x1, q1x2, q1x3⟩, ⟨q1y0, q1y1, q1y2, q1y3⟩, ⟨q1z0, q1z1, q1z2, q1z3⟩⟩ := FB1.out) | (go_at_call 11; (with_reducible refine Calls.mono (CC.out _ U1.out).y ?_); rintro ee v2 ⟨rfl, hc2⟩; have U2 := Lib.hid (U1.out.trans (hc2.mono U1.out.size)); have FB2 := Lib.hid (FB1.out.below hc2 L1); have L2 := FL.next L1 hc2; obtain ⟨⟨q2e0, q2e1, q2e2, q2e3⟩, ⟨q2x0, q2x1, q2x2, q2x3⟩, ⟨q2y0, q2y1, q2y2, q2y3⟩, ⟨q2z0, q2z1, q2z2, q2z3⟩⟩ := FB2.out) | (go_at_call 11; (with_reducible refine Calls.mono (CC.out _ U2.out).z ?_); rintro ee v3 ⟨rfl, hc3⟩; have U3 := Lib.hid (U2.out.trans (hc3.mono U2.out.size)); have FB3 := Lib.hid (FB2.out.below hc3 L2); have L3 := FL.next L2 hc3; obtain ⟨⟨q3e0, q3e1, q3e2, q3e3⟩, ⟨q3x0, q3x1, q3x2, q3x3⟩, ⟨q3y0, q3y1, q3y2, q3y3⟩, ⟨q3z0, q3z1, q3z2, q3z3⟩⟩ := FB3.out) | (go_at_call 11; (with_reducible refine Calls.mono (CC.out _ U3.out).z ?_); rintro ee v4 ⟨rfl, hc4⟩; have U4 := Lib.hid (U3.out.trans (hc4.mono U3.out.size)); have FB4 := Lib.hid (FB3.out.below hc4 L3); have L4 := FL.next L3 hc4; obtain ⟨⟨q4e0, q4e1, q4e2, q4e3⟩, ⟨q4x0, q4x1, q4x2, q4x3⟩, ⟨q4y0, q4y1, q4y2, q4y3⟩, ⟨q4z0, q4z1, q4z2, q4z3⟩⟩ := FB4.out) | (go_at_call 13; (with_reducible refine Calls.mono (CC.out _ U4.out).d ?_); rintro ee v5 ⟨rfl, hc5⟩; have U5 := Lib.hid (U4.out.trans (hc5.mono U4.out.size)); have FB5 := Lib.hid (FB4.out.below hc5 L4); have L5 := FL.next L4 hc5; obtain ⟨⟨q5e0, q5e1, q5e2, q5e3⟩, ⟨q5x0, q5x1, q5x2, q5x3⟩, ⟨q5y0, q5y1, q5y2, q5y3⟩, ⟨q5z0, q5z1, q5z2, q5z3⟩⟩ := FB5.out) | (go_at_call 14; (with_reducible refine Calls.mono (CC.out _ U5.out).p ?_); rintro ee v6 ⟨rfl, hc6⟩; have U6 := Lib.hid (U5.out.trans (hc6.mono U5.out.size)); have FB6 := Lib.hid (FB5.out.below hc6 L5); have L6 := FL.next L5 hc6; obtain ⟨⟨q6e0, q6e1, q6e2, q6e3⟩, ⟨q6x0, q6x1, q6x2, q6x3⟩, ⟨q6y0, q6y1, q6y2, q6y3⟩, ⟨q6z0, q6z1, q6z2, q6z3⟩⟩ := FB6.out))
              all_goals
                have hfin := HBW.out.trans (U6.out.mono HBW.out.size)
                clear U0 FB0 L0 CC
                go_wp2_with fail
                go_ret
                refine ⟨?_, hfin⟩
                rfl
            · have hpp' : ¬ (pp : Int) < 30 := by omega
              rw [decide_eq_true hdp, decide_eq_false hpp] at CC1
              have CC := Lib.hid (show ∀ W, Below w6.heap.size w6 W → End W (wr.heap.size + 1 + 1) e A c false dp pp from fun W h => CC1.out W h)
              clear CC1 hdp hpp
              go_wp2_with fail
              -- too many parts
              have hd6 : decide ((dp : Int) < 6) = true := decide_eq_true (by omega)
              have hd30 : decide ((pp : Int) < 30) = false := decide_eq_false (by omega)
              have hu : (undef : Value) = .tuple #[] := rfl
              (first | go_region_law (first | (go_simp; go_at_call 11; (with_reducible refine Calls.mono (CC.out _ U0.out).x ?_); rintro ee v1 ⟨rfl, hc1⟩; have U1 := Lib.hid (U0.out.trans (hc1.mono U0.out.size)); have FB1 := Lib.hid (FB0.out.below hc1 L0); have L1 := FL.next L0 hc1; obtain ⟨⟨q1e0, q1e1, q1e2, q1e3⟩, ⟨q1x0, q1x1, q1x2, q1x3⟩, ⟨q1y0, q1y1, q1y2, q1y3⟩, ⟨q1z0, q1z1, q1z2, q1z3⟩⟩ := FB1.out) | (go_simp; go_at_call 11; (with_reducible refine Calls.mono (CC.out _ U1.out).y ?_); rintro ee v2 ⟨rfl, hc2⟩; have U2 := Lib.hid (U1.out.trans (hc2.mono U1.out.size)); have FB2 := Lib.hid (FB1.out.below hc2 L1); have L2 := FL.next L1 hc2; obtain ⟨⟨q2e0, q2e1, q2e2, q2e3⟩, ⟨q2x0, q2x1, q2x2, q2x3⟩, ⟨q2y0, q2y1, q2y2, q2y3⟩, ⟨q2z0, q2z1, q2z2, q2z3⟩⟩ := FB2.out) | (go_simp; go_at_call 11; (with_reducible refine Calls.mono (CC.out _ U2.out).z ?_); rintro ee v3 ⟨rfl, hc3⟩; have U3 := Lib.hid (U2.out.trans (hc3.mono U2.out.size)); have FB3 := Lib.hid (FB2.out.below hc3 L2); have L3 := FL.next L2 hc3; obtain ⟨⟨q3e0, q3e1, q3e2, q3e3⟩, ⟨q3x0, q3x1, q3x2, q3x3⟩, ⟨q3y0, q3y1, q3y2, q3y3⟩, ⟨q3z0, q3z1, q3z2, q3z3⟩⟩ := FB3.out) | (go_simp; go_at_call 11; (with_reducible refine Calls.mono (CC.out _ U3.out).z ?_); rintro ee v4 ⟨rfl, hc4⟩; have U4 := Lib.hid (U3.out.trans (hc4.mono U3.out.size)); have FB4 := Lib.hid (FB3.out.below hc4 L3); have L4 := FL.next L3 hc4; obtain ⟨⟨q4e0, q4e1, q4e2, q4e3⟩, ⟨q4x0, q4x1, q4x2, q4x3⟩, ⟨q4y0, q4y1, q4y2, q4y3⟩, ⟨q4z0, q4z1, q4z2, q4z3⟩⟩ := FB4.out) | (go_simp; go_at_call 13; (with_reducible refine Calls.mono (CC.out _ U4.out).d ?_); rintro ee v5 ⟨rfl, hc5⟩; have U5 := Lib.hid (U4.out.trans (hc5.mono U4.out.size)); have FB5 := Lib.hid (FB4.out.below hc5 L4); have L5 := FL.next L4 hc5; obtain ⟨⟨q5e0, q5e1, q5e2, q5e3⟩, ⟨q5x0, q5x1, q5x2, q5x3⟩, ⟨q5y0, q5y1, q5y2, q5y3⟩, ⟨q5z0, q5z1, q5z2, q5z3⟩⟩ := FB5.out) | (go_simp; go_at_call 14; (with_reducible refine Calls.mono (CC.out _ U5.out).p ?_); rintro ee v6 ⟨rfl, hc6⟩; have U6 := Lib.hid (U5.out.trans (hc6.mono U5.out.size)); have FB6 := Lib.hid (FB5.out.below hc6 L5); have L6 := FL.next L5 hc6; obtain ⟨⟨q6e0, q6e1, q6e2, q6e3⟩, ⟨q6x0, q6x1, q6x2, q6x3⟩, ⟨q6y0, q6y1, q6y2, q6y3⟩, ⟨q6z0, q6z1, q6z2, q6z3⟩⟩ := FB6.out)) | fail)
              all_goals
                have hfin := HBW.out.trans (U6.out.mono HBW.out.size)
                clear U0 FB0 L0 CC
                go_wp2_with fail
                go_ret
                refine ⟨?_, hfin⟩
                first | rfl | simp [hpp']
          · have hdp' : ¬ (dp : Int) < 6 := by omega
            rw [decide_eq_false hdp, Bool.false_and] at CC1
            have CC := CC1
            clear hdp
            go_wp2_with fail
            -- too deep
            have hd6 : decide ((dp : Int) < 6) = false := decide_eq_false (by omega)
            have hu : (undef : Value) = .tuple #[] := rfl
            (first | go_region_law (first | (go_simp; go_at_call 11; (with_reducible refine Calls.mono (CC.out _ U0.out).x ?_); rintro ee v1 ⟨rfl, hc1⟩; have U1 := Lib.hid (U0.out.trans (hc1.mono U0.out.size)); have FB1 := Lib.hid (FB0.out.below hc1 L0); have L1 := FL.next L0 hc1; obtain ⟨⟨q1e0, q1e1, q1e2, q1e3⟩, ⟨q1x0, q1x1, q1x2, q1x3⟩, ⟨q1y0, q1y1, q1y2, q1y3⟩, ⟨q1z0, q1z1, q1z2, q1z3⟩⟩ := FB1.out) | (go_simp; go_at_call 11; (with_reducible refine Calls.mono (CC.out _ U1.out).y ?_); rintro ee v2 ⟨rfl, hc2⟩; have U2 := Lib.hid (U1.out.trans (hc2.mono U1.out.size)); have FB2 := Lib.hid (FB1.out.below hc2 L1); have L2 := FL.next L1 hc2; obtain ⟨⟨q2e0, q2e1, q2e2, q2e3⟩, ⟨q2x0, q2x1, q2x2, q2x3⟩, ⟨q2y0, q2y1, q2y2, q2y3⟩, ⟨q2z0, q2z1, q2z2, q2z3⟩⟩ := FB2.out) | (go_simp; go_at_call 11; (with_reducible refine Calls.mono (CC.out _ U2.out).z ?_); rintro ee v3 ⟨rfl, hc3⟩; have U3 := Lib.hid (U2.out.trans (hc3.mono U2.out.size)); have FB3 := Lib.hid (FB2.out.below hc3 L2); have L3 := FL.next L2 hc3; obtain ⟨⟨q3e0, q3e1, q3e2, q3e3⟩, ⟨q3x0, q3x1, q3x2, q3x3⟩, ⟨q3y0, q3y1, q3y2, q3y3⟩, ⟨q3z0, q3z1, q3z2, q3z3⟩⟩ := FB3.out) | (go_simp; go_at_call 11; (with_reducible refine Calls.mono (CC.out _ U3.out).z ?_); rintro ee v4 ⟨rfl, hc4⟩; have U4 := Lib.hid (U3.out.trans (hc4.mono U3.out.size)); have FB4 := Lib.hid (FB3.out.below hc4 L3); have L4 := FL.next L3 hc4; obtain ⟨⟨q4e0, q4e1, q4e2, q4e3⟩, ⟨q4x0, q4x1, q4x2, q4x3⟩, ⟨q4y0, q4y1, q4y2, q4y3⟩, ⟨q4z0, q4z1, q4z2, q4z3⟩⟩ := FB4.out) | (go_simp; go_at_call 13; (with_reducible refine Calls.mono (CC.out _ U4.out).d ?_); rintro ee v5 ⟨rfl, hc5⟩; have U5 := Lib.hid (U4.out.trans (hc5.mono U4.out.size)); have FB5 := Lib.hid (FB4.out.below hc5 L4); have L5 := FL.next L4 hc5; obtain ⟨⟨q5e0, q5e1, q5e2, q5e3⟩, ⟨q5x0, q5x1, q5x2, q5x3⟩, ⟨q5y0, q5y1, q5y2, q5y3⟩, ⟨q5z0, q5z1, q5z2, q5z3⟩⟩ := FB5.out)) | fail)
            all_goals
              have hfin := HBW.out.trans (U5.out.mono HBW.out.size)
              clear U0 FB0 L0 CC
              go_wp2_with fail
              go_ret
              refine ⟨?_, hfin⟩
              rfl
end Go.Proofs.YtoepehlndljkoaaDoor

namespace Go.Proofs.YtoepehlndljkoaaDoor
open Go.ChangeShapes Go.WideShapes Go.ChangeAt Go.RowKit Go.WideMaps
open Go.ChangeMaps (open_string)
set_option maxRecDepth 100000

namespace ExExprForm
theorem plain : (Rows.fnExprFormRow.laid.all fun x => x.2.handleName?.isNone) = true := by kernel_rfl
/-- The door's own heap meets the condition: three closed facts. -/
theorem door_met (os : Os) (args : Array Value) : laidMetH Tryd.prog Rows.fnExprFormRow.laid ((World.doorLaid Tryd.prog 400 os).forCall (fun _ _ => 0) ⟨#[], args, []⟩).memory :=
  laidMetH_of_parts3 (fuel := 8) (laidMet_of_run' 8 (by kernel_rfl) (by kernel_rfl)) (by kernel_rfl) (by kernel_rfl)
theorem lifted (os : Os) (started : os.Started) (H : Type) (enc : TypeId × Value → H) :
    ReturnsInHanded {} Tryd.checked os 4 .any (fun w args => (Rows.fnExprFormSpec.pre enc Tryd.prog Tryd.f4 [] false w args ∧ laidMetH Tryd.prog Rows.fnExprFormRow.laid w) ∧ sizedMet enc Tryd.prog Tryd.f4 (OpenSpec.ofChange Rows.fnExprFormSpec) false w args)
      (Rows.fnExprFormSpec.post enc Tryd.prog Tryd.f4 false true false false) := by
  refine returnsInHanded_of_change_and (C := Tryd.checked) (X := fun w _ => laidMetH Tryd.prog Rows.fnExprFormRow.laid w) (fun _ _ _ hh h => h.of_heap hh) ownNone started (by kernel_rfl) Tryd.func4
    (ChangeSpec.witness_shaped (enc := enc) (C := Tryd.checked) (os := os) (X := fun w _ => laidMetH Tryd.prog Rows.fnExprFormRow.laid w) false (World.doorLaid Tryd.prog 400 os) #[.slice none 0 0] 8 rfl (World.shaped_of_RefB (by kernel_rfl) (by kernel_rfl)) (by kernel_rfl) (by kernel_rfl) (by kernel_rfl) (door_met os _)) ?_
  intro W base args ds gs before hval0 hW _ hsz hL0 _
  have hval : ∀ (j : Nat) t v, Tryd.f4.params[j]? = some t → args[j]? = some v → Value.okWide Tryd.prog W .any base t v := hval0
  have hL : laidMet Tryd.prog Rows.fnExprFormRow.laid W := by rw [← MakeChecks.laidMetH_plain _ _ _ plain]; exact hL0
  have hWhole := hW
  obtain ⟨p, q, hA0, hV, rfl, hfz, hnd⟩ := hW
  have hA : DataW.TrodAll enc Tryd.prog W 0 (fun _ => true) true Tryd.f4.params.toList args.toList ds p := hA0
  rw [Tryd.params4] at hA hval
  clear hA0 hval0 hL0
  obtain ⟨v0, d0, rfl, rfl, h0⟩ := trodAll_one hA
  obtain ⟨A, l, cap, rfl, hB, hn, hcap⟩ := open_byteS Tryd.underlying34 Tryd.underlying5 (by kernel_rfl) (hval 0 34 v0 rfl rfl) h0
  have N : NTabs W := ntabs_of_laid hL (by simp [Rows.fnExprFormRow]) (by simp [Rows.fnExprFormRow]) (by simp [Rows.fnExprFormRow]) (by simp [Rows.fnExprFormRow])
  have T : Tabs W := tabs_of_laid hL (by simp [Rows.fnExprFormRow]) (by simp [Rows.fnExprFormRow])
  have G : Sgn W := sgn_of_laid hL (by simp [Rows.fnExprFormRow])
  obtain ⟨g1, g2, g3, rfl⟩ : ∃ g1 g2 g3, gs = [g1, g2, g3] := vars_three hV
  refine (fnExprForm_walk A l cap W hB hn hcap T N G).mono fun e W' ⟨he, hb⟩ => ⟨_, he, ?_⟩
  exact law_post laidOut (by kernel_rfl) (by kernel_rfl) (by kernel_rfl) Tryd.underlying4 rfl hWhole hb
theorem row_holds : Rows.FnExprFormSaid :=
  OpenClaim.holds_of_wide 4 Tryd.f4 rfl rfl rfl rfl rfl rfl rfl ⟨rfl, rfl, rfl, rfl, rfl⟩ rfl rfl rfl rfl rfl (by kernel_rfl) Tryd.func4 (by kernel_rfl)
    (of_decide_eq_true (by kernel_rfl)) (by unfold Func.isWrapper; first | (rw [if_pos (by decide +kernel)]; kernel_rfl) | (rw [if_neg (by decide +kernel)]; exact ⟨rfl, rfl⟩))
    (fun os started H enc _ => lifted os started H enc)
theorem holds : Rows.FnExprFormCardSaid :=
  Claim7.holds_tied_plain_at .later [] Rows.fnExprFormCard.laidKinds true Rows.fnExprFormCard.stood.harness true
    row_holds (fun _ h => by cases h) (by kernel_rfl) (fun _ h => by cases h) fnExprForm_row_tie rfl ⟨rfl, rfl⟩ (by kernel_rfl) rfl
    (fun f fn hf hfn => by
      obtain rfl : f = 4 := Option.some.inj ((show Tryd.prog.funcNamed Rows.fnExprFormRow.func = some 4 by kernel_rfl).symm.trans hf) |>.symm
      obtain rfl : fn = Tryd.f4 := (Option.some.inj (Tryd.func4.symm.trans hfn)).symm
      exact ⟨by kernel_rfl, fun j t ht => by
        have hall : (Tryd.f4.params.toList.all fun u => !Tryd.prog.wantsStandIn u) = true := by kernel_rfl
        exact (show Tryd.prog.wantsStandIn t = false by simpa using List.all_eq_true.1 hall t (by simpa using Array.mem_of_getElem? ht))⟩)
    (by kernel_rfl)
#print axioms holds
end ExExprForm
end Go.Proofs.YtoepehlndljkoaaDoor
