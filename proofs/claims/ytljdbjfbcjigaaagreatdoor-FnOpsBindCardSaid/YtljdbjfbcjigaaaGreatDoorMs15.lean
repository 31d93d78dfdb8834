/-
  The model's reader of expressions: l2Tight.
-/
import Derived.Test.YtljdbjfbcjigaaaGreatDoorMs13
namespace Go.Proofs.YtljdbjfbcjigaaaGreatDoor
open Go.RowKit
set_option maxRecDepth 100000

set_option maxHeartbeats 8000000 in
theorem readBetween_3 (R cap k m : Nat) (A : Option Addr) (ws : List W) (w : World) (hn : ws.length ≤ 600) (h : XR w R A cap ws k) (hm : 10 * (ws.length - k) + 10 ≤ m + 1 + 3) (G : Rts R w)
    (HC : ∀ (m' k' : Nat) (W : World), m' ≤ m → 10 * (ws.length - k') + 10 ≤ m' + 4 → XR W R A cap ws k' → Rts R W → Calls Tryz.prog 111 #[.pointer (some ⟨R + 1, 0, none⟩), .pointer (some ⟨R + 1 + 4, 0, none⟩)] W (PRet R cap A ws (rdL nmB m' 4 (ws.drop k')) W)) :
    Calls Tryz.prog 112 #[.pointer (some ⟨R, 0, none⟩), .int .i64 3] w (PRet R cap A ws (rdL nmB (m + 1) 3 (ws.drop k)) w) := by
  have hb0 := (Below.refl w.heap.size w).alloc (Nat.le_refl _) (.cells #[.int .i64 0, .int .i64 0, .string ⟨#[]⟩, .slice none 0 0] 28)
  have R0 := Lib.hid (Res.new w (.int .i64 0) (.int .i64 0) (.string ⟨#[]⟩) (.slice none 0 0) 28)
  have hz0 : (w.alloc (.cells #[.int .i64 0, .int .i64 0, .string ⟨#[]⟩, .slice none 0 0] 28)).heap.size = w.heap.size + 1 := World.size_alloc _ _
  have X0 := h.below hb0
  have HM0 := Lib.hid (Mv.of_below (R := R) hb0 h.cu.lt)
  have hlt := h.cu.lt
  have hrs := h.sz
  have hle := h.cu.le
  have C1 := Lib.hid (HC m k _ (Nat.le_refl _) (by omega) X0 (G.mv (Mv.of_below (R := R) hb0 h.cu.lt)))
  have c7 := X0.cl 4 (by omega) (by omega)
  unfold climbV at c7
  rw [if_neg (by omega), if_neg (by omega)] at c7
  have HX0 := Lib.hid X0
  have HG := Lib.hid (show ∀ W, Mv R w W → Rts R W from fun W hm => G.mv hm)
  have HCC := Lib.hid HC
  have HR := Lib.hid (show rdL nmB (m + 1) 3 (ws.drop k) = (rdL nmB m 4 (ws.drop k)).bind fun p => rdO nmB m 3 p.1 p.2 by
    show (if 4 < 3 then rdT nmB m (ws.drop k) else (rdL nmB m (3 + 1) (ws.drop k)).bind fun p => rdO nmB m 3 p.1 p.2) = _
    rw [if_neg (by omega)])
  have HLS := Lib.hid (fun e r => (rd_less nmB m).L 4 (ws.drop k) e r (by omega))
  clear h X0 hb0 HC G
  generalize rdL nmB (m + 1) 3 (ws.drop k) = res at *
  generalize rdL nmB m 4 (ws.drop k) = r1 at *
  go_enter Tryz.func112, Tryz.ntmps112
  go_wp2_with fail
  (with_reducible refine Calls.mono C1.out ?_)
  rintro ee w2 ⟨hm2, ⟨k2, hc2, hd2⟩, e, A2, c2, rfl, hp2, he⟩
  unfold exV
  have hs2 := hm2.1.below.size
  have hM2 := HM0.out.trans hm2
  have R2 := R0.out.mv hm2 hlt
  have XR2 := HX0.out.mv hm2 hc2
  have hal := (Below.refl w2.heap.size w2).alloc (Nat.le_refl _) (.cells #[.int .i64 e.op, .int .i64 e.n, .string e.name, .slice A2 e.kids.length c2] 28)
  have X3 := Res.new w2 (.int .i64 e.op) (.int .i64 e.n) (.string e.name) (.slice A2 e.kids.length c2) 28
  have HS := Lib.hid (show BRel w R cap A ws 3 m w2.heap.size res (ws.length + 1) (.bool r1.isSome) (w2.alloc (.cells #[.int .i64 e.op, .int .i64 e.n, .string e.name, .slice A2 e.kids.length c2] 28)) from by
    refine ⟨r1.isSome, e, A2, c2, k2, rfl, X3, (PdD.later hp2 hal (Nat.le_refl _) (Nat.le_refl _)).toX (.inr (Nat.le_refl _)) (by omega) hal.size, R2.below hal R2.lt, hM2.trans (Mv.of_below hal XR2.cu.lt), XR2.below hal, ?_⟩
    have hr := HR.out
    cases r1 with
    | none => exact .inl ⟨rfl, hr⟩
    | some p =>
      obtain ⟨x, r⟩ := p
      obtain rfl : e = x := he _ rfl
      have hd := hd2 _ rfl
      dsimp only at hd
      obtain ⟨a1, a2, _, _⟩ := HLS.out _ _ rfl
      obtain ⟨k3, q1, q2, q3, q4⟩ := suf_place a1 a2
      have hk3 : k2 = k3 := by
        have h1 : (ws.drop k2).length = (ws.drop k3).length := by rw [hd, q3]
        rw [List.length_drop, List.length_drop] at h1
        have := hc2.le
        omega
      subst hk3
      exact .inr ⟨rfl, by omega, m, Nat.le_refl _, by omega, by rw [hd]; exact hr.symm⟩)
  have hwX : w.heap.size < w2.heap.size := R2.lt
  generalize r1.isSome = b1 at *
  clear R0 HX0 HM0 C1 hm2 hc2 hd2 hp2 he hM2 R2 XR2 hal X3 HR HLS c7 hs2 hz0
  go_wp2_with fail
  generalize w2.heap.size = X at *
  go_loopg [7] (ws.length + 1) (fun gk v wr => BRel w R cap A ws 3 m X res gk v wr)
  case atStart => exact HS.out
  case round =>
    clear HS
    obtain ⟨ok, e, A2, c2, k2, rfl, hX3, hP3, hR3, hM3, hC3, hcase⟩ := hrel
    have HX := Lib.hid hX3
    have HP := Lib.hid hP3
    have HRr := Lib.hid hR3
    have HM := Lib.hid hM3
    have HC3 := Lib.hid hC3
    obtain ⟨x0, x1, x2, x3⟩ := hX3.c
    have hXl := hX3.lt
    clear hX3 hP3 hR3 hM3 hC3
    rcases hcase with ⟨rfl, hres⟩ | ⟨rfl, hgk, m2, hm2, ha2, hO⟩
    · obtain ⟨c0, c1, c2', c3⟩ := HRr.out.c
      have f0 := HRr.out.f 0
      have f1 := HRr.out.f 1
      have f2 := HRr.out.f 2
      have f3 := HRr.out.f 3
      subst hres
      go_wp2_with fail
      refine bodyPost_ret (v := .tuple #[.agg #[.int .i64 0, .int .i64 0, .string ⟨#[]⟩, .slice none 0 0], .bool false]) (by simp [results, Tryz.results112, go_sem, c0, c1, c2', c3]) rfl ?_
      exact pret_store (res := none) (e := E.none) (A' := none) (c := 0) (lo := w.heap.size + 1) hlt HM.out HC3.out.cu (fun p hp => by cases hp) (.inl rfl) (Nat.lt_succ_self _) (fun p hp => by cases hp)
    · have hkn := HC3.out.cu.le
      have TO := takeOp_any R cap k2 3 A ws wr HC3.out.cu hn (HG.out wr HM.out).sgn
      rw [show ((3 : Nat) : Int) = 3 from rfl] at TO
      replace TO := Lib.hid TO
      have HO := Lib.hid hO
      clear hO
      go_wp2_with fail
      (with_reducible refine Calls.mono TO.out ?_)
      rintro ee w4 hto
      clear TO
      rcases hto with ⟨op, ho3, ho12, rfl, hhit, hno, hm4, hc4⟩ | ⟨rfl, hno, hm4, hc4⟩
      · have HOP := Lib.hid (took_some (show 3 ≤ 4 by omega) ho3 ho12 hhit hno)
        have X4 := HX.out.mv hm4 (by omega)
        have R4 := HRr.out.mv hm4 hlt
        have P4 := pdd_keepX HP.out (fun b h1 h2 _ => hm4.1.above b (by omega) h2) hm4.1.below.size
        have HM4 := HM.out.trans hm4
        have XR4 := HC3.out.mv hm4 hc4
        have hs4 := hm4.1.below.size
        -- the box of the right one
        have hal5 := (Below.refl w4.heap.size w4).alloc (Nat.le_refl _) (.cells #[.int .i64 0, .int .i64 0, .string ⟨#[]⟩, .slice none 0 0] 28)
        have Y5 := Lib.hid (Res.new w4 (.int .i64 0) (.int .i64 0) (.string ⟨#[]⟩) (.slice none 0 0) 28)
        have XR5 := XR4.below hal5
        have C5 := Lib.hid (HCC.out (m2 - 1) (k2 + 1) _ (by omega) (by omega) XR5 (HG.out _ (HM4.trans (Mv.of_below hal5 XR4.cu.lt))))
        have d7 := XR5.cl 4 (by omega) (by omega)
        unfold climbV at d7
        rw [if_neg (by omega), if_neg (by omega)] at d7
        have HX4 := Lib.hid X4
        have HR4 := Lib.hid R4
        have HP4 := Lib.hid P4
        have HM5 := Lib.hid (HM4.trans (Mv.of_below hal5 XR4.cu.lt))
        have HXR5 := Lib.hid XR5
        have hz5 : (w4.alloc (.cells #[.int .i64 0, .int .i64 0, .string ⟨#[]⟩, .slice none 0 0] 28)).heap.size = w4.heap.size + 1 := World.size_alloc _ _
        have HOLD := Lib.hid (show ∀ b, b < w4.heap.size → (w4.alloc (.cells #[.int .i64 0, .int .i64 0, .string ⟨#[]⟩, .slice none 0 0] 28)).heap[b]? = w4.heap[b]? from fun b hb => heap_alloc_old _ _ hb)
        have hX4 : X < w4.heap.size := by omega
        clear hhit hno hm4 hc4 X4 R4 P4 HM4 XR4 hal5 XR5 HX HP HRr HM HC3 x0 x1 x2 x3
        go_upto_region 7 with (fail)
        generalize hw5 : w4.alloc (.cells #[.int .i64 0, .int .i64 0, .string ⟨#[]⟩, .slice none 0 0] 28) = w5 at *
        clear hw5
        go_wp2_with fail
        (with_reducible refine Calls.mono C5.out ?_)
        rintro ee w6 ⟨hm6, ⟨k3, hc6, hd6⟩, y, A5, c5, rfl, hp6, hy⟩
        unfold exV
        -- the last stores
        have HNX := Lib.hid (brel_next (x := e) (y := y) rfl hkn hm2 ha2 HO.out HOP.out rfl (show 3 ≤ 4 by omega) hy k3 hc6.le hd6)
        generalize (rdL nmB (m2 - 1) 4 (ws.drop (k2 + 1))).isSome = b6 at *
        have hs6 := hm6.1.below.size
        have hXl6 : X < w6.heap.size := by omega
        have hold6 : ∀ b, R < b → b < w4.heap.size → w6.heap[b]? = w4.heap[b]? := fun b h1 h2 => (hm6.1.above b h1 (by omega)).trans (HOLD.out b h2)
        have X6 := HX4.out.same (fun o => World.cell?_of_block (hold6 X (by omega) hX4)) (fun o => World.frozen?_of_block (hold6 X (by omega) hX4)) hXl6
        have R6 := HR4.out.same (fun o => World.cell?_of_block (hold6 w.heap.size hlt (by omega))) (fun o => World.frozen?_of_block (hold6 w.heap.size hlt (by omega))) (by omega)
        have Y6 := Y5.out.mv hm6 (by omega)
        have P6 := pdd_keepX HP4.out (fun b h1 h2 _ => hold6 b (by omega) h2) (by omega)
        have M6 := HM5.out.trans hm6
        have XR6 := HXR5.out.mv hm6 hc6
        obtain ⟨x0, x1, x2, x3⟩ := X6.c
        have g0 := X6.f 0
        have g1 := X6.f 1
        have g2 := X6.f 2
        have g3 := X6.f 3
        obtain ⟨y0, y1, y2, y3⟩ := Y6.c
        have h0 := Y6.f 0
        have h1 := Y6.f 1
        have h2 := Y6.f 2
        have h3 := Y6.f 3
        have hYX : w4.heap.size ≠ X := by omega
        have hXY : X ≠ w4.heap.size := by omega
        -- behind the stores into the box
        have Y7 := Lib.hid (res_four Y6 (.int .i64 y.op) (.int .i64 y.n) (.string y.name) (.slice A5 y.kids.length c5))
        have X7 := Lib.hid (res_four_off X6 hYX (.int .i64 y.op) (.int .i64 y.n) (.string y.name) (.slice A5 y.kids.length c5))
        have R7 := Lib.hid (res_four_off R6 (b' := w4.heap.size) (by omega) (.int .i64 y.op) (.int .i64 y.n) (.string y.name) (.slice A5 y.kids.length c5))
        have P7 := Lib.hid (pdd_keepQ (w' := (((w6.setCell ⟨w4.heap.size, 0, none⟩ (.int .i64 y.op)).setCell ⟨w4.heap.size, 1, none⟩ (.int .i64 y.n)).setCell ⟨w4.heap.size, 2, none⟩ (.string y.name)).setCell ⟨w4.heap.size, 3, none⟩ (.slice A5 y.kids.length c5)) HP4.out (fun b h1 h2 _ => (heap_four w6 w4.heap.size b (.int .i64 y.op) (.int .i64 y.n) (.string y.name) (.slice A5 y.kids.length c5) (by omega)).trans (hold6 b (by omega) h2)) (by simp; omega))
        have Q7 := Lib.hid (PdD.toQ (X := X) (lo' := w.heap.size + 1) (PdD.four' (hp6.wide (lo' := w4.heap.size + 1) (by omega) (Nat.le_refl _)) (Nat.lt_succ_self w4.heap.size) (.int .i64 y.op) (.int .i64 y.n) (.string y.name) (.slice A5 y.kids.length c5)) (.inl (by omega)) (by omega) (by simp))
        have M7 := Lib.hid (M6.four (b := w4.heap.size) (by omega) hlt (.int .i64 y.op) (.int .i64 y.n) (.string y.name) (.slice A5 y.kids.length c5))
        have XR7 := Lib.hid (XR6.four (b := w4.heap.size) (by omega) (.int .i64 y.op) (.int .i64 y.n) (.string y.name) (.slice A5 y.kids.length c5))
        have hz7 : ((((w6.setCell ⟨w4.heap.size, 0, none⟩ (.int .i64 y.op)).setCell ⟨w4.heap.size, 1, none⟩ (.int .i64 y.n)).setCell ⟨w4.heap.size, 2, none⟩ (.string y.name)).setCell ⟨w4.heap.size, 3, none⟩ (.slice A5 y.kids.length c5)).heap.size = w6.heap.size := by simp
        clear P6 M6 XR6 R6 hold6 hm6 hc6 hd6 hp6 hy HX4 HR4 HP4 HM5 HXR5 HOLD Y5 X6 Y6 C5 d7 HO HOP hz5
        clear x0 x1 x2 x3 g0 g1 g2 g3
        go_upto_region 8 with (fail)
        have z0 : ((((w6.setCell ⟨w4.heap.size, 0, none⟩ (.int .i64 y.op)).setCell ⟨w4.heap.size, 1, none⟩ (.int .i64 y.n)).setCell ⟨w4.heap.size, 2, none⟩ (.string y.name)).setCell ⟨w4.heap.size, 3, none⟩ (.slice A5 y.kids.length c5)).cell? ⟨w4.heap.size, 0, none⟩ = some (.int .i64 y.op) := Y7.out.c.1
        have z1 : ((((w6.setCell ⟨w4.heap.size, 0, none⟩ (.int .i64 y.op)).setCell ⟨w4.heap.size, 1, none⟩ (.int .i64 y.n)).setCell ⟨w4.heap.size, 2, none⟩ (.string y.name)).setCell ⟨w4.heap.size, 3, none⟩ (.slice A5 y.kids.length c5)).cell? ⟨w4.heap.size, 1, none⟩ = some (.int .i64 y.n) := Y7.out.c.2.1
        have z2 : ((((w6.setCell ⟨w4.heap.size, 0, none⟩ (.int .i64 y.op)).setCell ⟨w4.heap.size, 1, none⟩ (.int .i64 y.n)).setCell ⟨w4.heap.size, 2, none⟩ (.string y.name)).setCell ⟨w4.heap.size, 3, none⟩ (.slice A5 y.kids.length c5)).cell? ⟨w4.heap.size, 2, none⟩ = some (.string y.name) := Y7.out.c.2.2.1
        have z3 : ((((w6.setCell ⟨w4.heap.size, 0, none⟩ (.int .i64 y.op)).setCell ⟨w4.heap.size, 1, none⟩ (.int .i64 y.n)).setCell ⟨w4.heap.size, 2, none⟩ (.string y.name)).setCell ⟨w4.heap.size, 3, none⟩ (.slice A5 y.kids.length c5)).cell? ⟨w4.heap.size, 3, none⟩ = some (.slice A5 y.kids.length c5) := Y7.out.c.2.2.2
        generalize (((w6.setCell ⟨w4.heap.size, 0, none⟩ (.int .i64 y.op)).setCell ⟨w4.heap.size, 1, none⟩ (.int .i64 y.n)).setCell ⟨w4.heap.size, 2, none⟩ (.string y.name)).setCell ⟨w4.heap.size, 3, none⟩ (.slice A5 y.kids.length c5) = w7 at *
        clear y0 y1 y2 y3 h0 h1 h2 h3 Y7
        obtain ⟨x0, x1, x2, x3⟩ := X7.out.c
        have g0 := X7.out.f 0
        have g1 := X7.out.f 1
        have g2 := X7.out.f 2
        have g3 := X7.out.f 3
        have hXl7 := X7.out.lt
        have hal8 := (Below.refl w7.heap.size w7).alloc (Nat.le_refl _) (.cells #[.int .i64 e.op, .int .i64 e.n, .string e.name, .slice A2 e.kids.length c2, .int .i64 y.op, .int .i64 y.n, .string y.name, .slice A5 y.kids.length c5] 28)
        have X8 := Lib.hid (X7.out.below hal8 hXl7)
        have t0 := X8.out.f 0
        have t1 := X8.out.f 1
        have t2 := X8.out.f 2
        have t3 := X8.out.f 3
        obtain ⟨s0, s1, s2, s3⟩ := X8.out.c
        have HZ7 := Lib.hid hz7
        clear hal8 hz7
        go_wp2_with fail
        go_roundg (gk - 1)
        case measure => omega
        case rel =>
          have X9 := res_four X7.out (.int .i64 op) (.int .i64 0) (.string ⟨#[]⟩) (.slice (some ⟨w7.heap.size, 0, none⟩) 2 2)
          have R9 := res_four_off R7.out (b' := X) (by omega) (.int .i64 op) (.int .i64 0) (.string ⟨#[]⟩) (.slice (some ⟨w7.heap.size, 0, none⟩) 2 2)
          have P9 := pdd_fourQ P7.out (.int .i64 op) (.int .i64 0) (.string ⟨#[]⟩) (.slice (some ⟨w7.heap.size, 0, none⟩) 2 2)
          have Q9 := pdd_fourQ Q7.out (.int .i64 op) (.int .i64 0) (.string ⟨#[]⟩) (.slice (some ⟨w7.heap.size, 0, none⟩) 2 2)
          have M9 := M7.out.four (b := X) (by omega) hlt (.int .i64 op) (.int .i64 0) (.string ⟨#[]⟩) (.slice (some ⟨w7.heap.size, 0, none⟩) 2 2)
          have XR9 := XR7.out.four (b := X) (by omega) (.int .i64 op) (.int .i64 0) (.string ⟨#[]⟩) (.slice (some ⟨w7.heap.size, 0, none⟩) 2 2)
          have hz9 : ((((w7.setCell ⟨X, 0, none⟩ (.int .i64 op)).setCell ⟨X, 1, none⟩ (.int .i64 0)).setCell ⟨X, 2, none⟩ (.string ⟨#[]⟩)).setCell ⟨X, 3, none⟩ (.slice (some ⟨w7.heap.size, 0, none⟩) 2 2)).heap.size = w7.heap.size := by simp
          generalize ((((w7.setCell ⟨X, 0, none⟩ (.int .i64 op)).setCell ⟨X, 1, none⟩ (.int .i64 0)).setCell ⟨X, 2, none⟩ (.string ⟨#[]⟩)).setCell ⟨X, 3, none⟩ (.slice (some ⟨w7.heap.size, 0, none⟩) 2 2)) = w9 at *
          exact brel_round hz9 (by omega) hXl7 X9 R9 P9 Q9 M9 XR9 (by
            rcases HNX.out with h | ⟨h1, h2, m3, h3, h4, h5⟩
            · exact .inl h
            · exact .inr ⟨h1, by omega, m3, h3, h4, h5⟩)
      · have HOP := Lib.hid (took_none hno)
        have hres := rdO_none HO.out (by omega) HOP.out
        have X4 := HX.out.mv hm4 (by omega)
        have R4 := HRr.out.mv hm4 hlt
        have P4 := pdd_keepX HP.out (fun b h1 h2 _ => hm4.1.above b (by omega) h2) hm4.1.below.size
        have HM4 := Lib.hid (HM.out.trans hm4)
        have HC4 := Lib.hid hc4
        have HP4 := Lib.hid P4
        obtain ⟨x0', x1', x2', x3'⟩ := X4.c
        obtain ⟨c0, c1, c2', c3⟩ := R4.c
        have f0 := R4.f 0
        have f1 := R4.f 1
        have f2 := R4.f 2
        have f3 := R4.f 3
        clear hno hm4 hc4 X4 R4 P4 HOP HX HRr HP HM HC3 x0 x1 x2 x3 HO
        subst hres
        go_wp2_with fail
        refine bodyPost_ret (v := .tuple #[.agg #[.int .i64 e.op, .int .i64 e.n, .string e.name, .slice A2 e.kids.length c2], .bool true]) (by simp [results, Tryz.results112, go_sem, c0, c1, c2', c3]) rfl ?_
        exact pret_store (res := some (e, ws.drop k2)) (e := e) hlt HM4.out HC4.out (fun p hp => by injection hp with hp; rw [← hp]) HP4.out.fromX (Nat.lt_succ_self _) (fun p hp => by injection hp with hp; rw [← hp])
end Go.Proofs.YtljdbjfbcjigaaaGreatDoor

namespace Go.Proofs.YtljdbjfbcjigaaaGreatDoor
open Go.RowKit
set_option maxRecDepth 100000

set_option maxHeartbeats 8000000 in
theorem readBetween_4 (R cap k m : Nat) (A : Option Addr) (ws : List W) (w : World) (hn : ws.length ≤ 600) (h : XR w R A cap ws k) (hm : 10 * (ws.length - k) + 10 ≤ m + 1 + 4) (G : Rts R w)
    (HC : ∀ (m' k' : Nat) (W : World), m' ≤ m → 10 * (ws.length - k') + 10 ≤ m' + 5 → XR W R A cap ws k' → Rts R W → Calls Tryz.prog 113 #[.pointer (some ⟨R + 1, 0, none⟩)] W (PRet R cap A ws (rdL nmB m' 5 (ws.drop k')) W)) :
    Calls Tryz.prog 112 #[.pointer (some ⟨R, 0, none⟩), .int .i64 4] w (PRet R cap A ws (rdL nmB (m + 1) 4 (ws.drop k)) w) := by
  have hb0 := (Below.refl w.heap.size w).alloc (Nat.le_refl _) (.cells #[.int .i64 0, .int .i64 0, .string ⟨#[]⟩, .slice none 0 0] 28)
  have R0 := Lib.hid (Res.new w (.int .i64 0) (.int .i64 0) (.string ⟨#[]⟩) (.slice none 0 0) 28)
  have hz0 : (w.alloc (.cells #[.int .i64 0, .int .i64 0, .string ⟨#[]⟩, .slice none 0 0] 28)).heap.size = w.heap.size + 1 := World.size_alloc _ _
  have X0 := h.below hb0
  have HM0 := Lib.hid (Mv.of_below (R := R) hb0 h.cu.lt)
  have hlt := h.cu.lt
  have hrs := h.sz
  have hle := h.cu.le
  have C1 := Lib.hid (HC m k _ (Nat.le_refl _) (by omega) X0 (G.mv (Mv.of_below (R := R) hb0 h.cu.lt)))
  have c7 := X0.cl 5 (by omega) (by omega)
  unfold climbV at c7
  rw [if_pos rfl] at c7
  have HX0 := Lib.hid X0
  have HG := Lib.hid (show ∀ W, Mv R w W → Rts R W from fun W hm => G.mv hm)
  have HCC := Lib.hid HC
  have HR := Lib.hid (show rdL nmB (m + 1) 4 (ws.drop k) = (rdL nmB m 5 (ws.drop k)).bind fun p => rdO nmB m 4 p.1 p.2 by
    show (if 4 < 4 then rdT nmB m (ws.drop k) else (rdL nmB m (4 + 1) (ws.drop k)).bind fun p => rdO nmB m 4 p.1 p.2) = _
    rw [if_neg (by omega)])
  have HLS := Lib.hid (fun e r => (rd_less nmB m).L 5 (ws.drop k) e r (by omega))
  clear h X0 hb0 HC G
  generalize rdL nmB (m + 1) 4 (ws.drop k) = res at *
  generalize rdL nmB m 5 (ws.drop k) = r1 at *
  go_enter Tryz.func112, Tryz.ntmps112
  go_wp2_with fail
  (with_reducible refine Calls.mono C1.out ?_)
  rintro ee w2 ⟨hm2, ⟨k2, hc2, hd2⟩, e, A2, c2, rfl, hp2, he⟩
  unfold exV
  have hs2 := hm2.1.below.size
  have hM2 := HM0.out.trans hm2
  have R2 := R0.out.mv hm2 hlt
  have XR2 := HX0.out.mv hm2 hc2
  have hal := (Below.refl w2.heap.size w2).alloc (Nat.le_refl _) (.cells #[.int .i64 e.op, .int .i64 e.n, .string e.name, .slice A2 e.kids.length c2] 28)
  have X3 := Res.new w2 (.int .i64 e.op) (.int .i64 e.n) (.string e.name) (.slice A2 e.kids.length c2) 28
  have HS := Lib.hid (show BRel w R cap A ws 4 m w2.heap.size res (ws.length + 1) (.bool r1.isSome) (w2.alloc (.cells #[.int .i64 e.op, .int .i64 e.n, .string e.name, .slice A2 e.kids.length c2] 28)) from by
    refine ⟨r1.isSome, e, A2, c2, k2, rfl, X3, (PdD.later hp2 hal (Nat.le_refl _) (Nat.le_refl _)).toX (.inr (Nat.le_refl _)) (by omega) hal.size, R2.below hal R2.lt, hM2.trans (Mv.of_below hal XR2.cu.lt), XR2.below hal, ?_⟩
    have hr := HR.out
    cases r1 with
    | none => exact .inl ⟨rfl, hr⟩
    | some p =>
      obtain ⟨x, r⟩ := p
      obtain rfl : e = x := he _ rfl
      have hd := hd2 _ rfl
      dsimp only at hd
      obtain ⟨a1, a2, _, _⟩ := HLS.out _ _ rfl
      obtain ⟨k3, q1, q2, q3, q4⟩ := suf_place a1 a2
      have hk3 : k2 = k3 := by
        have h1 : (ws.drop k2).length = (ws.drop k3).length := by rw [hd, q3]
        rw [List.length_drop, List.length_drop] at h1
        have := hc2.le
        omega
      subst hk3
      exact .inr ⟨rfl, by omega, m, Nat.le_refl _, by omega, by rw [hd]; exact hr.symm⟩)
  have hwX : w.heap.size < w2.heap.size := R2.lt
  generalize r1.isSome = b1 at *
  clear R0 HX0 HM0 C1 hm2 hc2 hd2 hp2 he hM2 R2 XR2 hal X3 HR HLS c7 hs2 hz0
  go_wp2_with fail
  generalize w2.heap.size = X at *
  go_loopg [7] (ws.length + 1) (fun gk v wr => BRel w R cap A ws 4 m X res gk v wr)
  case atStart => exact HS.out
  case round =>
    clear HS
    obtain ⟨ok, e, A2, c2, k2, rfl, hX3, hP3, hR3, hM3, hC3, hcase⟩ := hrel
    have HX := Lib.hid hX3
    have HP := Lib.hid hP3
    have HRr := Lib.hid hR3
    have HM := Lib.hid hM3
    have HC3 := Lib.hid hC3
    obtain ⟨x0, x1, x2, x3⟩ := hX3.c
    have hXl := hX3.lt
    clear hX3 hP3 hR3 hM3 hC3
    rcases hcase with ⟨rfl, hres⟩ | ⟨rfl, hgk, m2, hm2, ha2, hO⟩
    · obtain ⟨c0, c1, c2', c3⟩ := HRr.out.c
      have f0 := HRr.out.f 0
      have f1 := HRr.out.f 1
      have f2 := HRr.out.f 2
      have f3 := HRr.out.f 3
      subst hres
      go_wp2_with fail
      refine bodyPost_ret (v := .tuple #[.agg #[.int .i64 0, .int .i64 0, .string ⟨#[]⟩, .slice none 0 0], .bool false]) (by simp [results, Tryz.results112, go_sem, c0, c1, c2', c3]) rfl ?_
      exact pret_store (res := none) (e := E.none) (A' := none) (c := 0) (lo := w.heap.size + 1) hlt HM.out HC3.out.cu (fun p hp => by cases hp) (.inl rfl) (Nat.lt_succ_self _) (fun p hp => by cases hp)
    · have hkn := HC3.out.cu.le
      have TO := takeOp_any R cap k2 4 A ws wr HC3.out.cu hn (HG.out wr HM.out).sgn
      rw [show ((4 : Nat) : Int) = 4 from rfl] at TO
      replace TO := Lib.hid TO
      have HO := Lib.hid hO
      clear hO
      go_wp2_with fail
      (with_reducible refine Calls.mono TO.out ?_)
      rintro ee w4 hto
      clear TO
      rcases hto with ⟨op, ho3, ho12, rfl, hhit, hno, hm4, hc4⟩ | ⟨rfl, hno, hm4, hc4⟩
      · have HOP := Lib.hid (took_some (show 4 ≤ 4 by omega) ho3 ho12 hhit hno)
        have X4 := HX.out.mv hm4 (by omega)
        have R4 := HRr.out.mv hm4 hlt
        have P4 := pdd_keepX HP.out (fun b h1 h2 _ => hm4.1.above b (by omega) h2) hm4.1.below.size
        have HM4 := HM.out.trans hm4
        have XR4 := HC3.out.mv hm4 hc4
        have hs4 := hm4.1.below.size
        -- the box of the right one
        have hal5 := (Below.refl w4.heap.size w4).alloc (Nat.le_refl _) (.cells #[.int .i64 0, .int .i64 0, .string ⟨#[]⟩, .slice none 0 0] 28)
        have Y5 := Lib.hid (Res.new w4 (.int .i64 0) (.int .i64 0) (.string ⟨#[]⟩) (.slice none 0 0) 28)
        have XR5 := XR4.below hal5
        have C5 := Lib.hid (HCC.out (m2 - 1) (k2 + 1) _ (by omega) (by omega) XR5 (HG.out _ (HM4.trans (Mv.of_below hal5 XR4.cu.lt))))
        have d7 := XR5.cl 5 (by omega) (by omega)
        unfold climbV at d7
        rw [if_pos rfl] at d7
        have HX4 := Lib.hid X4
        have HR4 := Lib.hid R4
        have HP4 := Lib.hid P4
        have HM5 := Lib.hid (HM4.trans (Mv.of_below hal5 XR4.cu.lt))
        have HXR5 := Lib.hid XR5
        have hz5 : (w4.alloc (.cells #[.int .i64 0, .int .i64 0, .string ⟨#[]⟩, .slice none 0 0] 28)).heap.size = w4.heap.size + 1 := World.size_alloc _ _
        have HOLD := Lib.hid (show ∀ b, b < w4.heap.size → (w4.alloc (.cells #[.int .i64 0, .int .i64 0, .string ⟨#[]⟩, .slice none 0 0] 28)).heap[b]? = w4.heap[b]? from fun b hb => heap_alloc_old _ _ hb)
        have hX4 : X < w4.heap.size := by omega
        clear hhit hno hm4 hc4 X4 R4 P4 HM4 XR4 hal5 XR5 HX HP HRr HM HC3 x0 x1 x2 x3
        go_upto_region 7 with (fail)
        generalize hw5 : w4.alloc (.cells #[.int .i64 0, .int .i64 0, .string ⟨#[]⟩, .slice none 0 0] 28) = w5 at *
        clear hw5
        go_wp2_with fail
        (with_reducible refine Calls.mono C5.out ?_)
        rintro ee w6 ⟨hm6, ⟨k3, hc6, hd6⟩, y, A5, c5, rfl, hp6, hy⟩
        unfold exV
        -- the last stores
        have HNX := Lib.hid (brel_next (x := e) (y := y) rfl hkn hm2 ha2 HO.out HOP.out rfl (show 4 ≤ 4 by omega) hy k3 hc6.le hd6)
        generalize (rdL nmB (m2 - 1) 5 (ws.drop (k2 + 1))).isSome = b6 at *
        have hs6 := hm6.1.below.size
        have hXl6 : X < w6.heap.size := by omega
        have hold6 : ∀ b, R < b → b < w4.heap.size → w6.heap[b]? = w4.heap[b]? := fun b h1 h2 => (hm6.1.above b h1 (by omega)).trans (HOLD.out b h2)
        have X6 := HX4.out.same (fun o => World.cell?_of_block (hold6 X (by omega) hX4)) (fun o => World.frozen?_of_block (hold6 X (by omega) hX4)) hXl6
        have R6 := HR4.out.same (fun o => World.cell?_of_block (hold6 w.heap.size hlt (by omega))) (fun o => World.frozen?_of_block (hold6 w.heap.size hlt (by omega))) (by omega)
        have Y6 := Y5.out.mv hm6 (by omega)
        have P6 := pdd_keepX HP4.out (fun b h1 h2 _ => hold6 b (by omega) h2) (by omega)
        have M6 := HM5.out.trans hm6
        have XR6 := HXR5.out.mv hm6 hc6
        obtain ⟨x0, x1, x2, x3⟩ := X6.c
        have g0 := X6.f 0
        have g1 := X6.f 1
        have g2 := X6.f 2
        have g3 := X6.f 3
        obtain ⟨y0, y1, y2, y3⟩ := Y6.c
        have h0 := Y6.f 0
        have h1 := Y6.f 1
        have h2 := Y6.f 2
        have h3 := Y6.f 3
        have hYX : w4.heap.size ≠ X := by omega
        have hXY : X ≠ w4.heap.size := by omega
        -- behind the stores into the box
        have Y7 := Lib.hid (res_four Y6 (.int .i64 y.op) (.int .i64 y.n) (.string y.name) (.slice A5 y.kids.length c5))
        have X7 := Lib.hid (res_four_off X6 hYX (.int .i64 y.op) (.int .i64 y.n) (.string y.name) (.slice A5 y.kids.length c5))
        have R7 := Lib.hid (res_four_off R6 (b' := w4.heap.size) (by omega) (.int .i64 y.op) (.int .i64 y.n) (.string y.name) (.slice A5 y.kids.length c5))
        have P7 := Lib.hid (pdd_keepQ (w' := (((w6.setCell ⟨w4.heap.size, 0, none⟩ (.int .i64 y.op)).setCell ⟨w4.heap.size, 1, none⟩ (.int .i64 y.n)).setCell ⟨w4.heap.size, 2, none⟩ (.string y.name)).setCell ⟨w4.heap.size, 3, none⟩ (.slice A5 y.kids.length c5)) HP4.out (fun b h1 h2 _ => (heap_four w6 w4.heap.size b (.int .i64 y.op) (.int .i64 y.n) (.string y.name) (.slice A5 y.kids.length c5) (by omega)).trans (hold6 b (by omega) h2)) (by simp; omega))
        have Q7 := Lib.hid (PdD.toQ (X := X) (lo' := w.heap.size + 1) (PdD.four' (hp6.wide (lo' := w4.heap.size + 1) (by omega) (Nat.le_refl _)) (Nat.lt_succ_self w4.heap.size) (.int .i64 y.op) (.int .i64 y.n) (.string y.name) (.slice A5 y.kids.length c5)) (.inl (by omega)) (by omega) (by simp))
        have M7 := Lib.hid (M6.four (b := w4.heap.size) (by omega) hlt (.int .i64 y.op) (.int .i64 y.n) (.string y.name) (.slice A5 y.kids.length c5))
        have XR7 := Lib.hid (XR6.four (b := w4.heap.size) (by omega) (.int .i64 y.op) (.int .i64 y.n) (.string y.name) (.slice A5 y.kids.length c5))
        have hz7 : ((((w6.setCell ⟨w4.heap.size, 0, none⟩ (.int .i64 y.op)).setCell ⟨w4.heap.size, 1, none⟩ (.int .i64 y.n)).setCell ⟨w4.heap.size, 2, none⟩ (.string y.name)).setCell ⟨w4.heap.size, 3, none⟩ (.slice A5 y.kids.length c5)).heap.size = w6.heap.size := by simp
        clear P6 M6 XR6 R6 hold6 hm6 hc6 hd6 hp6 hy HX4 HR4 HP4 HM5 HXR5 HOLD Y5 X6 Y6 C5 d7 HO HOP hz5
        clear x0 x1 x2 x3 g0 g1 g2 g3
        go_upto_region 8 with (fail)
        have z0 : ((((w6.setCell ⟨w4.heap.size, 0, none⟩ (.int .i64 y.op)).setCell ⟨w4.heap.size, 1, none⟩ (.int .i64 y.n)).setCell ⟨w4.heap.size, 2, none⟩ (.string y.name)).setCell ⟨w4.heap.size, 3, none⟩ (.slice A5 y.kids.length c5)).cell? ⟨w4.heap.size, 0, none⟩ = some (.int .i64 y.op) := Y7.out.c.1
        have z1 : ((((w6.setCell ⟨w4.heap.size, 0, none⟩ (.int .i64 y.op)).setCell ⟨w4.heap.size, 1, none⟩ (.int .i64 y.n)).setCell ⟨w4.heap.size, 2, none⟩ (.string y.name)).setCell ⟨w4.heap.size, 3, none⟩ (.slice A5 y.kids.length c5)).cell? ⟨w4.heap.size, 1, none⟩ = some (.int .i64 y.n) := Y7.out.c.2.1
        have z2 : ((((w6.setCell ⟨w4.heap.size, 0, none⟩ (.int .i64 y.op)).setCell ⟨w4.heap.size, 1, none⟩ (.int .i64 y.n)).setCell ⟨w4.heap.size, 2, none⟩ (.string y.name)).setCell ⟨w4.heap.size, 3, none⟩ (.slice A5 y.kids.length c5)).cell? ⟨w4.heap.size, 2, none⟩ = some (.string y.name) := Y7.out.c.2.2.1
        have z3 : ((((w6.setCell ⟨w4.heap.size, 0, none⟩ (.int .i64 y.op)).setCell ⟨w4.heap.size, 1, none⟩ (.int .i64 y.n)).setCell ⟨w4.heap.size, 2, none⟩ (.string y.name)).setCell ⟨w4.heap.size, 3, none⟩ (.slice A5 y.kids.length c5)).cell? ⟨w4.heap.size, 3, none⟩ = some (.slice A5 y.kids.length c5) := Y7.out.c.2.2.2
        generalize (((w6.setCell ⟨w4.heap.size, 0, none⟩ (.int .i64 y.op)).setCell ⟨w4.heap.size, 1, none⟩ (.int .i64 y.n)).setCell ⟨w4.heap.size, 2, none⟩ (.string y.name)).setCell ⟨w4.heap.size, 3, none⟩ (.slice A5 y.kids.length c5) = w7 at *
        clear y0 y1 y2 y3 h0 h1 h2 h3 Y7
        obtain ⟨x0, x1, x2, x3⟩ := X7.out.c
        have g0 := X7.out.f 0
        have g1 := X7.out.f 1
        have g2 := X7.out.f 2
        have g3 := X7.out.f 3
        have hXl7 := X7.out.lt
        have hal8 := (Below.refl w7.heap.size w7).alloc (Nat.le_refl _) (.cells #[.int .i64 e.op, .int .i64 e.n, .string e.name, .slice A2 e.kids.length c2, .int .i64 y.op, .int .i64 y.n, .string y.name, .slice A5 y.kids.length c5] 28)
        have X8 := Lib.hid (X7.out.below hal8 hXl7)
        have t0 := X8.out.f 0
        have t1 := X8.out.f 1
        have t2 := X8.out.f 2
        have t3 := X8.out.f 3
        obtain ⟨s0, s1, s2, s3⟩ := X8.out.c
        have HZ7 := Lib.hid hz7
        clear hal8 hz7
        go_wp2_with fail
        go_roundg (gk - 1)
        case measure => omega
        case rel =>
          have X9 := res_four X7.out (.int .i64 op) (.int .i64 0) (.string ⟨#[]⟩) (.slice (some ⟨w7.heap.size, 0, none⟩) 2 2)
          have R9 := res_four_off R7.out (b' := X) (by omega) (.int .i64 op) (.int .i64 0) (.string ⟨#[]⟩) (.slice (some ⟨w7.heap.size, 0, none⟩) 2 2)
          have P9 := pdd_fourQ P7.out (.int .i64 op) (.int .i64 0) (.string ⟨#[]⟩) (.slice (some ⟨w7.heap.size, 0, none⟩) 2 2)
          have Q9 := pdd_fourQ Q7.out (.int .i64 op) (.int .i64 0) (.string ⟨#[]⟩) (.slice (some ⟨w7.heap.size, 0, none⟩) 2 2)
          have M9 := M7.out.four (b := X) (by omega) hlt (.int .i64 op) (.int .i64 0) (.string ⟨#[]⟩) (.slice (some ⟨w7.heap.size, 0, none⟩) 2 2)
          have XR9 := XR7.out.four (b := X) (by omega) (.int .i64 op) (.int .i64 0) (.string ⟨#[]⟩) (.slice (some ⟨w7.heap.size, 0, none⟩) 2 2)
          have hz9 : ((((w7.setCell ⟨X, 0, none⟩ (.int .i64 op)).setCell ⟨X, 1, none⟩ (.int .i64 0)).setCell ⟨X, 2, none⟩ (.string ⟨#[]⟩)).setCell ⟨X, 3, none⟩ (.slice (some ⟨w7.heap.size, 0, none⟩) 2 2)).heap.size = w7.heap.size := by simp
          generalize ((((w7.setCell ⟨X, 0, none⟩ (.int .i64 op)).setCell ⟨X, 1, none⟩ (.int .i64 0)).setCell ⟨X, 2, none⟩ (.string ⟨#[]⟩)).setCell ⟨X, 3, none⟩ (.slice (some ⟨w7.heap.size, 0, none⟩) 2 2)) = w9 at *
          exact brel_round hz9 (by omega) hXl7 X9 R9 P9 Q9 M9 XR9 (by
            rcases HNX.out with h | ⟨h1, h2, m3, h3, h4, h5⟩
            · exact .inl h
            · exact .inr ⟨h1, by omega, m3, h3, h4, h5⟩)
      · have HOP := Lib.hid (took_none hno)
        have hres := rdO_none HO.out (by omega) HOP.out
        have X4 := HX.out.mv hm4 (by omega)
        have R4 := HRr.out.mv hm4 hlt
        have P4 := pdd_keepX HP.out (fun b h1 h2 _ => hm4.1.above b (by omega) h2) hm4.1.below.size
        have HM4 := Lib.hid (HM.out.trans hm4)
        have HC4 := Lib.hid hc4
        have HP4 := Lib.hid P4
        obtain ⟨x0', x1', x2', x3'⟩ := X4.c
        obtain ⟨c0, c1, c2', c3⟩ := R4.c
        have f0 := R4.f 0
        have f1 := R4.f 1
        have f2 := R4.f 2
        have f3 := R4.f 3
        clear hno hm4 hc4 X4 R4 P4 HOP HX HRr HP HM HC3 x0 x1 x2 x3 HO
        subst hres
        go_wp2_with fail
        refine bodyPost_ret (v := .tuple #[.agg #[.int .i64 e.op, .int .i64 e.n, .string e.name, .slice A2 e.kids.length c2], .bool true]) (by simp [results, Tryz.results112, go_sem, c0, c1, c2', c3]) rfl ?_
        exact pret_store (res := some (e, ws.drop k2)) (e := e) hlt HM4.out HC4.out (fun p hp => by injection hp with hp; rw [← hp]) HP4.out.fromX (Nat.lt_succ_self _) (fun p hp => by injection hp with hp; rw [← hp])
end Go.Proofs.YtljdbjfbcjigaaaGreatDoor

namespace Go.Proofs.YtljdbjfbcjigaaaGreatDoor
open Go.RowKit
set_option maxRecDepth 100000

theorem T_un {op : Int} {ws : List W} {k m : Nat} (h : aheadAt (ws.drop k) = some op) : rdT nmB (m + 1) (ws.drop k) = (rdT nmB m (ws.drop (k + 1))).bind fun p => some (unE op p.1, p.2) := by
  show (match aheadAt (ws.drop k) with
    | some op => (rdT nmB m (ws.drop k).tail).bind fun p => some (unE op p.1, p.2)
    | none => rdW nmB m (ws.drop k)) = _
  rw [h, tail_drop]
theorem T_at {ws : List W} {k m : Nat} (h : aheadAt (ws.drop k) = none) (hk : k < ws.length) : rdT nmB (m + 2) (ws.drop k) =
    if ws[k].2 = lpS then (rdL nmB m 1 (ws.drop (k + 1))).bind fun p => if isT p.2 rpS = true then some (p.1, p.2.tail) else none
      else if ws[k].1 = 2 then some (numE (nmB ws[k].2), ws.drop (k + 1))
      else if ws[k].1 = 1 then (if isT (ws.drop (k + 1)) lpS = true then (rdC nmB m (ws.drop (k + 2))).bind fun p => some (callE ws[k].2 p.1, p.2) else some (varE ws[k].2, ws.drop (k + 1)))
      else none := by
  rw [rdT_ahead h, List.drop_eq_getElem_cons hk, rdW_eq, tail_drop]
theorem T_end {ws : List W} {k m : Nat} (h : aheadAt (ws.drop k) = none) (hk : ¬ k < ws.length) : rdT nmB (m + 2) (ws.drop k) = none := by
  rw [rdT_ahead h, List.drop_eq_nil_of_le (by omega)]
  rfl


end Go.Proofs.YtljdbjfbcjigaaaGreatDoor
