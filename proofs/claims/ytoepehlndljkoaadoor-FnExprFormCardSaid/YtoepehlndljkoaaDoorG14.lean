/-
  Drawn expressions with calls: l2Any.
-/
import Derived.Test.YtoepehlndljkoaaDoorG13
namespace Go.Proofs.YtoepehlndljkoaaDoor
open Go.RowKit
set_option maxRecDepth 100000

def nmA : List ByteArray := [⟨#[97]⟩, ⟨#[98]⟩, ⟨#[120]⟩, ⟨#[103, 111]⟩]
def nmB2 : List ByteArray := [⟨#[97]⟩, ⟨#[98]⟩]
theorem nmA_size : ∀ s ∈ nmA, s.size ≤ 8 := by decide
theorem nmB2_size : ∀ s ∈ nmB2, s.size ≤ 8 := by decide
theorem Rd.alloc {w : World} {R p : Nat} (h : Rd w R p) (o : Obj) : Rd (w.alloc o) R p := h.keep ((Below.refl _ _).alloc (Nat.le_refl _) o)
theorem Rd.drew {w : World} {R p : Nat} (h : Rd w R p) : Rd w.drew R p := ⟨h.ex⟩
theorem kid_cells (e : E) (A : Option Addr) (c : Nat) : ∀ u ∈ (Kd.mk e A c).cells, u.oneCell' = true := by
  intro u hu
  simp only [Kd.cells, List.mem_cons, List.not_mem_nil, or_false] at hu
  rcases hu with rfl | rfl | rfl | rfl <;> rfl
theorem new_four (w : World) (a b c d : Value) (t : TypeId) : ∀ (j : Nat) u, [a, b, c, d][j]? = some u → (w.alloc (.cells #[a, b, c, d] t)).cell? ((⟨w.heap.size, 0, none⟩ : Addr).add j) = some u := by
  intro j u hu
  have e1 : (⟨w.heap.size, 0, none⟩ : Addr).add j = ⟨w.heap.size, j, none⟩ := by
    unfold Addr.add
    by_cases hj : j = 0
    · rw [if_pos hj, hj]
    · rw [if_neg hj, Nat.zero_add]
  rw [e1, alloc_cell, ← hu, ← List.getElem?_toArray]
theorem Res.grow {w w' : World} {b : Nat} {v0 v1 v2 v3 : Value} {row : Option Nat} (h : Res w b v0 v1 v2 v3) (hg : w.grownBy w' row) (hne : some b ≠ row) : Res w' b v0 v1 v2 v3 :=
  ⟨⟨hg.cell h.c.1 hne, hg.cell h.c.2.1 hne, hg.cell h.c.2.2.1 hne, hg.cell h.c.2.2.2 hne⟩, fun o => (World.frozen?_of_block (hg.block b h.lt hne)).trans (h.f o), Nat.lt_of_lt_of_le h.lt hg.size⟩
theorem Res.set3 {w : World} {b : Nat} {v0 v1 v2 v3 : Value} (h : Res w b v0 v1 v2 v3) (u : Value) : Res (w.setCell ⟨b, 3, none⟩ u) b v0 v1 v2 u := by
  have ne : ∀ k, k ≠ 3 → (w.setCell ⟨b, 3, none⟩ u).cell? ⟨b, k, none⟩ = w.cell? ⟨b, k, none⟩ := fun k hk => World.cell?_setCell_other _ _ _ _ (by intro e; injection e with _ e; exact hk e.symm)
  refine ⟨⟨(ne 0 (by decide)).trans h.c.1, (ne 1 (by decide)).trans h.c.2.1, (ne 2 (by decide)).trans h.c.2.2.1, World.cell?_setCell_same _ _ _ h.c.2.2.2⟩, fun o => ?_, by simpa using h.lt⟩
  rw [World.frozen?_setCell]; exact h.f o
theorem DrewT.lt {R p : Nat} {w w' : World} (h : DrewT R p w w') : R < w'.heap.size := by
  obtain ⟨⟨_, _, q⟩, _⟩ := h
  exact q.lt
theorem DrewT.step {R p : Nat} {w w1 w2 : World} (h : DrewT R p w w1) (hb : Below w1.heap.size w1 w2) : DrewT R p w w2 := by
  obtain ⟨⟨q, hq, hr⟩, ht⟩ := h
  exact ⟨⟨q, hq, hr.keep hb⟩, ht.trans (Touch.of_below hb hr.lt)⟩
theorem DrewT.grow {R p : Nat} {w w1 w2 : World} {row : Option Nat} (h : DrewT R p w w1) (hg : w1.grownBy w2 row) (hrow : ∀ k, row = some k → w.heap.size ≤ k) (hR : R < w.heap.size) : DrewT R p w w2 := by
  obtain ⟨⟨q, hq, hr⟩, ht⟩ := h
  have hb : Below R w1 w2 := (Below.refl R w1).grown hg (Nat.le_of_lt hr.lt) (fun k e => by have := hrow k e; omega)
  refine ⟨⟨q, hq, ?_⟩, ht.below.trans hb, fun k h1 h2 => ?_⟩
  · obtain ⟨A, l, cap, h0, h1, h2⟩ := hr.ex
    exact ⟨A, l, cap, h0, (hg.block R hr.lt (fun e => by have := hrow R e.symm; omega)).trans h1, h2.below hb⟩
  · exact (hg.block k (Nat.lt_of_lt_of_le h2 ht.below.size) (fun e => by have := hrow k e.symm; omega)).trans (ht.above k h1 h2)
set_option maxHeartbeats 4000000 in
theorem l2Any_any (R p d : Nat) (hd : d ≤ 10) (w : World) (h : Rd w R p) (hp : p + pk d + 200 ≤ 900000) :
    Calls Tryd.prog 38 #[.pointer (some ⟨R, 0, none⟩), .int .i64 (d : Int)] w (DrRet R (p + pk d + 150) (bdE d + 400) w) := by
  have hlt := h.lt
  have hb0 := (Below.refl w.heap.size w).alloc (Nat.le_refl _) (.cells #[.int .i64 0, .int .i64 0, .string ⟨#[]⟩, .slice none 0 0] 30)
  have hz0 : (w.alloc (.cells #[.int .i64 0, .int .i64 0, .string ⟨#[]⟩, .slice none 0 0] 30)).heap.size = w.heap.size + 1 := World.size_alloc _ _
  have D0 := Lib.hid (DrewT.below h hb0)
  have R0 := Lib.hid (Res.new w (.int .i64 0) (.int .i64 0) (.string ⟨#[]⟩) (.slice none 0 0) 30)
  have hr0 := h.keep hb0
  have LX := l2Expr_any R (w.heap.size + 1) 0 4 nmA (by decide) (by decide) nmA_size d hd p ((w.alloc (.cells #[.int .i64 0, .int .i64 0, .string ⟨#[]⟩, .slice none 0 0] 30)).alloc (.cells (nmA.map Value.string).toArray 9 (0, 0))) (hr0.alloc _) (by omega) (by have h1 := NmS.lit (w := w.alloc (.cells #[.int .i64 0, .int .i64 0, .string ⟨#[]⟩, .slice none 0 0] 30)) nmA 9 (0, 0) hr0.lt; rw [hz0] at h1; exact h1)
  have D1 := Lib.hid (D0.out.trans (DrewT.below hr0 ((Below.refl _ _).alloc (Nat.le_refl _) (.cells (nmA.map Value.string).toArray 9 (0, 0)))))
  have R1 := Lib.hid (R0.out.touch (Touch.of_below ((Below.refl _ _).alloc (Nat.le_refl _) (.cells (nmA.map Value.string).toArray 9 (0, 0))) hr0.lt) hlt)
  have hw1 : w.heap.size < ((w.alloc (.cells #[.int .i64 0, .int .i64 0, .string ⟨#[]⟩, .slice none 0 0] 30)).alloc (.cells (nmA.map Value.string).toArray 9 (0, 0))).heap.size := R1.out.lt
  have HW1 := Lib.hid hw1
  replace LX := Lib.hid LX
  clear h hb0 hr0 hz0 D0 R0 hw1
  go_enter Tryd.func38, Tryd.ntmps38
  go_wp2_with fail
  refine Calls.mono LX.out ?_
  rintro ee w1 ⟨e1, A1, cc1, rfl, hk1, hbk1, hd1⟩
  unfold exV
  have D2 := Lib.hid (D1.out.trans hd1)
  have R2 := Lib.hid (R1.out.touch hd1.2 hlt)
  have K1 := Lib.hid (hk1.wide HW1.out)
  obtain ⟨p1, hp1, hr1⟩ := hd1.1
  clear hk1 hd1 D1 R1 LX HW1
  have hR1 : R < w1.heap.size := hr1.lt
  have hb2 := (Below.refl w1.heap.size w1).alloc (Nat.le_refl _) (.cells #[.int .i64 e1.op, .int .i64 e1.n, .string e1.name, .slice A1 e1.kids.length cc1] 30)
  have D3 := Lib.hid (D2.out.trans (DrewT.below hr1 hb2))
  have R3 := Lib.hid (R2.out.touch (Touch.of_below hb2 hR1) hlt)
  have X3 := Lib.hid (Res.new w1 (.int .i64 e1.op) (.int .i64 e1.n) (.string e1.name) (.slice A1 e1.kids.length cc1) 30)
  have K3 := Lib.hid (K1.out.touch (Touch.of_below hb2 hR1) (by omega))
  have hr3 := hr1.keep hb2
  go_wp2_with fail
  generalize w1.alloc (.cells #[.int .i64 e1.op, .int .i64 e1.n, .string e1.name, .slice A1 e1.kids.length cc1] 30) = w2 at *
  have PK := Lib.hid (pick_t R p1 3 w2 hr3 (by omega) (by omega) (by omega))
  clear D2 R2 K1 hr1 hb2 hr3
  refine Calls.mono PK.out ?_
  rintro ee w3 ⟨r, hr, rfl, hd3⟩
  have D4 := Lib.hid (D3.out.trans hd3)
  have R4 := Lib.hid (R3.out.touch hd3.2 hlt)
  have X4 := Lib.hid (X3.out.touch hd3.2 hR1)
  have K4 := Lib.hid (K3.out.touch hd3.2 (by omega))
  obtain ⟨p3, hp3, hr3⟩ := hd3.1
  clear hd3 D3 R3 X3 K3 PK
  by_cases hz : r = 0
  · subst hz
    have OF := Lib.hid (oflit_t R p3 [⟨#[102]⟩, ⟨#[103]⟩, ⟨#[97]⟩] w3 9 (0, 0) hr3 (by omega) (by decide) (by decide))
    go_wp2_with fail
    refine Calls.mono OF.out ?_
    rintro ee w4 ⟨nm, hnm, rfl, hd4⟩
    have hnm8 : nm.size ≤ 8 := (show ∀ s ∈ ([⟨#[102]⟩, ⟨#[103]⟩, ⟨#[97]⟩] : List ByteArray), s.size ≤ 8 by decide) nm hnm
    have D5 := Lib.hid (D4.out.trans hd4)
    have R5 := Lib.hid (R4.out.touch hd4.2 hlt)
    have X5 := Lib.hid (X4.out.touch hd4.2 hR1)
    have K5 := Lib.hid (K4.out.touch hd4.2 (by omega))
    obtain ⟨p4, hp4, hr4⟩ := hd4.1
    have hR4 : R < w4.heap.size := hr4.lt
    clear hd4 D4 R4 X4 K4 OF hnm hr3
    have hb5 := (Below.refl w4.heap.size w4).alloc (Nat.le_refl _) (.cells #[.int .i64 13, .int .i64 0, .string nm, .slice none 0 0] 30)
    have C5 := Lib.hid (Res.new w4 (.int .i64 13) (.int .i64 0) (.string nm) (.slice none 0 0) 30)
    have E5 := Lib.hid (DrewT.below hr4 hb5)
    have hr5 := hr4.keep hb5
    have hlo : w4.heap.size < (w4.alloc (.cells #[.int .i64 13, .int .i64 0, .string nm, .slice none 0 0] 30)).heap.size := by rw [World.size_alloc]; omega
    go_wp2_with fail
    generalize w4.alloc (.cells #[.int .i64 13, .int .i64 0, .string nm, .slice none 0 0] 30) = w5 at *
    have PK := Lib.hid (pick_t R p4 4 w5 hr5 (by omega) (by omega) (by omega))
    clear hb5 hr5
    refine Calls.mono PK.out ?_
    rintro ee w6 ⟨k0, hk0, rfl, hd6⟩
    have AR0 := Lib.hid (show AnyRel w4 R (w4.heap.size + 1) (p4 + 1) w4.heap.size nm k0 (.int .i64 (k0 : Int)) w6 from ⟨k0, _, [], rfl, rfl, by show k0 + 0 ≤ 3; omega, C5.out.touch hd6.2 hR4, DrK.nil _ _, Nat.le_refl _, (E5.out.trans hd6).more (Nat.le_refl _)⟩)
    clear hd6 PK C5 E5 hr4
    go_wp2_with fail
    go_loopg [7] k0 (fun gk c wr => AnyRel w4 R (w4.heap.size + 1) (p4 + 1) w4.heap.size nm gk c wr)
    case atStart => exact AR0.out
    case round =>
      clear AR0
      obtain ⟨k, v, ks, rfl, rfl, hk3, hC, hKv, hbv, hD⟩ := hrel
      by_cases hk : k = 0
      · subst hk
        obtain ⟨Av, cv, rfl⟩ := hKv.slice
        obtain ⟨p6, hp6, hr6⟩ := hD.1
        have hks : ks.length ≤ 3 := by omega
        have hw4 := R5.out.lt
        have PK := Lib.hid (pick_t R p6 2 wr hr6 (by omega) (by omega) (by omega))
        have C6 := Lib.hid hC
        have V6 := Lib.hid hKv
        have R6 := Lib.hid (R5.out.touch hD.2 hlt)
        have X6 := Lib.hid (X5.out.touch hD.2 hR1)
        have K6 := Lib.hid (K5.out.touch hD.2 (by omega))
        have D6 := Lib.hid (D5.out.trans hD)
        clear hC hKv hD hr6 R5 X5 K5 D5
        go_wp2_with fail
        refine Calls.mono PK.out ?_
        rintro ee w7 ⟨r7, hr7, rfl, hd7⟩
        have C7 := C6.out.touch hd7.2 hR4
        have V7 := Lib.hid (V6.out.touch hd7.2 (by omega))
        have R7 := R6.out.touch hd7.2 hlt
        have X7 := X6.out.touch hd7.2 hR1
        have K7 := Lib.hid (K6.out.touch hd7.2 (by omega))
        have D7 := Lib.hid (D6.out.trans hd7)
        obtain ⟨p7, hp7, hr7'⟩ := hd7.1
        clear hd7 C6 V6 R6 X6 K6 D6 PK
        by_cases hz7 : r7 = 0
        · subst hz7
          obtain ⟨c0, c1, c2, c3⟩ := R7.c
          have f0 := R7.f 0
          have f1 := R7.f 1
          have f2 := R7.f 2
          have f3 := R7.f 3
          obtain ⟨d0, d1, d2, d3⟩ := C7.c
          clear R7 X7 C7
          go_wp2_with fail
          refine bodyPost_ret (v := .agg #[.int .i64 13, .int .i64 0, .string nm, .slice Av ks.length cv]) (by simp [results, Tryd.results38, go_sem, c0, c1, c2, c3]) rfl ⟨.mk 13 0 nm ks, Av, cv, rfl, ?_, by show nm.size + bulkL ks ≤ _; omega, ?_⟩
          · have hq : w.heap.size < w4.heap.size + 1 := by omega
            exact (((((V7.out.set hq 0 _).set hq 1 _).set hq 2 _).set hq 3 _)).wide (Nat.le_of_lt hq)
          · exact ((((D7.out.set (Nat.le_refl _) hlt 0 _).set (Nat.le_refl _) hlt 1 _).set (Nat.le_refl _) hlt 2 _).set (Nat.le_refl _) hlt 3 _).more (by omega)
        · have q7 : ((r7 : Int) == 0) = false := beq_no (by omega)
          have KL := Lib.hid (DrK.lit [⟨e1, A1, cc1⟩, ⟨.mk 13 0 nm ks, Av, cv⟩] (w := w7) (lo := w.heap.size + 1) R7.lt (by simp) (fun k hk => by
            simp at hk
            rcases hk with rfl | rfl
            · exact K7.out
            · exact V7.out.wide (by omega)))
          have hb8 := (Below.refl w7.heap.size w7).alloc (Nat.le_refl _) (.cells #[.int .i64 e1.op, .int .i64 e1.n, .string e1.name, .slice A1 e1.kids.length cc1, .int .i64 13, .int .i64 0, .string nm, .slice Av ks.length cv] 30)
          have D8 := Lib.hid (D7.out.step hb8)
          have R8 := R7.touch (Touch.of_below hb8 hr7'.lt) hlt
          obtain ⟨c0, c1, c2, c3⟩ := R8.c
          have f0 := R8.f 0
          have f1 := R8.f 1
          have f2 := R8.f 2
          have f3 := R8.f 3
          obtain ⟨d0, d1, d2, d3⟩ := C7.c
          obtain ⟨x0, x1, x2, x3⟩ := X7.c
          clear R7 X7 C7 R8 V7 K7 D7 hb8 hr7'
          go_wp2_with fail
          refine bodyPost_ret (v := .agg #[.int .i64 3, .int .i64 0, .string ⟨#[]⟩, .slice (some ⟨w7.heap.size, 0, none⟩) 2 2]) (by simp [results, Tryd.results38, go_sem, c0, c1, c2, c3]) rfl ⟨.mk 3 0 ⟨#[]⟩ [e1, .mk 13 0 nm ks], some ⟨w7.heap.size, 0, none⟩, 2, rfl, ?_, by show 0 + (1 + bulkE e1 + (1 + (nm.size + bulkL ks) + 0)) ≤ _; omega, ?_⟩
          · have hq : w.heap.size < w.heap.size + 1 := by omega
            exact (((((KL.out.set hq 0 _).set hq 1 _).set hq 2 _).set hq 3 _)).wide (Nat.le_of_lt hq)
          · exact ((((D8.out.set (Nat.le_refl _) hlt 0 _).set (Nat.le_refl _) hlt 1 _).set (Nat.le_refl _) hlt 2 _).set (Nat.le_refl _) hlt 3 _).more (by omega)
      · obtain ⟨Av, cv, rfl⟩ := hKv.slice
        obtain ⟨p6, hp6, hr6⟩ := hD.1
        have hks : ks.length ≤ 3 := by omega
        have hlr := hC.lt
        have hRr : R < wr.heap.size := hr6.lt
        have hbl := (Below.refl wr.heap.size wr).alloc (Nat.le_refl _) (.cells (nmB2.map Value.string).toArray 9 (0, 0))
        have LX := Lib.hid (l2Expr_any R wr.heap.size 0 2 nmB2 (by decide) (by decide) nmB2_size 2 (by omega) p6 ((wr.alloc (.cells (nmB2.map Value.string).toArray 9 (0, 0))).drew) ((hr6.alloc _).drew) (by show _ + 28 ≤ _; omega) (NmS.lit (w := wr) nmB2 9 (0, 0) hRr))
        have C6 := Lib.hid (show Res ((wr.alloc (.cells (nmB2.map Value.string).toArray 9 (0, 0))).drew) w4.heap.size _ _ _ _ from hC.touch (Touch.of_below hbl.drew hRr) hR4)
        have V6 := Lib.hid (show DrK ((wr.alloc (.cells (nmB2.map Value.string).toArray 9 (0, 0))).drew) (w4.heap.size + 1) _ ks from hKv.touch (Touch.of_below hbl.drew hRr) (by omega))
        have D6 := Lib.hid (hD.trans (DrewT.below hr6 hbl.drew))
        have HV := Lib.hid hKv.owned
        obtain ⟨c0, c1, c2, c3⟩ := hC.c
        have q1 : (0 : Int) < k := by omega
        obtain ⟨i0, hi, hz0, hz1, hz2⟩ := info_parts exprInfo
        have HLB := Lib.hid (show (ks.length + 1 ≤ maxLen ∧ (ks.length + 1) * 56 ≤ 140737488355328) from ⟨by unfold maxLen; omega, by omega⟩)
        have hR41 : R < w4.heap.size + 1 := by omega
        have hne : some w4.heap.size ≠ (Value.slice Av ks.length cv).ownBlock := fun e => by have := HV.out _ e.symm; omega
        clear hKv hD hr6
        obtain ⟨b0, b1, b2, b3⟩ := C6.out.c
        go_wp2_with fail
        go_region_law (first
          | (refine step_append_lies _ rfl _ _ 28 rfl (w4.heap.size + 1) 30 i0 (.agg #[.int .i64 0, .int .i64 0, .string ⟨#[]⟩, .slice none 0 0]) 4 56 Tryd.underlying28 hi hz0 hz1 hz2 rfl (by decide) _ ks.length xs7 rfl HOW.out ⟨w7.heap.size, 0, none⟩ 1 1 (Kd.mk e7 A7 cc7).cells rfl rfl HNW.out HTO.out (by decide) HLB.out.1 HLB.out.2 hbz _ rfl ?_; intro g8 cap8 w8 hown8 hgrow8 hat8 hlt8; have C8 := Lib.hid (C7.out.grow hgrow8 hne); have H8 := Lib.hid (And.intro hown8 (And.intro hgrow8 hat8)); obtain ⟨k0, k1, k2, k3⟩ := C8.out.c; have f3 := C8.out.f 3; clear hown8 hgrow8 hat8)
          | (go_simp; go_at_call 57; refine Calls.mono LX.out ?_; rintro ee w7 ⟨e7, A7, cc7, rfl, hk7, hb7, hd7⟩; unfold exV; have hr7 := Lib.hid hd7.1; have hal := (Below.refl w7.heap.size w7).alloc (Nat.le_refl _) (.cells #[.int .i64 e7.op, .int .i64 e7.n, .string e7.name, .slice A7 e7.kids.length cc7] 30); have hR7 := DrewT.lt hd7; have C6' := Lib.hid (C6.out.touch hd7.2 hR4); have C7 := Lib.hid (C6'.out.touch (Touch.of_below hal hR7) hR4); have V7 := (V6.out.touch hd7.2 hR41).touch (Touch.of_below hal hR7) hR41; obtain ⟨xs7, ho7, hx7⟩ := V7; obtain ⟨m0, m1, m2, m3⟩ := C6'.out.c; obtain ⟨n0, n1, n2, n3⟩ := C7.out.c; have HOW := Lib.hid ho7; have HX7 := Lib.hid hx7; have HNW := Lib.hid (new_four w7 (.int .i64 e7.op) (.int .i64 e7.n) (.string e7.name) (.slice A7 e7.kids.length cc7) 30); have HTO := Lib.hid (kid_cells e7 A7 cc7); have HK7 := Lib.hid hk7; have HD7 := Lib.hid hd7; have HAL := Lib.hid hal; have hbz : w4.heap.size + 1 ≤ (w7.alloc (.cells #[.int .i64 e7.op, .int .i64 e7.n, .string e7.name, .slice A7 e7.kids.length cc7] 30)).heap.size := Nat.le_trans (Nat.le_trans hlr (Nat.le_trans hbl.size hd7.2.below.size)) hal.size; clear ho7 hx7 hk7 hd7 hal))
        all_goals
          obtain ⟨hown8, hgrow8, hat8⟩ := H8.out
          have hv0 : (Value.slice Av ks.length cv).ownBlock = some g8 ∨ g8 = (w7.alloc (.cells #[.int .i64 e7.op, .int .i64 e7.n, .string e7.name, .slice A7 e7.kids.length cc7] 30)).heap.size := hat8
          have hlo7 : w4.heap.size + 1 ≤ ((wr.alloc (.cells (nmB2.map Value.string).toArray 9 (0, 0))).drew).heap.size := Nat.le_trans hlr hbl.size
          have SN := Lib.hid (DrK.snoc (w := w7.alloc (.cells #[.int .i64 e7.op, .int .i64 e7.n, .string e7.name, .slice A7 e7.kids.length cc7] 30)) ⟨e7, A7, cc7⟩ HX7.out HOW.out.1 rfl hown8 hgrow8 hv0 ((HK7.out.touch (Touch.of_below HAL.out hR7) (Nat.lt_of_lt_of_le hR41 hlo7)).apart hlo7 (fun k e => Nat.lt_of_lt_of_le (HV.out k e).2 hbl.size)))
          have DG := Lib.hid (((D6.out.trans HD7.out).step HAL.out).grow hgrow8 (fun k e => by have := (HV.out k e).1; omega) hR4)
          clear hown8 hgrow8 hat8 hv0 m0 m1 m2 m3 n0 n1 n2 n3
          go_wp2_with fail
          go_roundg (k - 1)
          case measure => omega
          case rel => exact ⟨k - 1, _, ks ++ [e7], by go_num, rfl, by rw [List.length_append]; show k - 1 + (ks.length + 1) ≤ 3; omega, C8.out.set3 _, SN.out.set (Nat.lt_succ_self _) 3 _, by rw [bulkL_snoc, List.length_append]; have h7 : bulkE e7 ≤ 56 := hb7; show _ ≤ (ks.length + 1) * 100; omega, ((DG.out.set (Nat.le_refl _) hR4 3 _)).more (by rw [List.length_append]; show p6 + 28 ≤ p4 + 1 + (ks.length + 1) * 40; omega)⟩
  · have q1 : (0 : Int) < (r : Int) := by omega
    have R5 := R4.out
    have X5 := X4.out
    obtain ⟨c0, c1, c2, c3⟩ := R5.c
    have f0 := R5.f 0
    have f1 := R5.f 1
    have f2 := R5.f 2
    have f3 := R5.f 3
    obtain ⟨x0, x1, x2, x3⟩ := X5.c
    clear R5 X5 R4 X4
    go_wp2_with fail
    refine bodyPost_ret (v := .agg #[.int .i64 e1.op, .int .i64 e1.n, .string e1.name, .slice A1 e1.kids.length cc1]) (by simp [results, Tryd.results38, go_sem, c0, c1, c2, c3]) rfl ⟨e1, A1, cc1, rfl, ?_, by omega, ?_⟩
    · have hq : w.heap.size < w.heap.size + 1 := by omega
      exact (((((K4.out.set hq 0 _).set hq 1 _).set hq 2 _).set hq 3 _)).wide (Nat.le_of_lt hq)
    · exact ((((D4.out.set (Nat.le_refl _) hlt 0 _).set (Nat.le_refl _) hlt 1 _).set (Nat.le_refl _) hlt 2 _).set (Nat.le_refl _) hlt 3 _).more (by omega)
end Go.Proofs.YtoepehlndljkoaaDoor
