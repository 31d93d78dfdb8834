/-
  Read expressions in memory: trees that keep clear of one block; lists that are written out.
-/
import Derived.Test.YtkhcfhhejmkikaaGreatDoorMg7
import Derived.Deep.LoopGhost
import Derived.Deep.AppendLies
import Derived.Deep.RegionLaw
namespace Go.Proofs.YtkhcfhhejmkikaaGreatDoor
open Go.RowKit
set_option maxRecDepth 100000

theorem bulkL_snoc (ks : List E) (e : E) : bulkL (ks ++ [e]) = bulkL ks + (1 + bulkE e) := by rw [bulkL_app]; show _ + (1 + bulkE e + 0) = _; omega
/-- One Kid more. -/
theorem DrK.snoc {w w' : World} {lo n g cap : Nat} {v : Value} {ks : List E} {xs : List Value} (k : Kd)
    (hx : ∀ j, (h : j < ks.length) → xs[j * 4]? = some (.int .i64 ks[j].op) ∧ xs[j * 4 + 1]? = some (.int .i64 ks[j].n) ∧ xs[j * 4 + 2]? = some (.string ks[j].name) ∧ ∃ A c, xs[j * 4 + 3]? = some (.slice A ks[j].kids.length c) ∧ PdS w (fun b => Between w lo w.heap.size b ∧ v.ownBlock ≠ some b) ks[j].kids A)
    (hl : xs.length = ks.length * 4) (hn : ks.length = n) (hown : w'.ownsRow lo 24 4 (.slice (some ⟨g, 0, none⟩) (n + 1) cap) (n + 1) (xs ++ k.cells)) (hg : w.grownBy w' v.ownBlock) (hat : v.ownBlock = some g ∨ g = w.heap.size)
    (hk : PdS w (fun b => Between w lo w.heap.size b ∧ v.ownBlock ≠ some b) k.e.kids k.A) : DrK w' lo (.slice (some ⟨g, 0, none⟩) (n + 1) cap) (ks ++ [k.e]) := by
  have keep : ∀ {ls : List E} {A : Option Addr}, PdS w (fun b => Between w lo w.heap.size b ∧ v.ownBlock ≠ some b) ls A → PdS w' (fun b => Between w' lo w'.heap.size b ∧ (Value.slice (some ⟨g, 0, none⟩) (n + 1) cap).ownBlock ≠ some b) ls A := by
    intro ls A h
    refine h.keep (fun b o hb => World.cell?_of_block (hg.block b hb.1.2.1 (fun e => hb.2 e.symm))) (fun b hb => ⟨⟨hb.1.1, Nat.lt_of_lt_of_le hb.1.2.1 hg.size, flat_of_eq hb.1.2.2 (hg.block b hb.1.2.1 (fun e => hb.2 e.symm))⟩, ?_⟩)
    intro e
    have e : g = b := by injection e
    rcases hat with h1 | h1
    · exact hb.2 (by rw [h1, e])
    · have := hb.1.2.1; omega
  refine ⟨xs ++ k.cells, ?_, fun j hj => ?_⟩
  · rw [List.length_append, hn]; exact hown
  · by_cases hjk : j < ks.length
    · obtain ⟨a, b, c, A, d, e, f⟩ := hx j hjk
      rw [List.getElem_append_left hjk]
      refine ⟨?_, ?_, ?_, A, d, ?_, keep f⟩ <;> (rw [List.getElem?_append_left (by omega)]; assumption)
    · have hj' : j = ks.length := by simp at hj; omega
      subst hj'
      simp only [List.getElem_concat_length]
      have at_ : ∀ i, i < 4 → (xs ++ k.cells)[ks.length * 4 + i]? = k.cells[i]? := by
        intro i hi
        rw [List.getElem?_append_right (by omega), hl]
        congr 1
        omega
      exact ⟨at_ 0 (by omega), at_ 1 (by omega), at_ 2 (by omega), k.A, k.c, at_ 3 (by omega), keep hk⟩
/-- A Kid that lies behind all that a row owns. -/
theorem DrK.apart {w : World} {lo lo' n c : Nat} {A : Option Addr} {v : Value} {ks : List E} (h : DrK w lo' (.slice A n c) ks) (hl : lo ≤ lo') (hv : ∀ k, v.ownBlock = some k → k < lo') : PdS w (fun b => Between w lo w.heap.size b ∧ v.ownBlock ≠ some b) ks A :=
  h.pd.keep (fun _ _ _ => rfl) (fun b hb => ⟨⟨Nat.le_trans hl hb.1, hb.2⟩, fun e => by have := hv b e; have := hb.1; omega⟩)
theorem DrK.slice {w : World} {lo : Nat} {v : Value} {ks : List E} (h : DrK w lo v ks) : ∃ A c, v = .slice A ks.length c := by
  obtain ⟨xs, ho, _⟩ := h
  rcases ho.2 with ⟨rfl, h0⟩ | ⟨g, cap, cur, rfl, _⟩
  · exact ⟨none, 0, by rw [h0]⟩
  · exact ⟨_, cap, rfl⟩
theorem DrK.owned {w : World} {lo : Nat} {v : Value} {ks : List E} (h : DrK w lo v ks) : ∀ k, v.ownBlock = some k → lo ≤ k ∧ k < w.heap.size := by
  obtain ⟨xs, ho, _⟩ := h
  exact World.ownsRow.lt ho
/-- What holds while Kids of a call are drawn. -/
def AnyRel (w0 : World) (R lo p bc : Nat) (nm : ByteArray) (gk : Nat) (c : Value) (wr : World) : Prop :=
  ∃ (k : Nat) (v : Value) (ks : List E), c = .int .i64 k ∧ k = gk ∧ k + ks.length ≤ 3 ∧ Res wr bc (.int .i64 13) (.int .i64 0) (.string nm) v ∧ DrK wr lo v ks ∧ bulkL ks ≤ ks.length * 100 ∧ DrewT R (p + ks.length * 40) w0 wr
end Go.Proofs.YtkhcfhhejmkikaaGreatDoor

namespace Go.Proofs.YtkhcfhhejmkikaaGreatDoor
open Go.RowKit
set_option maxRecDepth 100000

def nmA : List ByteArray := [⟨#[97]⟩, ⟨#[98]⟩, ⟨#[120]⟩, ⟨#[103, 111]⟩]
def nmB2 : List ByteArray := [⟨#[97]⟩, ⟨#[98]⟩]
theorem nmA_size : ∀ s ∈ nmA, s.size ≤ 8 := by decide
theorem nmB2_size : ∀ s ∈ nmB2, s.size ≤ 8 := by decide
theorem Rd.alloc {w : World} {R p : Nat} (h : Rd w R p) (o : Obj) : Rd (w.alloc o) R p := h.keep ((Below.refl _ _).alloc (Nat.le_refl _) o)
theorem Rd.drew {w : World} {R p : Nat} (h : Rd w R p) : Rd w.drew R p := ⟨h.ex⟩
theorem kid_cells (e : E) (A : Option Addr) (c : Nat) : ∀ u ∈ (Kd.mk e A c).cells, u.oneCell' = true := by
  intro u hu
  simp only [Kd.cells, List.mem_cons, List.not_mem_nil, or_false] at hu
  rcases hu with rfl | rfl | rfl | rfl <;> rfl
theorem new_four (w : World) (a b c d : Value) (t : TypeId) : ∀ (j : Nat) u, [a, b, c, d][j]? = some u → (w.alloc (.cells #[a, b, c, d] t)).cell? ((⟨w.heap.size, 0, none⟩ : Addr).add j) = some u := by
  intro j u hu
  have e1 : (⟨w.heap.size, 0, none⟩ : Addr).add j = ⟨w.heap.size, j, none⟩ := by
    unfold Addr.add
    by_cases hj : j = 0
    · rw [if_pos hj, hj]
    · rw [if_neg hj, Nat.zero_add]
  rw [e1, alloc_cell, ← hu, ← List.getElem?_toArray]
theorem Res.grow {w w' : World} {b : Nat} {v0 v1 v2 v3 : Value} {row : Option Nat} (h : Res w b v0 v1 v2 v3) (hg : w.grownBy w' row) (hne : some b ≠ row) : Res w' b v0 v1 v2 v3 :=
  ⟨⟨hg.cell h.c.1 hne, hg.cell h.c.2.1 hne, hg.cell h.c.2.2.1 hne, hg.cell h.c.2.2.2 hne⟩, fun o => (World.frozen?_of_block (hg.block b h.lt hne)).trans (h.f o), Nat.lt_of_lt_of_le h.lt hg.size⟩
theorem Res.set3 {w : World} {b : Nat} {v0 v1 v2 v3 : Value} (h : Res w b v0 v1 v2 v3) (u : Value) : Res (w.setCell ⟨b, 3, none⟩ u) b v0 v1 v2 u := by
  have ne : ∀ k, k ≠ 3 → (w.setCell ⟨b, 3, none⟩ u).cell? ⟨b, k, none⟩ = w.cell? ⟨b, k, none⟩ := fun k hk => World.cell?_setCell_other _ _ _ _ (by intro e; injection e with _ e; exact hk e.symm)
  refine ⟨⟨(ne 0 (by decide)).trans h.c.1, (ne 1 (by decide)).trans h.c.2.1, (ne 2 (by decide)).trans h.c.2.2.1, World.cell?_setCell_same _ _ _ h.c.2.2.2⟩, fun o => ?_, by simpa using h.lt⟩
  rw [World.frozen?_setCell]; exact h.f o
theorem DrewT.lt {R p : Nat} {w w' : World} (h : DrewT R p w w') : R < w'.heap.size := by
  obtain ⟨⟨_, _, q⟩, _⟩ := h
  exact q.lt
theorem DrewT.step {R p : Nat} {w w1 w2 : World} (h : DrewT R p w w1) (hb : Below w1.heap.size w1 w2) : DrewT R p w w2 := by
  obtain ⟨⟨q, hq, hr⟩, ht⟩ := h
  exact ⟨⟨q, hq, hr.keep hb⟩, ht.trans (Touch.of_below hb hr.lt)⟩
theorem DrewT.grow {R p : Nat} {w w1 w2 : World} {row : Option Nat} (h : DrewT R p w w1) (hg : w1.grownBy w2 row) (hrow : ∀ k, row = some k → w.heap.size ≤ k) (hR : R < w.heap.size) : DrewT R p w w2 := by
  obtain ⟨⟨q, hq, hr⟩, ht⟩ := h
  have hb : Below R w1 w2 := (Below.refl R w1).grown hg (Nat.le_of_lt hr.lt) (fun k e => by have := hrow k e; omega)
  refine ⟨⟨q, hq, ?_⟩, ht.below.trans hb, fun k h1 h2 => ?_⟩
  · obtain ⟨A, l, cap, h0, h1, h2⟩ := hr.ex
    exact ⟨A, l, cap, h0, (hg.block R hr.lt (fun e => by have := hrow R e.symm; omega)).trans h1, h2.below hb⟩
  · exact (hg.block k (Nat.lt_of_lt_of_le h2 ht.below.size) (fun e => by have := hrow k e.symm; omega)).trans (ht.above k h1 h2)
set_option maxHeartbeats 4000000 in
theorem l2Any_any (R p d : Nat) (hd : d ≤ 10) (w : World) (h : Rd w R p) (hp : p + pk d + 200 ≤ 900000) :
    Calls Tryz.prog 48 #[.pointer (some ⟨R, 0, none⟩), .int .i64 (d : Int)] w (DrRet R (p + pk d + 150) (bdE d + 400) w) := by
  have hlt := h.lt
  have hb0 := (Below.refl w.heap.size w).alloc (Nat.le_refl _) (.cells #[.int .i64 0, .int .i64 0, .string ⟨#[]⟩, .slice none 0 0] 24)
  have hz0 : (w.alloc (.cells #[.int .i64 0, .int .i64 0, .string ⟨#[]⟩, .slice none 0 0] 24)).heap.size = w.heap.size + 1 := World.size_alloc _ _
  have D0 := Lib.hid (DrewT.below h hb0)
  have R0 := Lib.hid (Res.new w (.int .i64 0) (.int .i64 0) (.string ⟨#[]⟩) (.slice none 0 0) 24)
  have hr0 := h.keep hb0
  have LX := l2Expr_any R (w.heap.size + 1) 0 4 nmA (by decide) (by decide) nmA_size d hd p ((w.alloc (.cells #[.int .i64 0, .int .i64 0, .string ⟨#[]⟩, .slice none 0 0] 24)).alloc (.cells (nmA.map Value.string).toArray 9 (0, 0))) (hr0.alloc _) (by omega) (by have h1 := NmS.lit (w := w.alloc (.cells #[.int .i64 0, .int .i64 0, .string ⟨#[]⟩, .slice none 0 0] 24)) nmA 9 (0, 0) hr0.lt; rw [hz0] at h1; exact h1)
  have D1 := Lib.hid (D0.out.trans (DrewT.below hr0 ((Below.refl _ _).alloc (Nat.le_refl _) (.cells (nmA.map Value.string).toArray 9 (0, 0)))))
  have R1 := Lib.hid (R0.out.touch (Touch.of_below ((Below.refl _ _).alloc (Nat.le_refl _) (.cells (nmA.map Value.string).toArray 9 (0, 0))) hr0.lt) hlt)
  have hw1 : w.heap.size < ((w.alloc (.cells #[.int .i64 0, .int .i64 0, .string ⟨#[]⟩, .slice none 0 0] 24)).alloc (.cells (nmA.map Value.string).toArray 9 (0, 0))).heap.size := R1.out.lt
  have HW1 := Lib.hid hw1
  replace LX := Lib.hid LX
  clear h hb0 hr0 hz0 D0 R0 hw1
  go_enter Tryz.func48, Tryz.ntmps48
  go_wp2_with fail
  refine Calls.mono LX.out ?_
  rintro ee w1 ⟨e1, A1, cc1, rfl, hk1, hbk1, hd1⟩
  unfold exV
  have D2 := Lib.hid (D1.out.trans hd1)
  have R2 := Lib.hid (R1.out.touch hd1.2 hlt)
  have K1 := Lib.hid (hk1.wide HW1.out)
  obtain ⟨p1, hp1, hr1⟩ := hd1.1
  clear hk1 hd1 D1 R1 LX HW1
  have hR1 : R < w1.heap.size := hr1.lt
  have hb2 := (Below.refl w1.heap.size w1).alloc (Nat.le_refl _) (.cells #[.int .i64 e1.op, .int .i64 e1.n, .string e1.name, .slice A1 e1.kids.length cc1] 24)
  have D3 := Lib.hid (D2.out.trans (DrewT.below hr1 hb2))
  have R3 := Lib.hid (R2.out.touch (Touch.of_below hb2 hR1) hlt)
  have X3 := Lib.hid (Res.new w1 (.int .i64 e1.op) (.int .i64 e1.n) (.string e1.name) (.slice A1 e1.kids.length cc1) 24)
  have K3 := Lib.hid (K1.out.touch (Touch.of_below hb2 hR1) (by omega))
  have hr3 := hr1.keep hb2
  go_wp2_with fail
  generalize w1.alloc (.cells #[.int .i64 e1.op, .int .i64 e1.n, .string e1.name, .slice A1 e1.kids.length cc1] 24) = w2 at *
  have PK := Lib.hid (pick_t R p1 3 w2 hr3 (by omega) (by omega) (by omega))
  clear D2 R2 K1 hr1 hb2 hr3
  refine Calls.mono PK.out ?_
  rintro ee w3 ⟨r, hr, rfl, hd3⟩
  have D4 := Lib.hid (D3.out.trans hd3)
  have R4 := Lib.hid (R3.out.touch hd3.2 hlt)
  have X4 := Lib.hid (X3.out.touch hd3.2 hR1)
  have K4 := Lib.hid (K3.out.touch hd3.2 (by omega))
  obtain ⟨p3, hp3, hr3⟩ := hd3.1
  clear hd3 D3 R3 X3 K3 PK
  by_cases hz : r = 0
  · subst hz
    have OF := Lib.hid (oflit_t R p3 [⟨#[102]⟩, ⟨#[103]⟩, ⟨#[97]⟩] w3 9 (0, 0) hr3 (by omega) (by decide) (by decide))
    go_wp2_with fail
    refine Calls.mono OF.out ?_
    rintro ee w4 ⟨nm, hnm, rfl, hd4⟩
    have hnm8 : nm.size ≤ 8 := (show ∀ s ∈ ([⟨#[102]⟩, ⟨#[103]⟩, ⟨#[97]⟩] : List ByteArray), s.size ≤ 8 by decide) nm hnm
    have D5 := Lib.hid (D4.out.trans hd4)
    have R5 := Lib.hid (R4.out.touch hd4.2 hlt)
    have X5 := Lib.hid (X4.out.touch hd4.2 hR1)
    have K5 := Lib.hid (K4.out.touch hd4.2 (by omega))
    obtain ⟨p4, hp4, hr4⟩ := hd4.1
    have hR4 : R < w4.heap.size := hr4.lt
    clear hd4 D4 R4 X4 K4 OF hnm hr3
    have hb5 := (Below.refl w4.heap.size w4).alloc (Nat.le_refl _) (.cells #[.int .i64 13, .int .i64 0, .string nm, .slice none 0 0] 24)
    have C5 := Lib.hid (Res.new w4 (.int .i64 13) (.int .i64 0) (.string nm) (.slice none 0 0) 24)
    have E5 := Lib.hid (DrewT.below hr4 hb5)
    have hr5 := hr4.keep hb5
    have hlo : w4.heap.size < (w4.alloc (.cells #[.int .i64 13, .int .i64 0, .string nm, .slice none 0 0] 24)).heap.size := by rw [World.size_alloc]; omega
    go_wp2_with fail
    generalize w4.alloc (.cells #[.int .i64 13, .int .i64 0, .string nm, .slice none 0 0] 24) = w5 at *
    have PK := Lib.hid (pick_t R p4 4 w5 hr5 (by omega) (by omega) (by omega))
    clear hb5 hr5
    refine Calls.mono PK.out ?_
    rintro ee w6 ⟨k0, hk0, rfl, hd6⟩
    have AR0 := Lib.hid (show AnyRel w4 R (w4.heap.size + 1) (p4 + 1) w4.heap.size nm k0 (.int .i64 (k0 : Int)) w6 from ⟨k0, _, [], rfl, rfl, by show k0 + 0 ≤ 3; omega, C5.out.touch hd6.2 hR4, DrK.nil _ _, Nat.le_refl _, (E5.out.trans hd6).more (Nat.le_refl _)⟩)
    clear hd6 PK C5 E5 hr4
    go_wp2_with fail
    go_loopg [7] k0 (fun gk c wr => AnyRel w4 R (w4.heap.size + 1) (p4 + 1) w4.heap.size nm gk c wr)
    case atStart => exact AR0.out
    case round =>
      clear AR0
      obtain ⟨k, v, ks, rfl, rfl, hk3, hC, hKv, hbv, hD⟩ := hrel
      by_cases hk : k = 0
      · subst hk
        obtain ⟨Av, cv, rfl⟩ := hKv.slice
        obtain ⟨p6, hp6, hr6⟩ := hD.1
        have hks : ks.length ≤ 3 := by omega
        have hw4 := R5.out.lt
        have PK := Lib.hid (pick_t R p6 2 wr hr6 (by omega) (by omega) (by omega))
        have C6 := Lib.hid hC
        have V6 := Lib.hid hKv
        have R6 := Lib.hid (R5.out.touch hD.2 hlt)
        have X6 := Lib.hid (X5.out.touch hD.2 hR1)
        have K6 := Lib.hid (K5.out.touch hD.2 (by omega))
        have D6 := Lib.hid (D5.out.trans hD)
        clear hC hKv hD hr6 R5 X5 K5 D5
        go_wp2_with fail
        refine Calls.mono PK.out ?_
        rintro ee w7 ⟨r7, hr7, rfl, hd7⟩
        have C7 := C6.out.touch hd7.2 hR4
        have V7 := Lib.hid (V6.out.touch hd7.2 (by omega))
        have R7 := R6.out.touch hd7.2 hlt
        have X7 := X6.out.touch hd7.2 hR1
        have K7 := Lib.hid (K6.out.touch hd7.2 (by omega))
        have D7 := Lib.hid (D6.out.trans hd7)
        obtain ⟨p7, hp7, hr7'⟩ := hd7.1
        clear hd7 C6 V6 R6 X6 K6 D6 PK
        by_cases hz7 : r7 = 0
        · subst hz7
          obtain ⟨c0, c1, c2, c3⟩ := R7.c
          have f0 := R7.f 0
          have f1 := R7.f 1
          have f2 := R7.f 2
          have f3 := R7.f 3
          obtain ⟨d0, d1, d2, d3⟩ := C7.c
          clear R7 X7 C7
          go_wp2_with fail
          refine bodyPost_ret (v := .agg #[.int .i64 13, .int .i64 0, .string nm, .slice Av ks.length cv]) (by simp [results, Tryz.results48, go_sem, c0, c1, c2, c3]) rfl ⟨.mk 13 0 nm ks, Av, cv, rfl, ?_, by show nm.size + bulkL ks ≤ _; omega, ?_⟩
          · have hq : w.heap.size < w4.heap.size + 1 := by omega
            exact (((((V7.out.set hq 0 _).set hq 1 _).set hq 2 _).set hq 3 _)).wide (Nat.le_of_lt hq)
          · exact ((((D7.out.set (Nat.le_refl _) hlt 0 _).set (Nat.le_refl _) hlt 1 _).set (Nat.le_refl _) hlt 2 _).set (Nat.le_refl _) hlt 3 _).more (by omega)
        · have q7 : ((r7 : Int) == 0) = false := beq_no (by omega)
          have KL := Lib.hid (DrK.lit [⟨e1, A1, cc1⟩, ⟨.mk 13 0 nm ks, Av, cv⟩] (w := w7) (lo := w.heap.size + 1) R7.lt (by simp) (fun k hk => by
            simp at hk
            rcases hk with rfl | rfl
            · exact K7.out
            · exact V7.out.wide (by omega)))
          have hb8 := (Below.refl w7.heap.size w7).alloc (Nat.le_refl _) (.cells #[.int .i64 e1.op, .int .i64 e1.n, .string e1.name, .slice A1 e1.kids.length cc1, .int .i64 13, .int .i64 0, .string nm, .slice Av ks.length cv] 24)
          have D8 := Lib.hid (D7.out.step hb8)
          have R8 := R7.touch (Touch.of_below hb8 hr7'.lt) hlt
          obtain ⟨c0, c1, c2, c3⟩ := R8.c
          have f0 := R8.f 0
          have f1 := R8.f 1
          have f2 := R8.f 2
          have f3 := R8.f 3
          obtain ⟨d0, d1, d2, d3⟩ := C7.c
          obtain ⟨x0, x1, x2, x3⟩ := X7.c
          clear R7 X7 C7 R8 V7 K7 D7 hb8 hr7'
          go_wp2_with fail
          refine bodyPost_ret (v := .agg #[.int .i64 3, .int .i64 0, .string ⟨#[]⟩, .slice (some ⟨w7.heap.size, 0, none⟩) 2 2]) (by simp [results, Tryz.results48, go_sem, c0, c1, c2, c3]) rfl ⟨.mk 3 0 ⟨#[]⟩ [e1, .mk 13 0 nm ks], some ⟨w7.heap.size, 0, none⟩, 2, rfl, ?_, by show 0 + (1 + bulkE e1 + (1 + (nm.size + bulkL ks) + 0)) ≤ _; omega, ?_⟩
          · have hq : w.heap.size < w.heap.size + 1 := by omega
            exact (((((KL.out.set hq 0 _).set hq 1 _).set hq 2 _).set hq 3 _)).wide (Nat.le_of_lt hq)
          · exact ((((D8.out.set (Nat.le_refl _) hlt 0 _).set (Nat.le_refl _) hlt 1 _).set (Nat.le_refl _) hlt 2 _).set (Nat.le_refl _) hlt 3 _).more (by omega)
      · obtain ⟨Av, cv, rfl⟩ := hKv.slice
        obtain ⟨p6, hp6, hr6⟩ := hD.1
        have hks : ks.length ≤ 3 := by omega
        have hlr := hC.lt
        have hRr : R < wr.heap.size := hr6.lt
        have hbl := (Below.refl wr.heap.size wr).alloc (Nat.le_refl _) (.cells (nmB2.map Value.string).toArray 9 (0, 0))
        have LX := Lib.hid (l2Expr_any R wr.heap.size 0 2 nmB2 (by decide) (by decide) nmB2_size 2 (by omega) p6 ((wr.alloc (.cells (nmB2.map Value.string).toArray 9 (0, 0))).drew) ((hr6.alloc _).drew) (by show _ + 28 ≤ _; omega) (NmS.lit (w := wr) nmB2 9 (0, 0) hRr))
        have C6 := Lib.hid (show Res ((wr.alloc (.cells (nmB2.map Value.string).toArray 9 (0, 0))).drew) w4.heap.size _ _ _ _ from hC.touch (Touch.of_below hbl.drew hRr) hR4)
        have V6 := Lib.hid (show DrK ((wr.alloc (.cells (nmB2.map Value.string).toArray 9 (0, 0))).drew) (w4.heap.size + 1) _ ks from hKv.touch (Touch.of_below hbl.drew hRr) (by omega))
        have D6 := Lib.hid (hD.trans (DrewT.below hr6 hbl.drew))
        have HV := Lib.hid hKv.owned
        obtain ⟨c0, c1, c2, c3⟩ := hC.c
        have q1 : (0 : Int) < k := by omega
        obtain ⟨i0, hi, hz0, hz1, hz2⟩ := info_parts exprInfo
        have HLB := Lib.hid (show (ks.length + 1 ≤ maxLen ∧ (ks.length + 1) * 56 ≤ 140737488355328) from ⟨by unfold maxLen; omega, by omega⟩)
        have hR41 : R < w4.heap.size + 1 := by omega
        have hne : some w4.heap.size ≠ (Value.slice Av ks.length cv).ownBlock := fun e => by have := HV.out _ e.symm; omega
        clear hKv hD hr6
        obtain ⟨b0, b1, b2, b3⟩ := C6.out.c
        go_wp2_with fail
        go_region_law (first
          | (refine step_append_lies _ rfl _ _ 22 rfl (w4.heap.size + 1) 24 i0 (.agg #[.int .i64 0, .int .i64 0, .string ⟨#[]⟩, .slice none 0 0]) 4 56 Tryz.underlying22 hi hz0 hz1 hz2 rfl (by decide) _ ks.length xs7 rfl HOW.out ⟨w7.heap.size, 0, none⟩ 1 1 (Kd.mk e7 A7 cc7).cells rfl rfl HNW.out HTO.out (by decide) HLB.out.1 HLB.out.2 hbz _ rfl ?_; intro g8 cap8 w8 hown8 hgrow8 hat8 hlt8; have C8 := Lib.hid (C7.out.grow hgrow8 hne); have H8 := Lib.hid (And.intro hown8 (And.intro hgrow8 hat8)); obtain ⟨k0, k1, k2, k3⟩ := C8.out.c; have f3 := C8.out.f 3; clear hown8 hgrow8 hat8)
          | (go_simp; go_at_call 85; refine Calls.mono LX.out ?_; rintro ee w7 ⟨e7, A7, cc7, rfl, hk7, hb7, hd7⟩; unfold exV; have hr7 := Lib.hid hd7.1; have hal := (Below.refl w7.heap.size w7).alloc (Nat.le_refl _) (.cells #[.int .i64 e7.op, .int .i64 e7.n, .string e7.name, .slice A7 e7.kids.length cc7] 24); have hR7 := DrewT.lt hd7; have C6' := Lib.hid (C6.out.touch hd7.2 hR4); have C7 := Lib.hid (C6'.out.touch (Touch.of_below hal hR7) hR4); have V7 := (V6.out.touch hd7.2 hR41).touch (Touch.of_below hal hR7) hR41; obtain ⟨xs7, ho7, hx7⟩ := V7; obtain ⟨m0, m1, m2, m3⟩ := C6'.out.c; obtain ⟨n0, n1, n2, n3⟩ := C7.out.c; have HOW := Lib.hid ho7; have HX7 := Lib.hid hx7; have HNW := Lib.hid (new_four w7 (.int .i64 e7.op) (.int .i64 e7.n) (.string e7.name) (.slice A7 e7.kids.length cc7) 24); have HTO := Lib.hid (kid_cells e7 A7 cc7); have HK7 := Lib.hid hk7; have HD7 := Lib.hid hd7; have HAL := Lib.hid hal; have hbz : w4.heap.size + 1 ≤ (w7.alloc (.cells #[.int .i64 e7.op, .int .i64 e7.n, .string e7.name, .slice A7 e7.kids.length cc7] 24)).heap.size := Nat.le_trans (Nat.le_trans hlr (Nat.le_trans hbl.size hd7.2.below.size)) hal.size; clear ho7 hx7 hk7 hd7 hal))
        all_goals
          obtain ⟨hown8, hgrow8, hat8⟩ := H8.out
          have hv0 : (Value.slice Av ks.length cv).ownBlock = some g8 ∨ g8 = (w7.alloc (.cells #[.int .i64 e7.op, .int .i64 e7.n, .string e7.name, .slice A7 e7.kids.length cc7] 24)).heap.size := hat8
          have hlo7 : w4.heap.size + 1 ≤ ((wr.alloc (.cells (nmB2.map Value.string).toArray 9 (0, 0))).drew).heap.size := Nat.le_trans hlr hbl.size
          have SN := Lib.hid (DrK.snoc (w := w7.alloc (.cells #[.int .i64 e7.op, .int .i64 e7.n, .string e7.name, .slice A7 e7.kids.length cc7] 24)) ⟨e7, A7, cc7⟩ HX7.out HOW.out.1 rfl hown8 hgrow8 hv0 ((HK7.out.touch (Touch.of_below HAL.out hR7) (Nat.lt_of_lt_of_le hR41 hlo7)).apart hlo7 (fun k e => Nat.lt_of_lt_of_le (HV.out k e).2 hbl.size)))
          have DG := Lib.hid (((D6.out.trans HD7.out).step HAL.out).grow hgrow8 (fun k e => by have := (HV.out k e).1; omega) hR4)
          clear hown8 hgrow8 hat8 hv0 m0 m1 m2 m3 n0 n1 n2 n3
          go_wp2_with fail
          go_roundg (k - 1)
          case measure => omega
          case rel => exact ⟨k - 1, _, ks ++ [e7], by go_num, rfl, by rw [List.length_append]; show k - 1 + (ks.length + 1) ≤ 3; omega, C8.out.set3 _, SN.out.set (Nat.lt_succ_self _) 3 _, by rw [bulkL_snoc, List.length_append]; have h7 : bulkE e7 ≤ 56 := hb7; show _ ≤ (ks.length + 1) * 100; omega, ((DG.out.set (Nat.le_refl _) hR4 3 _)).more (by rw [List.length_append]; show p6 + 28 ≤ p4 + 1 + (ks.length + 1) * 40; omega)⟩
  · have q1 : (0 : Int) < (r : Int) := by omega
    have R5 := R4.out
    have X5 := X4.out
    obtain ⟨c0, c1, c2, c3⟩ := R5.c
    have f0 := R5.f 0
    have f1 := R5.f 1
    have f2 := R5.f 2
    have f3 := R5.f 3
    obtain ⟨x0, x1, x2, x3⟩ := X5.c
    clear R5 X5 R4 X4
    go_wp2_with fail
    refine bodyPost_ret (v := .agg #[.int .i64 e1.op, .int .i64 e1.n, .string e1.name, .slice A1 e1.kids.length cc1]) (by simp [results, Tryz.results48, go_sem, c0, c1, c2, c3]) rfl ⟨e1, A1, cc1, rfl, ?_, by omega, ?_⟩
    · have hq : w.heap.size < w.heap.size + 1 := by omega
      exact (((((K4.out.set hq 0 _).set hq 1 _).set hq 2 _).set hq 3 _)).wide (Nat.le_of_lt hq)
    · exact ((((D4.out.set (Nat.le_refl _) hlt 0 _).set (Nat.le_refl _) hlt 1 _).set (Nat.le_refl _) hlt 2 _).set (Nat.le_refl _) hlt 3 _).more (by omega)
end Go.Proofs.YtkhcfhhejmkikaaGreatDoor

namespace Go.Proofs.YtkhcfhhejmkikaaGreatDoor
open Go.RowKit
set_option maxRecDepth 100000

def bentN : List ByteArray := [⟨#[]⟩, ⟨#[100, 111]⟩, ⟨#[65]⟩, ⟨#[97, 98, 99, 100, 101]⟩, ⟨#[113]⟩]
theorem Res.set0 {w : World} {b : Nat} {v0 v1 v2 v3 : Value} (h : Res w b v0 v1 v2 v3) (u : Value) : Res (w.setCell ⟨b, 0, none⟩ u) b u v1 v2 v3 := by
  have ne : ∀ k, k ≠ 0 → (w.setCell ⟨b, 0, none⟩ u).cell? ⟨b, k, none⟩ = w.cell? ⟨b, k, none⟩ := fun k hk => World.cell?_setCell_other _ _ _ _ (by intro e; injection e with _ e; exact hk e.symm)
  exact ⟨⟨World.cell?_setCell_same _ _ _ h.c.1, (ne 1 (by decide)).trans h.c.2.1, (ne 2 (by decide)).trans h.c.2.2.1, (ne 3 (by decide)).trans h.c.2.2.2⟩, fun o => by rw [World.frozen?_setCell]; exact h.f o, by simpa using h.lt⟩
theorem Res.set1 {w : World} {b : Nat} {v0 v1 v2 v3 : Value} (h : Res w b v0 v1 v2 v3) (u : Value) : Res (w.setCell ⟨b, 1, none⟩ u) b v0 u v2 v3 := by
  have ne : ∀ k, k ≠ 1 → (w.setCell ⟨b, 1, none⟩ u).cell? ⟨b, k, none⟩ = w.cell? ⟨b, k, none⟩ := fun k hk => World.cell?_setCell_other _ _ _ _ (by intro e; injection e with _ e; exact hk e.symm)
  exact ⟨⟨(ne 0 (by decide)).trans h.c.1, World.cell?_setCell_same _ _ _ h.c.2.1, (ne 2 (by decide)).trans h.c.2.2.1, (ne 3 (by decide)).trans h.c.2.2.2⟩, fun o => by rw [World.frozen?_setCell]; exact h.f o, by simpa using h.lt⟩
theorem Res.set2 {w : World} {b : Nat} {v0 v1 v2 v3 : Value} (h : Res w b v0 v1 v2 v3) (u : Value) : Res (w.setCell ⟨b, 2, none⟩ u) b v0 v1 u v3 := by
  have ne : ∀ k, k ≠ 2 → (w.setCell ⟨b, 2, none⟩ u).cell? ⟨b, k, none⟩ = w.cell? ⟨b, k, none⟩ := fun k hk => World.cell?_setCell_other _ _ _ _ (by intro e; injection e with _ e; exact hk e.symm)
  exact ⟨⟨(ne 0 (by decide)).trans h.c.1, (ne 1 (by decide)).trans h.c.2.1, World.cell?_setCell_same _ _ _ h.c.2.2.1, (ne 3 (by decide)).trans h.c.2.2.2⟩, fun o => by rw [World.frozen?_setCell]; exact h.f o, by simpa using h.lt⟩
theorem Res.off {w : World} {b b' o : Nat} {v0 v1 v2 v3 : Value} (h : Res w b v0 v1 v2 v3) (hne : b' ≠ b) (u : Value) : Res (w.setCell ⟨b', o, none⟩ u) b v0 v1 v2 v3 := by
  have ne : ∀ k, (w.setCell ⟨b', o, none⟩ u).cell? ⟨b, k, none⟩ = w.cell? ⟨b, k, none⟩ := fun k => World.cell?_setCell_other _ _ _ _ (by intro e; injection e with e; exact hne e)
  exact ⟨⟨(ne 0).trans h.c.1, (ne 1).trans h.c.2.1, (ne 2).trans h.c.2.2.1, (ne 3).trans h.c.2.2.2⟩, fun o => by rw [World.frozen?_setCell]; exact h.f o, by simpa using h.lt⟩
/-- As DrK, and none of the blocks is x. -/
def DrX (w : World) (lo x : Nat) (v : Value) (ks : List E) : Prop := v.ownBlock ≠ some x ∧ ∃ xs, w.ownsRow lo 24 4 v ks.length xs ∧ ∀ j, (h : j < ks.length) →
  xs[j * 4]? = some (.int .i64 ks[j].op) ∧ xs[j * 4 + 1]? = some (.int .i64 ks[j].n) ∧ xs[j * 4 + 2]? = some (.string ks[j].name) ∧
    ∃ A c, xs[j * 4 + 3]? = some (.slice A ks[j].kids.length c) ∧ PdS w (fun b => (Between w lo w.heap.size b ∧ b ≠ x) ∧ v.ownBlock ≠ some b) ks[j].kids A
theorem DrX.of {w : World} {lo : Nat} {v : Value} {ks : List E} (h : DrK w lo v ks) : DrX w lo w.heap.size v ks := by
  have ho := h.owned
  obtain ⟨xs, h1, h2⟩ := h
  refine ⟨fun e => by have := (ho _ e).2; omega, xs, h1, fun j hj => ?_⟩
  obtain ⟨a, b, c, A, d, e, f⟩ := h2 j hj
  exact ⟨a, b, c, A, d, e, f.keep (fun _ _ _ => rfl) (fun b hb => ⟨⟨hb.1, by have := hb.1.2.1; omega⟩, hb.2⟩)⟩
theorem DrX.dr {w : World} {lo x : Nat} {v : Value} {ks : List E} (h : DrX w lo x v ks) : DrK w lo v ks := by
  obtain ⟨_, xs, h1, h2⟩ := h
  refine ⟨xs, h1, fun j hj => ?_⟩
  obtain ⟨a, b, c, A, d, e, f⟩ := h2 j hj
  exact ⟨a, b, c, A, d, e, f.keep (fun _ _ _ => rfl) (fun b hb => ⟨hb.1.1, hb.2⟩)⟩
theorem DrX.keep {w w' : World} {lo x : Nat} {v : Value} {ks : List E} (h : DrX w lo x v ks) (hk : ∀ b, lo ≤ b → b < w.heap.size → b ≠ x → w'.heap[b]? = w.heap[b]?) (hz : w.heap.size ≤ w'.heap.size) : DrX w' lo x v ks := by
  obtain ⟨hx0, xs, ho, hx⟩ := h
  refine ⟨hx0, xs, ?_, fun j hj => ?_⟩
  · rcases ho with ⟨h1, h2 | ⟨g, cap, cur, e1, e2, e3, e4⟩⟩
    · exact ⟨h1, .inl h2⟩
    · exact ⟨h1, .inr ⟨g, cap, cur, e1, e2, (hk g e2 (Array.getElem?_eq_some_iff.1 e3).1 (fun e => hx0 (by rw [e1, ← e]; rfl))).trans e3, e4⟩⟩
  · obtain ⟨a, b, c, A, d, e, f⟩ := hx j hj
    exact ⟨a, b, c, A, d, e, f.keep (fun b o hb => World.cell?_of_block (hk b hb.1.1.1 hb.1.1.2.1 hb.1.2)) (fun b hb => ⟨⟨⟨hb.1.1.1, Nat.lt_of_lt_of_le hb.1.1.2.1 hz, flat_of_eq hb.1.1.2.2 (hk b hb.1.1.1 hb.1.1.2.1 hb.1.2)⟩, hb.1.2⟩, hb.2⟩)⟩
theorem DrX.touch {w w' : World} {R lo x : Nat} {v : Value} {ks : List E} (h : DrX w lo x v ks) (ht : Touch R w w') (hR : R < lo) : DrX w' lo x v ks := h.keep (fun b h1 h2 _ => ht.above b (by omega) h2) ht.below.size
theorem DrX.set {w : World} {lo x : Nat} {v : Value} {ks : List E} (h : DrX w lo x v ks) {b : Nat} (hb : b < lo ∨ b = x) (o : Nat) (u : Value) : DrX (w.setCell ⟨b, o, none⟩ u) lo x v ks :=
  h.keep (fun k h1 _ h3 => by show (w.heap.modify b _)[k]? = _; rw [Array.getElem?_modify, if_neg (by omega)]) (by simp)
/-- One Kid more, without Kids. -/
theorem DrX.snoc {w w' : World} {lo x n g cap : Nat} {v : Value} {ks : List E} {xs : List Value} (op z : Int) (s : ByteArray) (h0 : v.ownBlock ≠ some x) (hxw : x < w.heap.size)
    (hx : ∀ j, (h : j < ks.length) → xs[j * 4]? = some (.int .i64 ks[j].op) ∧ xs[j * 4 + 1]? = some (.int .i64 ks[j].n) ∧ xs[j * 4 + 2]? = some (.string ks[j].name) ∧ ∃ A c, xs[j * 4 + 3]? = some (.slice A ks[j].kids.length c) ∧ PdS w (fun b => (Between w lo w.heap.size b ∧ b ≠ x) ∧ v.ownBlock ≠ some b) ks[j].kids A)
    (hl : xs.length = ks.length * 4) (hn : ks.length = n) (hown : w'.ownsRow lo 24 4 (.slice (some ⟨g, 0, none⟩) (n + 1) cap) (n + 1) (xs ++ [.int .i64 op, .int .i64 z, .string s, .slice none 0 0])) (hg : w.grownBy w' v.ownBlock) (hat : v.ownBlock = some g ∨ g = w.heap.size) :
    DrX w' lo x (.slice (some ⟨g, 0, none⟩) (n + 1) cap) (ks ++ [.mk op z s []]) := by
  have hgx : g ≠ x := by
    rintro rfl
    rcases hat with h1 | h1
    · exact h0 h1
    · omega
  have keep : ∀ {ls : List E} {A : Option Addr}, PdS w (fun b => (Between w lo w.heap.size b ∧ b ≠ x) ∧ v.ownBlock ≠ some b) ls A → PdS w' (fun b => (Between w' lo w'.heap.size b ∧ b ≠ x) ∧ (Value.slice (some ⟨g, 0, none⟩) (n + 1) cap).ownBlock ≠ some b) ls A := by
    intro ls A h
    refine h.keep (fun b o hb => World.cell?_of_block (hg.block b hb.1.1.2.1 (fun e => hb.2 e.symm))) (fun b hb => ⟨⟨⟨hb.1.1.1, Nat.lt_of_lt_of_le hb.1.1.2.1 hg.size, flat_of_eq hb.1.1.2.2 (hg.block b hb.1.1.2.1 (fun e => hb.2 e.symm))⟩, hb.1.2⟩, ?_⟩)
    intro e
    have e : g = b := by injection e
    rcases hat with h1 | h1
    · exact hb.2 (by rw [h1, e])
    · have := hb.1.1.2.1; omega
  refine ⟨fun e => hgx (by injection e), xs ++ [.int .i64 op, .int .i64 z, .string s, .slice none 0 0], ?_, fun j hj => ?_⟩
  · rw [List.length_append, hn]; exact hown
  · by_cases hjk : j < ks.length
    · obtain ⟨a, b, c, A, d, e, f⟩ := hx j hjk
      rw [List.getElem_append_left hjk]
      refine ⟨?_, ?_, ?_, A, d, ?_, keep f⟩ <;> (rw [List.getElem?_append_left (by omega)]; assumption)
    · have hj' : j = ks.length := by simp at hj; omega
      subst hj'
      simp only [List.getElem_concat_length]
      have at_ : ∀ i, i < 4 → (xs ++ [.int .i64 op, .int .i64 z, .string s, .slice none 0 0])[ks.length * 4 + i]? = [Value.int .i64 op, .int .i64 z, .string s, .slice none 0 0][i]? := by
        intro i hi
        rw [List.getElem?_append_right (by omega), hl]
        congr 1
        omega
      exact ⟨at_ 0 (by omega), at_ 1 (by omega), at_ 2 (by omega), none, 0, at_ 3 (by omega), .inl rfl⟩
theorem leaf_cells (op z : Int) (s : ByteArray) : ∀ u ∈ [Value.int .i64 op, .int .i64 z, .string s, .slice none 0 0], u.oneCell' = true := by
  intro u hu
  simp only [List.mem_cons, List.not_mem_nil, or_false] at hu
  rcases hu with rfl | rfl | rfl | rfl <;> rfl
set_option maxHeartbeats 8000000 in
theorem l2Bent_any (R p : Nat) (w : World) (h : Rd w R p) (hp : p ≤ 800000) :
    Calls Tryz.prog 34 #[.pointer (some ⟨R, 0, none⟩)] w (DrRet R (p + 2000) 3000 w) := by
  have hlt := h.lt
  have hb0 := (Below.refl w.heap.size w).alloc (Nat.le_refl _) (.cells #[.int .i64 0, .int .i64 0, .string ⟨#[]⟩, .slice none 0 0] 24)
  have D0 := Lib.hid (DrewT.below h hb0)
  have R0 := Lib.hid (Res.new w (.int .i64 0) (.int .i64 0) (.string ⟨#[]⟩) (.slice none 0 0) 24)
  have LX := Lib.hid (l2Any_any R p 4 (by omega) _ (h.keep hb0) (by show p + 124 + 200 ≤ _; omega))
  have HW0 := Lib.hid R0.out.lt
  clear h hb0
  go_enter Tryz.func34, Tryz.ntmps34
  go_wp2_with fail
  refine Calls.mono LX.out ?_
  rintro ee w1 ⟨e1, A1, cc1, rfl, hk1, hbk1, hd1⟩
  have hbk : bulkE e1 ≤ 648 := hbk1
  unfold exV
  have D1 := Lib.hid (D0.out.trans hd1)
  have R1 := Lib.hid (R0.out.touch hd1.2 hlt)
  have K1 := Lib.hid (DrX.of (hk1.wide (lo' := w.heap.size + 1) HW0.out))
  obtain ⟨p1, hp1', hr1⟩ := hd1.1
  have hp1 : p1 ≤ p + 274 := hp1'
  clear hk1 hd1 LX HW0 D0 R0 hbk1 hp1'
  have hR1 : R < w1.heap.size := hr1.lt
  have hR0 : R < w.heap.size + 1 := by omega
  have hb2 := (Below.refl w1.heap.size w1).alloc (Nat.le_refl _) (.cells #[.int .i64 e1.op, .int .i64 e1.n, .string e1.name, .slice A1 e1.kids.length cc1] 24)
  have D2 := Lib.hid (D1.out.step hb2)
  have R2 := Lib.hid (R1.out.touch (Touch.of_below hb2 hR1) hlt)
  have X2 := Lib.hid (Res.new w1 (.int .i64 e1.op) (.int .i64 e1.n) (.string e1.name) (.slice A1 e1.kids.length cc1) 24)
  have K2 := Lib.hid (K1.out.touch (Touch.of_below hb2 hR1) hR0)
  have hr2 := hr1.keep hb2
  have hw1 := R1.out.lt
  clear hb2
  go_wp2_with fail
  generalize w1.alloc (.cells #[.int .i64 e1.op, .int .i64 e1.n, .string e1.name, .slice A1 e1.kids.length cc1] 24) = w2 at *
  have PK := Lib.hid (pick_t R p1 20 w2 hr2 (by omega) (by omega) (by omega))
  clear D1 R1 K1 hr1 hr2
  refine Calls.mono PK.out ?_
  rintro ee w3 ⟨r, hr, rfl, hd3⟩
  have D3 := Lib.hid (D2.out.trans hd3)
  have R3 := Lib.hid (R2.out.touch hd3.2 hlt)
  have X3 := Lib.hid (X2.out.touch hd3.2 hR1)
  have K3 := Lib.hid (K2.out.touch hd3.2 hR0)
  obtain ⟨p3, hp3, hr3⟩ := hd3.1
  have hR3 : R < w3.heap.size := hr3.lt
  have hle : w.heap.size ≤ w1.heap.size := Nat.le_of_lt hw1
  have hq : w.heap.size < w.heap.size + 1 ∨ w.heap.size = w1.heap.size := by omega
  clear hd3 D2 R2 X2 K2 PK
  have hcase : r = 0 ∨ r = 1 ∨ r = 2 ∨ r = 3 ∨ r = 4 ∨ 5 ≤ r := by omega
  rcases hcase with rfl | rfl | rfl | rfl | rfl | h5
  · have NM := Lib.hid (num_t R p3 [-1, 256, 3] w3 3 (0, 0) hr3 (by omega) (by simp) (by simp))
    go_wp2_with fail
    refine Calls.mono NM.out ?_
    rintro ee w4 ⟨z, hz, rfl, hd4⟩
    have R4 := R3.out.touch hd4.2 hlt
    have X4 := X3.out.touch hd4.2 hR1
    have K4 := Lib.hid (K3.out.touch hd4.2 hR0)
    have D4 := Lib.hid ((D3.out.trans hd4).more (show p3 + 1 ≤ p + 2000 by omega))
    obtain ⟨c0, c1, c2, c3⟩ := R4.c
    have f0 := R4.f 0
    have f1 := R4.f 1
    have f2 := R4.f 2
    have f3 := R4.f 3
    obtain ⟨x0, x1, x2, x3⟩ := X4.c
    have g1 := X4.f 1
    skip
    clear hd4 R4 X4 R3 X3 K3 D3 NM hr3 hz
    go_wp2_with fail
    refine bodyPost_ret (v := .agg #[.int .i64 e1.op, .int .i64 z, .string e1.name, .slice A1 e1.kids.length cc1]) (by simp [results, Tryz.results34, go_sem, c0, c1, c2, c3]) rfl ⟨.mk e1.op z e1.name e1.kids, A1, cc1, rfl, ?_, by have h1 := bulkE_kids e1; show ByteArray.size e1.name + bulkL e1.kids ≤ _; omega, ?_⟩
    · exact (((((K4.out.set (.inr rfl) 1 _).set hq 0 _).set hq 1 _).set hq 2 _).set hq 3 _).dr.wide (Nat.le_succ _)
    · exact ((((D4.out.set hle hlt 1 _).set (Nat.le_refl _) hlt 0 _).set (Nat.le_refl _) hlt 1 _).set (Nat.le_refl _) hlt 2 _).set (Nat.le_refl _) hlt 3 _
  · have NM := Lib.hid (oflit_t R p3 bentN w3 9 (0, 0) hr3 (by omega) (by decide) (by decide))
    go_wp2_with fail
    refine Calls.mono NM.out ?_
    rintro ee w4 ⟨z, hz, rfl, hd4⟩
    have R4 := R3.out.touch hd4.2 hlt
    have X4 := X3.out.touch hd4.2 hR1
    have K4 := Lib.hid (K3.out.touch hd4.2 hR0)
    have D4 := Lib.hid ((D3.out.trans hd4).more (show p3 + 1 ≤ p + 2000 by omega))
    obtain ⟨c0, c1, c2, c3⟩ := R4.c
    have f0 := R4.f 0
    have f1 := R4.f 1
    have f2 := R4.f 2
    have f3 := R4.f 3
    obtain ⟨x0, x1, x2, x3⟩ := X4.c
    have g1 := X4.f 2
    have hz8 : z.size ≤ 8 := (show ∀ s ∈ bentN, s.size ≤ 8 by decide) z hz
    clear hd4 R4 X4 R3 X3 K3 D3 NM hr3 hz
    go_wp2_with fail
    refine bodyPost_ret (v := .agg #[.int .i64 e1.op, .int .i64 e1.n, .string z, .slice A1 e1.kids.length cc1]) (by simp [results, Tryz.results34, go_sem, c0, c1, c2, c3]) rfl ⟨.mk e1.op e1.n z e1.kids, A1, cc1, rfl, ?_, by have h1 := bulkE_kids e1; show ByteArray.size z + bulkL e1.kids ≤ _; omega, ?_⟩
    · exact (((((K4.out.set (.inr rfl) 2 _).set hq 0 _).set hq 1 _).set hq 2 _).set hq 3 _).dr.wide (Nat.le_succ _)
    · exact ((((D4.out.set hle hlt 2 _).set (Nat.le_refl _) hlt 0 _).set (Nat.le_refl _) hlt 1 _).set (Nat.le_refl _) hlt 2 _).set (Nat.le_refl _) hlt 3 _
  · have NM := Lib.hid (num_t R p3 [0, 14, -1, 5, 11] w3 3 (0, 0) hr3 (by omega) (by simp) (by simp))
    go_wp2_with fail
    refine Calls.mono NM.out ?_
    rintro ee w4 ⟨z, hz, rfl, hd4⟩
    have R4 := R3.out.touch hd4.2 hlt
    have X4 := X3.out.touch hd4.2 hR1
    have K4 := Lib.hid (K3.out.touch hd4.2 hR0)
    have D4 := Lib.hid ((D3.out.trans hd4).more (show p3 + 1 ≤ p + 2000 by omega))
    obtain ⟨c0, c1, c2, c3⟩ := R4.c
    have f0 := R4.f 0
    have f1 := R4.f 1
    have f2 := R4.f 2
    have f3 := R4.f 3
    obtain ⟨x0, x1, x2, x3⟩ := X4.c
    have g1 := X4.f 0
    skip
    clear hd4 R4 X4 R3 X3 K3 D3 NM hr3 hz
    go_wp2_with fail
    refine bodyPost_ret (v := .agg #[.int .i64 z, .int .i64 e1.n, .string e1.name, .slice A1 e1.kids.length cc1]) (by simp [results, Tryz.results34, go_sem, c0, c1, c2, c3]) rfl ⟨.mk z e1.n e1.name e1.kids, A1, cc1, rfl, ?_, by have h1 := bulkE_kids e1; show ByteArray.size e1.name + bulkL e1.kids ≤ _; omega, ?_⟩
    · exact (((((K4.out.set (.inr rfl) 0 _).set hq 0 _).set hq 1 _).set hq 2 _).set hq 3 _).dr.wide (Nat.le_succ _)
    · exact ((((D4.out.set hle hlt 0 _).set (Nat.le_refl _) hlt 0 _).set (Nat.le_refl _) hlt 1 _).set (Nat.le_refl _) hlt 2 _).set (Nat.le_refl _) hlt 3 _
  · obtain ⟨i0, hi, hz0, hz1, hz2⟩ := info_parts exprInfo
    have hkl : e1.kids.length ≤ 648 := by have h1 := bulkE_kids e1; have h2 := sizeL_bulk e1.kids; have h3 := length_le_sizeL e1.kids; omega
    have HLB := Lib.hid (show (e1.kids.length + 1 ≤ maxLen ∧ (e1.kids.length + 1) * 56 ≤ 140737488355328) from ⟨by unfold maxLen; omega, by omega⟩)
    have LF := Lib.hid (leaf_nil R p3 w3.drew hr3.drew (by omega))
    have K3d := Lib.hid (K3.out.touch (Touch.of_below (Below.refl _ w3).drew hR3) hR0)
    have X3d := Lib.hid (show Res w3.drew w1.heap.size _ _ _ _ from ⟨X3.out.c, X3.out.f, X3.out.lt⟩)
    have R3d := Lib.hid (show Res w3.drew w.heap.size _ _ _ _ from ⟨R3.out.c, R3.out.f, R3.out.lt⟩)
    have D3d := Lib.hid (D3.out.step (Below.refl _ w3).drew)
    obtain ⟨x0, x1, x2, x3⟩ := X3.out.c
    have hne : some w1.heap.size ≠ (Value.slice A1 e1.kids.length cc1).ownBlock := fun e => K3.out.1 e.symm
    have hne0 : some w.heap.size ≠ (Value.slice A1 e1.kids.length cc1).ownBlock := fun e => by have := (K3.out.dr.owned _ e.symm).1; omega
    have HO := Lib.hid (K3.out.dr.owned)
    have hx3 := X3.out.lt
    go_wp2_with fail
    go_region_law (first
      | (refine step_append_lies _ rfl _ _ 22 rfl (w.heap.size + 1) 24 i0 (.agg #[.int .i64 0, .int .i64 0, .string ⟨#[]⟩, .slice none 0 0]) 4 56 Tryz.underlying22 hi hz0 hz1 hz2 rfl (by decide) _ e1.kids.length xs7 rfl HOW.out ⟨w7.heap.size, 0, none⟩ 1 1 [.int .i64 op7, .int .i64 z7, .string s7, .slice none 0 0] rfl rfl HNW.out HTO.out (by decide) HLB.out.1 HLB.out.2 hbz _ rfl ?_; intro g8 cap8 w8 hown8 hgrow8 hat8 hlt8; have X8 := Lib.hid (X7.out.grow hgrow8 hne); have R8 := Lib.hid (R7.out.grow hgrow8 hne0); have H8 := Lib.hid (And.intro hown8 (And.intro hgrow8 hat8)); obtain ⟨k0, k1, k2, k3⟩ := X8.out.c; have f3 := X8.out.f 3; clear hown8 hgrow8 hat8)
      | (go_simp; go_at_call 56; refine Calls.mono LF.out ?_; rintro ee w7 ⟨op7, z7, s7, hs7, rfl, hd7⟩; have hal := (Below.refl w7.heap.size w7).alloc (Nat.le_refl _) (.cells #[.int .i64 op7, .int .i64 z7, .string s7, .slice none 0 0] 24); have hR7 := DrewT.lt hd7; have X6 := Lib.hid (X3d.out.touch hd7.2 hR1); have X7 := Lib.hid (X6.out.touch (Touch.of_below hal hR7) hR1); have R7 := Lib.hid ((R3d.out.touch hd7.2 hlt).touch (Touch.of_below hal hR7) hlt); have V7 := (K3d.out.touch hd7.2 hR0).touch (Touch.of_below hal hR7) hR0; obtain ⟨hq7, xs7, ho7, hx7⟩ := V7; obtain ⟨m0, m1, m2, m3⟩ := X6.out.c; obtain ⟨n0, n1, n2, n3⟩ := X7.out.c; have HOW := Lib.hid ho7; have HX7 := Lib.hid hx7; have HNW := Lib.hid (new_four w7 (.int .i64 op7) (.int .i64 z7) (.string s7) (.slice none 0 0) 24); have HTO := Lib.hid (leaf_cells op7 z7 s7); have HD7 := Lib.hid hd7; have HAL := Lib.hid hal; have HX0 := Lib.hid (Nat.lt_of_lt_of_le hx3 (Nat.le_trans hd7.2.below.size hal.size)); have hbz : w.heap.size + 1 ≤ (w7.alloc (.cells #[.int .i64 op7, .int .i64 z7, .string s7, .slice none 0 0] 24)).heap.size := Nat.le_trans (Nat.le_trans hw1 (Nat.le_of_lt hx3)) (Nat.le_trans hd7.2.below.size hal.size); clear ho7 hx7 hd7 hal))
    all_goals
      obtain ⟨hown8, hgrow8, hat8⟩ := H8.out
      have hv0 : (Value.slice A1 e1.kids.length cc1).ownBlock = some g8 ∨ g8 = (w7.alloc (.cells #[.int .i64 op7, .int .i64 z7, .string s7, .slice none 0 0] 24)).heap.size := hat8
      have SN := Lib.hid (DrX.snoc (w := w7.alloc (.cells #[.int .i64 op7, .int .i64 z7, .string s7, .slice none 0 0] 24)) op7 z7 s7 hq7 HX0.out HX7.out HOW.out.1 rfl hown8 hgrow8 hv0)
      have DG := Lib.hid ((((D3d.out.trans HD7.out).step HAL.out).grow hgrow8 (fun k e => by have := (HO.out k e).1; omega) hlt).more (show p3 + 2 ≤ p + 2000 by omega))
      obtain ⟨c0, c1, c2, c3⟩ := R8.out.c
      have f0 := R8.out.f 0
      have f1 := R8.out.f 1
      have f2 := R8.out.f 2
      have f4 := R8.out.f 3
      clear hown8 hgrow8 hat8 hv0 m0 m1 m2 m3 n0 n1 n2 n3 R8
      go_wp2_with fail
      refine bodyPost_ret (v := .agg #[.int .i64 e1.op, .int .i64 e1.n, .string e1.name, .slice (some ⟨g8, 0, none⟩) (e1.kids.length + 1) cap8]) (by simp [results, Tryz.results34, go_sem, c0, c1, c2, c3]) rfl ⟨.mk e1.op e1.n e1.name (e1.kids ++ [.mk op7 z7 s7 []]), some ⟨g8, 0, none⟩, cap8, by unfold exV; dsimp only [E.op, E.n, E.name, E.kids]; rw [List.length_append]; rfl, ?_, by have h1 := bulkE_kids e1; show e1.name.size + bulkL (e1.kids ++ [.mk op7 z7 s7 []]) ≤ _; rw [bulkL_snoc]; show _ + (_ + (1 + (s7.size + 0))) ≤ _; omega, ?_⟩
      · dsimp only [E.kids]
        rw [List.length_append]
        exact (((((SN.out.set (.inr rfl) 3 _).set hq 0 _).set hq 1 _).set hq 2 _).set hq 3 _).dr.wide (Nat.le_succ _)
      · exact ((((DG.out.set hle hlt 3 _).set (Nat.le_refl _) hlt 0 _).set (Nat.le_refl _) hlt 1 _).set (Nat.le_refl _) hlt 2 _).set (Nat.le_refl _) hlt 3 _
  · have LX := Lib.hid (l2Any_any R p3 7 (by omega) w3 hr3 (by show _ + 1020 + 200 ≤ _; omega))
    go_wp2_with fail
    refine Calls.mono LX.out ?_
    rintro ee w4 ⟨e4, A4, cc4, rfl, hk4, hbk4', hd4⟩
    unfold exV
    have hbk4 : bulkE e4 ≤ 2440 := hbk4'
    have hw3 := X3.out.lt
    have K4 := Lib.hid (DrX.of hk4)
    have R4 := R3.out.touch hd4.2 hlt
    have X4 := X3.out.touch hd4.2 hR1
    have D4 := Lib.hid ((D3.out.trans hd4).more (show p3 + 1020 + 150 ≤ p + 2000 by omega))
    have hk4' := Lib.hid hk4
    obtain ⟨c0, c1, c2, c3⟩ := R4.c
    have f0 := R4.f 0
    have f1 := R4.f 1
    have f2 := R4.f 2
    have f3 := R4.f 3
    obtain ⟨x0, x1, x2, x3⟩ := X4.c
    have g0 := X4.f 0
    have g1 := X4.f 1
    have g2 := X4.f 2
    have g3 := X4.f 3
    clear hd4 R4 X4 R3 X3 K3 D3 LX hr3 hk4 hbk4'
    go_wp2_with fail
    refine bodyPost_ret (v := .agg #[.int .i64 e4.op, .int .i64 e4.n, .string e4.name, .slice A4 e4.kids.length cc4]) (by simp [results, Tryz.results34, go_sem, c0, c1, c2, c3]) rfl ⟨e4, A4, cc4, rfl, ?_, by omega, ?_⟩
    · have hq1 : w1.heap.size < w3.heap.size := hw3
      have hq2 : w.heap.size < w3.heap.size := by omega
      exact ((((((((hk4'.out.set hq1 0 _).set hq1 1 _).set hq1 2 _).set hq1 3 _).set hq2 0 _).set hq2 1 _).set hq2 2 _).set hq2 3 _).wide (Nat.le_of_lt hq2)
    · exact (((((((D4.out.set hle hlt 0 _).set hle hlt 1 _).set hle hlt 2 _).set hle hlt 3 _).set (Nat.le_refl _) hlt 0 _).set (Nat.le_refl _) hlt 1 _).set (Nat.le_refl _) hlt 2 _).set (Nat.le_refl _) hlt 3 _
  · have q0 : ((r : Int) == 0) = false := beq_no (by omega)
    have q1 : ((r : Int) == 1) = false := beq_no (by omega)
    have q2 : ((r : Int) == 2) = false := beq_no (by omega)
    have q3 : ((r : Int) == 3) = false := beq_no (by omega)
    have q4 : ((r : Int) == 4) = false := beq_no (by omega)
    have R4 := R3.out
    have X4 := X3.out
    have D4 := Lib.hid (D3.out.more (show p1 + 1 ≤ p + 2000 by omega))
    obtain ⟨c0, c1, c2, c3⟩ := R4.c
    have f0 := R4.f 0
    have f1 := R4.f 1
    have f2 := R4.f 2
    have f3 := R4.f 3
    obtain ⟨x0, x1, x2, x3⟩ := X4.c
    clear R4 X4 R3 X3 D3 hr3
    go_wp2_with fail
    refine bodyPost_ret (v := .agg #[.int .i64 e1.op, .int .i64 e1.n, .string e1.name, .slice A1 e1.kids.length cc1]) (by simp [results, Tryz.results34, go_sem, c0, c1, c2, c3]) rfl ⟨e1, A1, cc1, rfl, ?_, by omega, ?_⟩
    · exact ((((K3.out.set hq 0 _).set hq 1 _).set hq 2 _).set hq 3 _).dr.wide (Nat.le_succ _)
    · exact (((D4.out.set (Nat.le_refl _) hlt 0 _).set (Nat.le_refl _) hlt 1 _).set (Nat.le_refl _) hlt 2 _).set (Nat.le_refl _) hlt 3 _
end Go.Proofs.YtkhcfhhejmkikaaGreatDoor

namespace Go.Proofs.YtkhcfhhejmkikaaGreatDoor
open Go.RowKit
set_option maxRecDepth 100000

theorem valid_kid {e k : E} (h : validE e = true) (hk : k ∈ e.kids) : validE k = true := by
  have h1 := validE_form h
  have h2 := validE_size h
  unfold validE
  rw [Bool.and_eq_true, decide_eq_true_eq]
  have h3 := sizeL_mem hk
  rw [sizeE_kids] at h2
  exact ⟨form_more 5 k (formE_kid h1 hk), by omega⟩
theorem fit_neg (op : Int) (s : ByteArray) (len : Nat) : fitB op (-1) s len = false := by
  cases h : fitB op (-1) s len with
  | false => rfl
  | true => rcases fitB_cases h with ⟨_, h, _⟩ | ⟨_, h, _⟩ | ⟨_, h, _⟩ | ⟨_, h, _⟩ | ⟨_, h, _⟩ <;> omega
theorem valid_neg (op : Int) (s : ByteArray) (ks : List E) : validE (.mk op (-1) s ks) = false := by
  unfold validE
  rw [formE_unfit (e := .mk op (-1) s ks) (fit_neg _ _ _)]; rfl
def doS : ByteArray := ⟨#[100, 111]⟩
theorem do_no : nameB doS = false := by
  have h : isKeyB doS = true := by decide +kernel
  unfold nameB
  rw [h]
  simp
theorem fit_do (op n : Int) (len : Nat) : fitB op n doS len = false := by
  cases h : fitB op n doS len with
  | false => rfl
  | true =>
    have hd : doS ≠ ⟨#[]⟩ := by decide
    rcases fitB_cases h with ⟨_, _, h, _⟩ | ⟨_, _, _, h⟩ | ⟨_, _, _, h⟩ | ⟨_, _, h, _⟩ | ⟨_, _, h, _⟩
    · exact absurd h hd
    · rw [do_no] at h; cases h
    · rw [do_no] at h; cases h
    · exact absurd h hd
    · exact absurd h hd
theorem valid_do (op n : Int) (ks : List E) : validE (.mk op n doS ks) = false := by
  unfold validE
  rw [formE_unfit (e := .mk op n doS ks) (fit_do _ _ _)]; rfl
def notE (e : E) : E := .mk 11 0 ⟨#[]⟩ [e]
theorem notE_form (d : Nat) (e : E) : formE (d + 1) (notE e) = formE d e := by
  rw [formE_succ]
  show (fitB 11 0 ⟨#[]⟩ 1 && [e].all (formE d)) = _
  have h : fitB 11 0 ⟨#[]⟩ 1 = true := by unfold fitB; rfl
  rw [h]
  simp
theorem notE_valid (e : E) : validE (notE e) = (formE 5 e && decide (sizeE e < 30)) := by
  unfold validE
  rw [notE_form 5 e]
  congr 1
  have : sizeE (notE e) = 1 + (sizeE e + 0) := rfl
  rw [Bool.eq_iff_iff, decide_eq_true_eq, decide_eq_true_eq]
  omega
theorem notE_of {e : E} (h : validE (notE e) = true) : validE e = true := by
  rw [notE_valid, Bool.and_eq_true, decide_eq_true_eq] at h
  unfold validE
  rw [Bool.and_eq_true, decide_eq_true_eq]
  exact ⟨form_more 5 e h.1, by omega⟩
theorem notE_is {e : E} (h : validE e = true) : validE (notE e) = (decide (deepE e < 6) && decide (sizeE e < 30)) := by
  rw [notE_valid]
  congr 1
  rw [Bool.eq_iff_iff, decide_eq_true_eq]
  constructor
  · intro h5; have := deep_of_form 5 e h5; omega
  · intro hd; exact form_deep 6 5 e (validE_form h) (by omega)
set_option maxHeartbeats 1000000 in
theorem implExprParts_any (e : E) (A : Option Addr) (cap : Nat) (w : World) (hR : RdS w w.heap.size e.kids A) (hl : bulkE e ≤ 1048576) (T : Tabs w) (G : Sgn w) :
    Calls Tryz.prog 25 #[exV e A cap] w (NumBelow (if validE e = true then sizeE e else 0) w) := by
  have hsb := sizeE_bulk e
  obtain ⟨c0, c1, c2, c3, hlt, hb⟩ := box4 w (.int .i64 e.op) (.int .i64 e.n) (.string e.name) (.slice A e.kids.length cap) 24
  have CV := implExprValid_any e A cap _ ((hR.below hb).more hb.size) hl (T.below hb) (G.below hb)
  have CP := fun W (h : Below w.heap.size w W) => Lib.hid (countParts_any e A cap W ((hR.below h).more h.size) (by omega))
  unfold exV at CV CP ⊢
  clear hR T G
  cases hv : validE e
  · rw [hv] at CV
    replace CV := Lib.hid CV
    clear hv CP
    go_enter Tryz.func25, Tryz.ntmps25
    go_wp2_with ((go_at_call 20; (with_reducible refine Calls.mono CV.out ?_); rintro ee w1 ⟨rfl, hb1⟩; have hb2 := hb.trans (hb1.mono (Nat.le_of_lt hlt))))
    go_ret
    exact ⟨rfl, hb2⟩
  · rw [hv] at CV
    replace CV := Lib.hid CV
    clear hv
    generalize sizeE e = dp at *
    go_enter Tryz.func25, Tryz.ntmps25
    go_wp2_with fail
    (with_reducible refine Calls.mono CV.out ?_)
    rintro ee w1 ⟨rfl, hb1⟩
    have k0 := (hb1.cell (p := ⟨w.heap.size, 0, none⟩) hlt).trans c0
    have k1 := (hb1.cell (p := ⟨w.heap.size, 1, none⟩) hlt).trans c1
    have k2 := (hb1.cell (p := ⟨w.heap.size, 2, none⟩) hlt).trans c2
    have k3 := (hb1.cell (p := ⟨w.heap.size, 3, none⟩) hlt).trans c3
    have hb2 := hb.trans (hb1.mono (Nat.le_of_lt hlt))
    have CP1 := Lib.hid (CP _ hb2).out
    clear CP CV hb hb1
    go_wp2_with fail
    (with_reducible refine Calls.mono CP1.out ?_)
    rintro ee w3 ⟨rfl, hb4⟩
    have hb5 := hb2.trans (hb4.mono hb2.size)
    go_wp2_with fail
    go_ret
    exact ⟨rfl, hb5⟩
theorem Res.below {w w' : World} {B b : Nat} {v0 v1 v2 v3 : Value} (h : Res w b v0 v1 v2 v3) (hb : Below B w w') (hB : b < B) : Res w' b v0 v1 v2 v3 :=
  ⟨h.c.below hb hB, fun o => (hb.frozen (p := ⟨b, o, none⟩) hB).trans (h.f o), Nat.lt_of_lt_of_le h.lt hb.size⟩
/-- What a drawer of one expression leaves. -/
def Dr1 (w : World) (ee : Ending) (w' : World) : Prop := ∃ (e : E) (A : Option Addr) (c : Nat), ee = .returned (exV e A c) ∧ PdS w' (Between w' w.heap.size w'.heap.size) e.kids A ∧ bulkE e ≤ 3000 ∧ Below w.heap.size w w'
end Go.Proofs.YtkhcfhhejmkikaaGreatDoor

namespace Go.Proofs.YtkhcfhhejmkikaaGreatDoor
open Go.RowKit
set_option maxRecDepth 100000

theorem DrK.below {w w' : World} {B lo : Nat} {v : Value} {ks : List E} (h : DrK w lo v ks) (hb : Below B w w') (hB : w.heap.size ≤ B) : DrK w' lo v ks :=
  h.keep (fun b _ h2 => hb.block b (Nat.lt_of_lt_of_le h2 hB)) hb.size
/-- A copy lies in memory of its own. -/
def CpRet (e : E) (w : World) (ee : Ending) (w' : World) : Prop := ∃ (A : Option Addr) (c : Nat), ee = .returned (exV e A c) ∧ DrK w' w.heap.size (.slice A e.kids.length c) e.kids ∧ Below w.heap.size w w'
def CpE (e : E) : Prop := ∀ (A : Option Addr) (cap : Nat) (w : World), RdS w w.heap.size e.kids A → Calls Tryz.prog 55 #[exV e A cap] w (CpRet e w)
theorem copy_start (w : World) (v0 v1 v2 v3 z0 z1 z2 z3 : Value) (t t' : TypeId) :
    Res (((w.alloc (.cells #[v0, v1, v2, v3] t)).alloc (.cells #[z0, z1, z2, z3] t')).alloc (.cells #[] 24)) w.heap.size v0 v1 v2 v3 ∧
    Res (((w.alloc (.cells #[v0, v1, v2, v3] t)).alloc (.cells #[z0, z1, z2, z3] t')).alloc (.cells #[] 24)) (w.heap.size + 1) z0 z1 z2 z3 ∧
    DrK (((w.alloc (.cells #[v0, v1, v2, v3] t)).alloc (.cells #[z0, z1, z2, z3] t')).alloc (.cells #[] 24)) (w.heap.size + 2) (.slice (some ⟨w.heap.size + 1 + 1, 0, none⟩) 0 0) [] ∧
    Below w.heap.size w (((w.alloc (.cells #[v0, v1, v2, v3] t)).alloc (.cells #[z0, z1, z2, z3] t')).alloc (.cells #[] 24)) := by
  have s1 : (w.alloc (.cells #[v0, v1, v2, v3] t)).heap.size = w.heap.size + 1 := World.size_alloc _ _
  have s2 : ((w.alloc (.cells #[v0, v1, v2, v3] t)).alloc (.cells #[z0, z1, z2, z3] t')).heap.size = w.heap.size + 1 + 1 := by rw [World.size_alloc, s1]
  have b1 := (Below.refl (w.alloc (.cells #[v0, v1, v2, v3] t)).heap.size (w.alloc (.cells #[v0, v1, v2, v3] t))).alloc (Nat.le_refl _) (.cells #[z0, z1, z2, z3] t')
  have b2 := (Below.refl ((w.alloc (.cells #[v0, v1, v2, v3] t)).alloc (.cells #[z0, z1, z2, z3] t')).heap.size ((w.alloc (.cells #[v0, v1, v2, v3] t)).alloc (.cells #[z0, z1, z2, z3] t'))).alloc (Nat.le_refl _) (.cells #[] 24)
  have r0 := ((Res.new w v0 v1 v2 v3 t).below b1 (Res.new w v0 v1 v2 v3 t).lt)
  have r1 := Res.new (w.alloc (.cells #[v0, v1, v2, v3] t)) z0 z1 z2 z3 t'
  have k := DrK.lit (w := ((w.alloc (.cells #[v0, v1, v2, v3] t)).alloc (.cells #[z0, z1, z2, z3] t'))) (lo := w.heap.size + 2) [] (by rw [s2]; omega) (by simp) (by simp)
  rw [s2] at k
  have r2 := r1.below b2 r1.lt
  rw [s1] at r2
  exact ⟨r0.below b2 r0.lt, r2, k, (((Below.refl _ _).alloc (Nat.le_refl _) _).alloc (by rw [s1]; omega) _).alloc (by rw [s2]; omega) _⟩

set_option maxHeartbeats 4000000 in
theorem l2Copy_of (e : E) (hn : e.kids.length ≤ 1048576) (H : ∀ k ∈ e.kids, CpE k) : CpE e := by
  intro A cap w hR
  obtain ⟨op, n, s, ks⟩ := e
  unfold exV
  dsimp only [E.op, E.n, E.name, E.kids] at *
  have HK := fun i (h : i < ks.length) => H _ (List.getElem_mem h)
  clear H
  unfold CpE exV at HK
  replace HK := Lib.hid HK
  have HR := Lib.hid hR
  clear hR
  obtain ⟨i0, hi, hz0, hz1, hz2⟩ := info_parts exprInfo
  have CS := Lib.hid (copy_start w (.int .i64 op) (.int .i64 n) (.string s) (.slice A ks.length cap) (.int .i64 0) (.int .i64 0) (.string ⟨#[]⟩) (.slice none 0 0) 24 24)
  go_enter Tryz.func55, Tryz.ntmps55
  go_wp2_with fail
  go_loopw [3, 4] (fun v i wr => ∃ ls : List E, ls = ks.take ls.length ∧ ls.length ≤ ks.length ∧ i = .int .i64 ls.length ∧ Res wr w.heap.size (.int .i64 op) (.int .i64 n) (.string s) (.slice A ks.length cap) ∧ Res wr (w.heap.size + 1) (.int .i64 0) (.int .i64 0) (.string ⟨#[]⟩) (.slice none 0 0) ∧ DrK wr (w.heap.size + 2) v ls ∧ Below w.heap.size w wr) (fun _ i _ => ks.length - (intOf i).toNat)
  case atStart => exact ⟨[], rfl, Nat.zero_le _, rfl, CS.out.1, CS.out.2.1, CS.out.2.2.1, CS.out.2.2.2⟩
  case round =>
    clear CS
    obtain ⟨ls, hls, hk, rfl, hP, hZ, hD, hb⟩ := hrel
    have hlsH := Lib.hid hls
    clear hls
    have hPl := hP.lt
    have hZl := hZ.lt
    obtain ⟨Av, cv, rfl⟩ := hD.slice
    obtain ⟨p0, p1, p2, p3⟩ := hP.c
    by_cases hlt : ls.length < ks.length
    · obtain ⟨b, o, rfl, hB, ⟨c0, c1, c2⟩, A1, cap1, c3, hr⟩ := (HR.out.below hb).at_ hlt
      have CK := HK.out ls.length hlt A1 cap1 wr (hr.more hb.size)
      have HOWN := Lib.hid hD.owned
      have HP := Lib.hid hP
      have HZ := Lib.hid hZ
      have HD := Lib.hid hD
      clear hr hP hZ hD
      generalize hkd : ks[ls.length] = kid at CK c0 c1 c2 c3
      have HKD := Lib.hid hkd
      clear hkd
      replace CK := Lib.hid CK
      go_wp2_with fail
      (with_reducible refine Calls.mono CK.out ?_)
      rintro ee w2 ⟨A2, cc2, rfl, hk2, hb2⟩
      unfold exV
      have hal := (Below.refl w2.heap.size w2).alloc (Nat.le_refl _) (.cells #[.int .i64 kid.op, .int .i64 kid.n, .string kid.name, .slice A2 kid.kids.length cc2] 24)
      have P3 := Lib.hid ((HP.out.below hb2 hPl).below hal (Nat.lt_of_lt_of_le hPl hb2.size))
      have Z3 := Lib.hid ((HZ.out.below hb2 hZl).below hal (Nat.lt_of_lt_of_le hZl hb2.size))
      obtain ⟨xs, ho, hx⟩ := (HD.out.below hb2 (Nat.le_refl _)).below hal (Nat.le_refl _)
      have HOW := Lib.hid ho
      have HX := Lib.hid hx
      have HNW := Lib.hid (new_four w2 (.int .i64 kid.op) (.int .i64 kid.n) (.string kid.name) (.slice A2 kid.kids.length cc2) 24)
      have HTO := Lib.hid (kid_cells kid A2 cc2)
      have hbz : w.heap.size + 2 ≤ (w2.alloc (.cells #[.int .i64 kid.op, .int .i64 kid.n, .string kid.name, .slice A2 kid.kids.length cc2] 24)).heap.size := Nat.le_trans (Nat.le_trans (by omega) hb2.size) hal.size
      have HLB := Lib.hid (show (ls.length + 1 ≤ maxLen ∧ (ls.length + 1) * 56 ≤ 140737488355328) from ⟨by unfold maxLen; omega, by omega⟩)
      have HK2 := Lib.hid ((hk2.below hal (Nat.le_refl _)).apart (lo := w.heap.size + 2) (v := .slice Av ls.length cv) (by omega) (fun k e => (HOWN.out k e).2))
      have HB3 := Lib.hid ((hb.trans (hb2.mono hb.size)).trans (hal.mono (Nat.le_trans hb.size hb2.size)))
      clear ho hx hk2 hal hb2 c0 c1 c2 c3 p0 p1 p2 p3
      go_wp2_with (at_builtin; refine wpList_append_lies _ rfl _ _ 22 rfl (w.heap.size + 2) 24 i0 (.agg #[.int .i64 0, .int .i64 0, .string ⟨#[]⟩, .slice none 0 0]) 4 56 Tryz.underlying22 hi hz0 hz1 hz2 rfl (by decide) _ ls.length xs rfl HOW.out ⟨w2.heap.size, 0, none⟩ 1 1 (Kd.mk kid A2 cc2).cells rfl rfl HNW.out HTO.out (by decide) HLB.out.1 HLB.out.2 hbz _ rfl ?_; intro g8 cap8 w8 hown8 hgrow8 hat8 hlt8)
      go_roundw
      case rel =>
        have SN := DrK.snoc (w := (w2.alloc (.cells #[.int .i64 kid.op, .int .i64 kid.n, .string kid.name, .slice A2 kid.kids.length cc2] 24))) ⟨kid, A2, cc2⟩ HX.out HOW.out.1 rfl hown8 hgrow8 hat8 HK2.out
        have hne0 : some w.heap.size ≠ (Value.slice Av ls.length cv).ownBlock := fun e => by have := HOWN.out _ e.symm; omega
        have hne1 : some (w.heap.size + 1) ≠ (Value.slice Av ls.length cv).ownBlock := fun e => by have := HOWN.out _ e.symm; omega
        refine ⟨ls ++ [kid], ?_, by rw [List.length_append]; show ls.length + 1 ≤ _; omega, by rw [List.length_append]; go_num, P3.out.grow hgrow8 hne0, Z3.out.grow hgrow8 hne1, ?_, HB3.out.grown hgrow8 (by omega) (fun k e => by have := HOWN.out k e; omega)⟩
        · rw [List.length_append]
          show _ = ks.take (ls.length + 1)
          rw [List.take_succ_eq_append_getElem hlt, ← hlsH.out, HKD.out]
        · first | exact SN | (rw [List.length_append]; exact SN)
      case measure => simp only [intOf]; omega
    · have hle : ls.length = ks.length := by omega
      obtain rfl : ks = ls := by
        have h := hlsH.out
        rw [hle, List.take_length] at h
        exact h.symm
      obtain ⟨z0, z1, z2, z3⟩ := hZ.c
      have f3 := hP.f 3
      have g0 := hZ.f 0
      have g1 := hZ.f 1
      have g2 := hZ.f 2
      have g3 := hZ.f 3
      have HD := Lib.hid hD
      have HB := Lib.hid hb
      clear hP hZ hD hb hlsH hle HK HR
      go_wp2_with fail
      refine bodyPost_ret (v := .agg #[.int .i64 op, .int .i64 n, .string s, .slice Av ks.length cv]) (by simp [results, Tryz.results55, go_sem, z0, z1, z2, z3]) rfl ⟨Av, cv, rfl, ?_, ?_⟩
      · have q0 : w.heap.size < w.heap.size + 2 := by omega
        have q1 : w.heap.size + 1 < w.heap.size + 2 := by omega
        exact (((((HD.out.set q0 3 _).set q1 0 _).set q1 1 _).set q1 2 _).set q1 3 _).wide (by omega)
      · exact ((((HB.out.setCell (p := ⟨w.heap.size, 3, none⟩) (Nat.le_refl _) _).setCell (p := ⟨w.heap.size + 1, 0, none⟩) (Nat.le_succ _) _).setCell (p := ⟨w.heap.size + 1, 1, none⟩) (Nat.le_succ _) _).setCell (p := ⟨w.heap.size + 1, 2, none⟩) (Nat.le_succ _) _).setCell (p := ⟨w.heap.size + 1, 3, none⟩) (Nat.le_succ _) _
theorem l2Copy_any (e : E) (h : bulkE e ≤ 1048576) : CpE e := by
  refine E.ind (P := fun e => bulkE e ≤ 1048576 → CpE e) ?_ e h
  intro e ih h
  rw [bulkE_kids] at h
  have h1 := length_le_sizeL e.kids
  have h2 := sizeL_bulk e.kids
  exact l2Copy_of e (by omega) fun k hk => ih k hk (by have := bulkL_mem hk; omega)
end Go.Proofs.YtkhcfhhejmkikaaGreatDoor

namespace Go.Proofs.YtkhcfhhejmkikaaGreatDoor
open Go.RowKit
set_option maxRecDepth 100000

/-- A block that a call has made, but for one. -/
def BtX (lo X : Nat) (w : World) (b : Nat) : Prop := lo ≤ b ∧ b < w.heap.size ∧ b ≠ X ∧ Flat w b
theorem PdS.belowX {w w' : World} {lo X : Nat} {ks : List E} {A : Option Addr} (h : PdS w (BtX lo X w) ks A) (hb : Below w.heap.size w w') : PdS w' (BtX lo X w') ks A :=
  h.keep (fun b _ h => hb.cell (p := ⟨b, _, none⟩) h.2.1) (fun _ h => ⟨h.1, Nat.lt_of_lt_of_le h.2.1 hb.size, h.2.2.1, h.2.2.2.below hb h.2.1⟩)
theorem PdS.setX {w : World} {lo X : Nat} {ks : List E} {A : Option Addr} (h : PdS w (BtX lo X w) ks A) (o : Nat) (v : Value) : PdS (w.setCell ⟨X, o, none⟩ v) (BtX lo X (w.setCell ⟨X, o, none⟩ v)) ks A :=
  h.keep (fun b o' h => World.cell?_setCell_other _ _ _ _ (by intro e; injection e with e; exact h.2.2.1 (by omega))) (fun _ h => ⟨h.1, by simpa using h.2.1, h.2.2.1, h.2.2.2.set _ _⟩)
theorem PdS.toX {w : World} {lo hi lo' X : Nat} {ks : List E} {A : Option Addr} (h : PdS w (Between w lo hi) ks A) (hX : X < lo ∨ hi ≤ X) (h1 : lo' ≤ lo) (h2 : hi ≤ w.heap.size) : PdS w (BtX lo' X w) ks A :=
  h.keep (fun _ _ _ => rfl) (fun _ h => ⟨by have := h.1; omega, by have := h.2.1; omega, by have := h.1; have := h.2.1; omega, h.2.2⟩)
theorem PdS.fromX {w : World} {lo X : Nat} {ks : List E} {A : Option Addr} (h : PdS w (BtX lo X w) ks A) : PdS w (Between w lo w.heap.size) ks A :=
  h.keep (fun _ _ _ => rfl) (fun _ h => ⟨h.1, h.2.1, h.2.2.2⟩)
theorem PdS.offX {w : World} {lo X g : Nat} {ks : List E} {A : Option Addr} (h : PdS w (BtX lo X w) ks A) (hg : g < lo) (o : Nat) (v : Value) : PdS (w.setCell ⟨g, o, none⟩ v) (BtX lo X (w.setCell ⟨g, o, none⟩ v)) ks A :=
  h.keep (fun b o' h => World.cell?_setCell_other _ _ _ _ (by intro e; injection e with e; have := h.1; omega)) (fun _ h => ⟨h.1, by simpa using h.2.1, h.2.2.1, h.2.2.2.set _ _⟩)
/-- A list that is written out. -/
theorem pd_lit {w : World} {S S' : Nat → Prop} (l : List Kd) (hS : S' w.heap.size) (hk : ∀ k ∈ l, PdS w S k.e.kids k.A) (hlt : ∀ b, S b → b < w.heap.size) (hs : ∀ b, S b → S' b) :
    PdS (w.alloc (.cells (kdCells l).toArray 24)) S' (l.map (·.e)) (some ⟨w.heap.size, 0, none⟩) := by
  refine .inr ⟨_, 0, rfl, hS, PdC.mk fun j hj => ?_⟩
  have hj' : j < l.length := by simpa using hj
  have a0 := kdCells_at l j hj' 0 (by omega)
  have a1 := kdCells_at l j hj' 1 (by omega)
  have a2 := kdCells_at l j hj' 2 (by omega)
  have a3 := kdCells_at l j hj' 3 (by omega)
  have cell : ∀ i v, (kdCells l)[i]? = some v → (w.alloc (.cells (kdCells l).toArray 24)).cell? ⟨w.heap.size, 0 + i, none⟩ = some v := by
    intro i v hv
    exact lit_cell w (kdCells l) 24 (0, 0) i v hv
  rw [Nat.add_zero] at a0
  rw [List.getElem_map]
  refine ⟨⟨cell _ _ a0, cell _ _ a1, cell _ _ a2⟩, _, _, cell _ _ a3, ?_⟩
  exact (hk l[j] (List.getElem_mem hj')).keep (fun b o h => World.cell?_of_block (heap_alloc_old _ _ (hlt b h))) hs
/-- Four stores into a result. -/
theorem res_four {w : World} {b : Nat} {v0 v1 v2 v3 : Value} (h : Res w b v0 v1 v2 v3) (u0 u1 u2 u3 : Value) :
    Res ((((w.setCell ⟨b, 0, none⟩ u0).setCell ⟨b, 1, none⟩ u1).setCell ⟨b, 2, none⟩ u2).setCell ⟨b, 3, none⟩ u3) b u0 u1 u2 u3 := (((h.set0 u0).set1 u1).set2 u2).set3 u3
theorem below_four {w w' : World} {B b : Nat} (h : Below B w w') (hB : B ≤ b) (u0 u1 u2 u3 : Value) :
    Below B w ((((w'.setCell ⟨b, 0, none⟩ u0).setCell ⟨b, 1, none⟩ u1).setCell ⟨b, 2, none⟩ u2).setCell ⟨b, 3, none⟩ u3) :=
  (((h.setCell (p := ⟨b, 0, none⟩) hB _).setCell (p := ⟨b, 1, none⟩) hB _).setCell (p := ⟨b, 2, none⟩) hB _).setCell (p := ⟨b, 3, none⟩) hB _
theorem pd_fourX {w : World} {lo X : Nat} {ks : List E} {A : Option Addr} (h : PdS w (BtX lo X w) ks A) (u0 u1 u2 u3 : Value) :
    PdS ((((w.setCell ⟨X, 0, none⟩ u0).setCell ⟨X, 1, none⟩ u1).setCell ⟨X, 2, none⟩ u2).setCell ⟨X, 3, none⟩ u3) (BtX lo X ((((w.setCell ⟨X, 0, none⟩ u0).setCell ⟨X, 1, none⟩ u1).setCell ⟨X, 2, none⟩ u2).setCell ⟨X, 3, none⟩ u3)) ks A :=
  (((h.setX 0 u0).setX 1 u1).setX 2 u2).setX 3 u3
theorem PdS.four' {w : World} {lo hi : Nat} {ks : List E} {A : Option Addr} (h : PdS w (Between w lo hi) ks A) {g : Nat} (hg : g < lo) (u0 u1 u2 u3 : Value) :
    PdS ((((w.setCell ⟨g, 0, none⟩ u0).setCell ⟨g, 1, none⟩ u1).setCell ⟨g, 2, none⟩ u2).setCell ⟨g, 3, none⟩ u3) (Between ((((w.setCell ⟨g, 0, none⟩ u0).setCell ⟨g, 1, none⟩ u1).setCell ⟨g, 2, none⟩ u2).setCell ⟨g, 3, none⟩ u3) lo hi) ks A :=
  (((h.set' hg 0 u0).set' hg 1 u1).set' hg 2 u2).set' hg 3 u3
theorem res_four_off {w : World} {b b' : Nat} {v0 v1 v2 v3 : Value} (h : Res w b v0 v1 v2 v3) (hne : b' ≠ b) (u0 u1 u2 u3 : Value) :
    Res ((((w.setCell ⟨b', 0, none⟩ u0).setCell ⟨b', 1, none⟩ u1).setCell ⟨b', 2, none⟩ u2).setCell ⟨b', 3, none⟩ u3) b v0 v1 v2 v3 := (((h.off hne u0).off hne u1).off hne u2).off hne u3
end Go.Proofs.YtkhcfhhejmkikaaGreatDoor
