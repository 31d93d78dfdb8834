/-
  The drawer of ExprText; the text of a valid expression, read back and written plainly.
-/
import Derived.Test.YtljdbjfbcjigaaaGreatDoorMg10
import Derived.Test.YtljdbjfbcjigaaaGreatDoorMg7
import Derived.Test.YtljdbjfbcjigaaaGreatDoorMs5
import Derived.Test.YtljdbjfbcjigaaaGreatDoorMs6
namespace Go.Proofs.YtljdbjfbcjigaaaGreatDoor
open Go.RowKit
set_option maxRecDepth 100000

def Dr2 (w : World) (ee : Ending) (w' : World) : Prop := ∃ (e e' : E) (A A' : Option Addr) (c c' : Nat), ee = .returned (.tuple #[exV e A c, exV e' A' c']) ∧ PdS w' (Between w' w.heap.size w'.heap.size) e.kids A ∧ PdS w' (Between w' w.heap.size w'.heap.size) e'.kids A' ∧ bulkE e ≤ 3000 ∧ bulkE e' ≤ 3000 ∧ Below w.heap.size w w'
theorem two_res (w : World) : 
    Res ((w.alloc (.cells #[.int .i64 0, .int .i64 0, .string ⟨#[]⟩, .slice none 0 0] 28)).alloc (.cells #[.int .i64 0, .int .i64 0, .string ⟨#[]⟩, .slice none 0 0] 28)) w.heap.size (.int .i64 0) (.int .i64 0) (.string ⟨#[]⟩) (.slice none 0 0) ∧
    Res ((w.alloc (.cells #[.int .i64 0, .int .i64 0, .string ⟨#[]⟩, .slice none 0 0] 28)).alloc (.cells #[.int .i64 0, .int .i64 0, .string ⟨#[]⟩, .slice none 0 0] 28)) (w.heap.size + 1) (.int .i64 0) (.int .i64 0) (.string ⟨#[]⟩) (.slice none 0 0) ∧
    Below w.heap.size w ((w.alloc (.cells #[.int .i64 0, .int .i64 0, .string ⟨#[]⟩, .slice none 0 0] 28)).alloc (.cells #[.int .i64 0, .int .i64 0, .string ⟨#[]⟩, .slice none 0 0] 28)) := by
  have s1 : (w.alloc (.cells #[.int .i64 0, .int .i64 0, .string ⟨#[]⟩, .slice none 0 0] 28)).heap.size = w.heap.size + 1 := World.size_alloc _ _
  have b1 := (Below.refl (w.alloc (.cells #[.int .i64 0, .int .i64 0, .string ⟨#[]⟩, .slice none 0 0] 28)).heap.size (w.alloc (.cells #[.int .i64 0, .int .i64 0, .string ⟨#[]⟩, .slice none 0 0] 28))).alloc (Nat.le_refl _) (.cells #[.int .i64 0, .int .i64 0, .string ⟨#[]⟩, .slice none 0 0] 28)
  have r0 := Res.new w (.int .i64 0) (.int .i64 0) (.string ⟨#[]⟩) (.slice none 0 0) 28
  have r1 := Res.new (w.alloc (.cells #[.int .i64 0, .int .i64 0, .string ⟨#[]⟩, .slice none 0 0] 28)) (.int .i64 0) (.int .i64 0) (.string ⟨#[]⟩) (.slice none 0 0) 28
  rw [s1] at r1
  exact ⟨r0.below b1 r0.lt, r1, ((Below.refl _ _).alloc (Nat.le_refl _) _).alloc (by rw [s1]; omega) _⟩
theorem PdS.touchX {w w' : World} {R lo X : Nat} {ks : List E} {A : Option Addr} (h : PdS w (BtX lo X w) ks A) (ht : Touch R w w') (hR : R < lo) : PdS w' (BtX lo X w') ks A :=
  h.keep (fun b _ hb => World.cell?_of_block (ht.above b (Nat.lt_of_lt_of_le hR hb.1) hb.2.1)) (fun b hb => ⟨hb.1, Nat.lt_of_lt_of_le hb.2.1 ht.below.size, hb.2.2.1, flat_of_eq hb.2.2.2 (ht.above b (Nat.lt_of_lt_of_le hR hb.1) hb.2.1)⟩)
theorem PdS.drewX {w : World} {lo X : Nat} {ks : List E} {A : Option Addr} (h : PdS w (BtX lo X w) ks A) : PdS w.drew (BtX lo X w.drew) ks A := h.belowX (Below.refl w.heap.size w).drew
theorem Res.offg {w : World} {b g : Nat} {v0 v1 v2 v3 : Value} (h : Res w b v0 v1 v2 v3) (hne : b ≠ g) (o : Nat) (u : Value) : Res (w.setCell ⟨g, o, none⟩ u) b v0 v1 v2 v3 := by
  have hb := heap_setCell_ne w g o b u hne
  exact ⟨⟨(World.cell?_of_block hb).trans h.c.1, (World.cell?_of_block hb).trans h.c.2.1, (World.cell?_of_block hb).trans h.c.2.2.1, (World.cell?_of_block hb).trans h.c.2.2.2⟩, fun k => (World.frozen?_of_block hb).trans (h.f k), by simpa using h.lt⟩
theorem Res.drewn {w : World} {b : Nat} {v0 v1 v2 v3 : Value} (h : Res w b v0 v1 v2 v3) : Res w.drew b v0 v1 v2 v3 := ⟨h.c, h.f, h.lt⟩
theorem DrK.drewn {w : World} {lo : Nat} {v : Value} {ks : List E} (h : DrK w lo v ks) : DrK w.drew lo v ks := h.below (Below.refl w.heap.size w).drew (Nat.le_refl _)
set_option maxHeartbeats 40000000 in
theorem drawSameExpr_any (A : Option Addr) (l : List UInt8) (cap : Nat) (w : World) (h : Bytes w w.heap.size A l) (hn : l.length ≤ cap) (hcap : cap ≤ 9223372036854775807) :
    Calls Tryz.prog 24 #[.slice A l.length cap] w (Dr2 w) := by
  obtain ⟨r0, r1, hb0⟩ := two_res w
  have R0 := Lib.hid r0
  have Q0 := Lib.hid r1
  have OP := l30Open_any A l cap ((w.alloc (.cells #[.int .i64 0, .int .i64 0, .string ⟨#[]⟩, .slice none 0 0] 28)).alloc (.cells #[.int .i64 0, .int .i64 0, .string ⟨#[]⟩, .slice none 0 0] 28)) (by
    intro hne
    obtain ⟨b, o, e, hb, hc⟩ := h hne
    exact ⟨b, o, e, Nat.lt_of_lt_of_le hb hb0.size, fun j hj => (hb0.cell (p := ⟨b, _, none⟩) hb).trans (hc j hj)⟩) hn hcap
  have HB0 := Lib.hid hb0
  clear h hb0 r0 r1
  go_enter Tryz.func24, Tryz.ntmps24
  go_wp2_with fail
  generalize (w.alloc (.cells #[.int .i64 0, .int .i64 0, .string ⟨#[]⟩, .slice none 0 0] 28)).alloc (.cells #[.int .i64 0, .int .i64 0, .string ⟨#[]⟩, .slice none 0 0] 28) = w0 at *
  refine Calls.mono OP ?_
  rintro ee w1 ⟨rfl, hr1, hb1⟩
  have hl0 : w.heap.size + 1 < w0.heap.size := Q0.out.lt
  have hl0' : w.heap.size < w0.heap.size := R0.out.lt
  generalize hR : w0.heap.size = R at *
  have LX := Lib.hid (l2Any_any R 0 4 (by omega) w1 hr1 (by show 0 + 124 + 200 ≤ _; omega))
  have hz1 := hr1.lt
  have R1 := Lib.hid (R0.out.below hb1 hl0')
  have Q1 := Lib.hid (Q0.out.below hb1 hl0)
  have HB1 := Lib.hid (HB0.out.trans (hb1.mono (Nat.le_of_lt hl0')))
  clear hb1 OP R0 Q0 HB0 hR hr1
  go_wp2_with fail
  refine Calls.mono LX.out ?_
  rintro ee w2 ⟨e1, A1, cc1, rfl, hk1, hbk1, hd1⟩
  have hbk : bulkE e1 ≤ 648 := hbk1
  unfold exV
  have R2 := Lib.hid (R1.out.below hd1.2.below hl0')
  have Q2 := Lib.hid (Q1.out.below hd1.2.below hl0)
  have HB2 := Lib.hid (HB1.out.trans (hd1.2.below.mono (Nat.le_of_lt hl0')))
  obtain ⟨p2, hp2', hr2⟩ := hd1.1
  have hp2 : p2 ≤ 274 := hp2'
  have hR2 : R < w2.heap.size := hr2.lt
  have hal := (Below.refl w2.heap.size w2).alloc (Nat.le_refl _) (.cells #[.int .i64 e1.op, .int .i64 e1.n, .string e1.name, .slice A1 e1.kids.length cc1] 28)
  have X3 := Lib.hid (Res.new w2 (.int .i64 e1.op) (.int .i64 e1.n) (.string e1.name) (.slice A1 e1.kids.length cc1) 28)
  have R3 := Lib.hid (R2.out.below hal (by omega))
  have Q3 := Lib.hid (Q2.out.below hal (by omega))
  have K3 := Lib.hid (hk1.below hal (Nat.le_refl _))
  have HB3 := Lib.hid (HB2.out.trans (hal.mono HB2.out.size))
  have hr3 := hr2.keep hal
  clear hk1 hbk1 hd1 hal R2 Q2 HB2 R1 Q1 HB1 LX hr2 hp2'
  go_wp2_with fail
  generalize w2.alloc (.cells #[.int .i64 e1.op, .int .i64 e1.n, .string e1.name, .slice A1 e1.kids.length cc1] 28) = w3 at *
  have PK := Lib.hid (pick_t R p2 3 w3 hr3 (by omega) (by omega) (by omega))
  clear hr3
  refine Calls.mono PK.out ?_
  rintro ee w4 ⟨r, hr, rfl, hd4⟩
  have X4 := Lib.hid (X3.out.touch hd4.2 hR2)
  have R4 := Lib.hid (R3.out.below hd4.2.below hl0')
  have Q4 := Lib.hid (Q3.out.below hd4.2.below hl0)
  have K4 := Lib.hid (K3.out.touch hd4.2 hz1)
  have HB4 := Lib.hid (HB3.out.trans (hd4.2.below.mono (Nat.le_of_lt hl0')))
  obtain ⟨p4, hp4, hr4⟩ := hd4.1
  clear hd4 PK X3 R3 Q3 K3 HB3
  by_cases hz : r = 0
  · subst hz
    have LB := Lib.hid (l2Bent_any R p4 w4.drew hr4.drew (by omega))
    obtain ⟨x0, x1, x2, x3⟩ := X4.out.c
    have hx4 := X4.out.lt
    have hR4 := hr4.lt
    clear hr4
    go_wp2_with fail
    (first | go_region_law (go_simp; go_at_call 56; refine Calls.mono LB.out ?_; rintro ee w5 ⟨e5, A5, cc5, rfl, hk5, hbk5, hd5⟩; unfold exV; have X5 := (show Res w4.drew w2.heap.size _ _ _ _ from ⟨X4.out.c, X4.out.f, X4.out.lt⟩).touch hd5.2 hR2; have R5 := Lib.hid ((show Res w4.drew w.heap.size _ _ _ _ from ⟨R4.out.c, R4.out.f, R4.out.lt⟩).below hd5.2.below hl0'); have Q5 := Lib.hid ((show Res w4.drew (w.heap.size + 1) _ _ _ _ from ⟨Q4.out.c, Q4.out.f, Q4.out.lt⟩).below hd5.2.below hl0); obtain ⟨y0, y1, y2, y3⟩ := X5.c; obtain ⟨a0, a1, a2, a3⟩ := R5.out.c; obtain ⟨b0, b1, b2, b3⟩ := Q5.out.c; have f0 := R5.out.f 0; have f1 := R5.out.f 1; have f2 := R5.out.f 2; have f3 := R5.out.f 3; have g0 := Q5.out.f 0; have g1 := Q5.out.f 1; have g2 := Q5.out.f 2; have g3 := Q5.out.f 3; have HK5 := Lib.hid hk5; have HD5 := Lib.hid hd5; clear hk5 hd5 X5) | fail)
    all_goals
      have K5 := Lib.hid ((K4.out.touch (Touch.of_below (Below.refl _ w4).drew hR4) hz1).touch HD5.out.2 hz1)
      have HB5 := Lib.hid (HB4.out.drew.trans (HD5.out.2.below.mono (Nat.le_of_lt hl0')))
      have hs4 := HB4.out.size
      clear R5 Q5 HD5 X4 R4 Q4 K4 HB4 LB
      go_wp2_with fail
      refine bodyPost_ret (v := .tuple #[.agg #[.int .i64 e1.op, .int .i64 e1.n, .string e1.name, .slice A1 e1.kids.length cc1], .agg #[.int .i64 e5.op, .int .i64 e5.n, .string e5.name, .slice A5 e5.kids.length cc5]]) (by simp [results, Tryz.results24, go_sem, a0, a1, a2, a3, b0, b1, b2, b3]) rfl ⟨e1, e5, A1, A5, cc1, cc5, rfl, ?_, ?_, by omega, hbk5, ?_⟩
      · have q0 : w.heap.size < w1.heap.size := by omega
        have q1 : w.heap.size + 1 < w1.heap.size := by omega
        exact ((((((((K5.out.set q0 0 _).set q0 1 _).set q0 2 _).set q0 3 _).set q1 0 _).set q1 1 _).set q1 2 _).set q1 3 _).pd.wide (Nat.le_of_lt q0) (Nat.le_refl _)
      · have q0 : w.heap.size < w4.drew.heap.size := by show _ < w4.heap.size; omega
        have q1 : w.heap.size + 1 < w4.drew.heap.size := by show _ < w4.heap.size; omega
        exact ((((((((HK5.out.set q0 0 _).set q0 1 _).set q0 2 _).set q0 3 _).set q1 0 _).set q1 1 _).set q1 2 _).set q1 3 _).pd.wide (Nat.le_of_lt q0) (Nat.le_refl _)
      · exact ((((((((HB5.out.setCell (p := ⟨w.heap.size, 0, none⟩) (Nat.le_refl _) _).setCell (p := ⟨w.heap.size, 1, none⟩) (Nat.le_refl _) _).setCell (p := ⟨w.heap.size, 2, none⟩) (Nat.le_refl _) _).setCell (p := ⟨w.heap.size, 3, none⟩) (Nat.le_refl _) _).setCell (p := ⟨w.heap.size + 1, 0, none⟩) (Nat.le_succ _) _).setCell (p := ⟨w.heap.size + 1, 1, none⟩) (Nat.le_succ _) _).setCell (p := ⟨w.heap.size + 1, 2, none⟩) (Nat.le_succ _) _).setCell (p := ⟨w.heap.size + 1, 3, none⟩) (Nat.le_succ _) _)
  · have qr : ((r : Int) == 0) = false := beq_no (by omega)
    have CP := l2Copy_any e1 (by omega) A1 cc1 w4 K4.out.pd.between_rd
    unfold CpRet exV at CP
    replace CP := Lib.hid CP
    obtain ⟨x0, x1, x2, x3⟩ := X4.out.c
    have hx4 := X4.out.lt
    have hr4' := Lib.hid hr4
    clear hr4
    go_wp2_with fail
    refine Calls.mono CP.out ?_
    rintro ee w5 ⟨A5, cc5, rfl, hk5, hb5⟩
    have hw4 : R < w4.heap.size := hr4'.out.lt
    have hw5 : R < w5.heap.size := Nat.lt_of_lt_of_le hw4 hb5.size
    have hal := (Below.refl w5.heap.size w5).alloc (Nat.le_refl _) (.cells #[.int .i64 e1.op, .int .i64 e1.n, .string e1.name, .slice A5 e1.kids.length cc5] 28)
    have hs56 := hal.size
    have T6 := Lib.hid (Res.new w5 (.int .i64 e1.op) (.int .i64 e1.n) (.string e1.name) (.slice A5 e1.kids.length cc5) 28)
    have X6 := Lib.hid ((X4.out.below hb5 hx4).below hal (Nat.lt_of_lt_of_le hx4 hb5.size))
    have R6 := Lib.hid ((R4.out.below hb5 R4.out.lt).below hal (Nat.lt_of_lt_of_le R4.out.lt hb5.size))
    have Q6 := Lib.hid ((Q4.out.below hb5 Q4.out.lt).below hal (Nat.lt_of_lt_of_le Q4.out.lt hb5.size))
    have K6 := Lib.hid ((K4.out.below hb5 (Nat.le_refl _)).below hal (Nat.le_refl _))
    have C6 := Lib.hid (hk5.below hal (Nat.le_refl _))
    have HB6 := Lib.hid ((HB4.out.trans (hb5.mono HB4.out.size)).trans (hal.mono (Nat.le_trans HB4.out.size hb5.size)))
    have hr6 := Lib.hid ((hr4'.out.keep hb5).keep hal)
    have KX6 := Lib.hid (fun X (hX : w4.heap.size ≤ X) => ((K4.out.pd.toX (lo' := w1.heap.size) (X := X) (.inr hX) (Nat.le_refl _) (Nat.le_refl _)).belowX hb5).belowX hal)
    have HOW5 := Lib.hid hk5.owned
    have hs4 := HB4.out.size
    clear hk5 hb5 hal X4 R4 Q4 CP x0 x1 x2 x3 hr4'
    go_wp2_with fail
    generalize w5.alloc (.cells #[.int .i64 e1.op, .int .i64 e1.n, .string e1.name, .slice A5 e1.kids.length cc5] 28) = w6 at *
    have PK := Lib.hid (pick_t R p4 2 w6 hr6.out (by omega) (by omega) (by omega))
    refine Calls.mono PK.out ?_
    rintro ee w7 ⟨r2, hr2', rfl, hd7⟩
    have hs67 := hd7.2.below.size
    have hx2 : R < w2.heap.size := hR2
    have X7 := Lib.hid (X6.out.touch hd7.2 hR2)
    have T7 := Lib.hid (T6.out.touch hd7.2 hw5)
    have R7 := Lib.hid (R6.out.below hd7.2.below hl0')
    have Q7 := Lib.hid (Q6.out.below hd7.2.below hl0)
    have K7 := Lib.hid (K6.out.touch hd7.2 hz1)
    have C7 := Lib.hid (C6.out.touch hd7.2 hw4)
    have HB7 := Lib.hid (HB6.out.trans (hd7.2.below.mono (Nat.le_of_lt hl0')))
    obtain ⟨p7, hp7, hr7⟩ := hd7.1
    have HR7 := Lib.hid hr7
    have KX7 := Lib.hid (fun X hX => (KX6.out X hX).touchX hd7.2 hz1)
    clear KX6
    clear hd7 PK X6 T6 R6 Q6 K6 C6 HB6 hr6 hr7
    by_cases hz2 : r2 = 0
    · subst hz2
      by_cases hkn : 0 < e1.kids.length
      · have hkn' : (0 : Int) < e1.kids.length := by omega
        obtain ⟨g, rfl, hg, hg5⟩ : ∃ g, A5 = some ⟨g, 0, none⟩ ∧ w4.heap.size ≤ g ∧ g < w5.heap.size := by
          obtain ⟨xs7, ho7, _⟩ := C7.out
          rcases ho7.2 with ⟨e0, h0⟩ | ⟨g, cap, cur, e0, _⟩
          · omega
          · injection e0 with e0 _ _
            have h5 := HOW5.out g (by rw [e0]; rfl)
            exact ⟨g, e0, h5.1, h5.2⟩
        obtain ⟨x0, x1, x2, x3⟩ := X7.out.c
        obtain ⟨t0, t1, t2, t3⟩ := T7.out.c
        have hln : e1.kids.length ≤ 1000 := by have h1 := bulkE_kids e1; have h2 := sizeL_bulk e1.kids; have h3 := length_le_sizeL e1.kids; omega
        have LFA := fun p W (h : Rd W R p) (hp : p ≤ 900000) => Lib.hid (show Calls Tryz.prog 58 #[.pointer (some ⟨R, 0, none⟩), .slice (some ⟨W.heap.size, 0, none⟩) 1 1] (W.alloc (.cells #[.string ⟨#[97]⟩] 9)) (LeafRet R (p + 2) (W.alloc (.cells #[.string ⟨#[97]⟩] 9))) from leaf_names R p W.heap.size 0 1 [⟨#[97]⟩] _ (h.alloc _) hp (by decide) (by decide) (by decide) (NmS.lit [(⟨#[97]⟩ : ByteArray)] 9 (0, 0) h.lt))
        have HRd := Lib.hid HR7.out.drew
        have hw7R : R < w7.heap.size := HR7.out.lt
        have t3a : (w7.alloc (.cells #[.string ⟨#[97]⟩] 9)).cell? ⟨w5.heap.size, 3, none⟩ = some (.slice (some ⟨g, 0, none⟩) e1.kids.length cc5) := (((Below.refl w7.heap.size w7).alloc (Nat.le_refl _) (.cells #[.string ⟨#[97]⟩] 9)).cell (p := ⟨w5.heap.size, 3, none⟩) T7.out.lt).trans t3
        go_upto_region 7 with (fail)
        go_cut [38] from 28 to 38 (fun _ wx => ∃ (i8 : Nat) (op9 z9 : Int) (s9 : ByteArray), i8 < e1.kids.length ∧ s9.size ≤ 1000 ∧ PdS wx (BtX w1.heap.size g wx) e1.kids A1 ∧ DrK wx w4.heap.size (.slice (some ⟨g, 0, none⟩) e1.kids.length cc5) (e1.kids.set i8 (.mk op9 z9 s9 [])) ∧ Res wx w2.heap.size (.int .i64 e1.op) (.int .i64 e1.n) (.string e1.name) (.slice A1 e1.kids.length cc1) ∧ Res wx w5.heap.size (.int .i64 e1.op) (.int .i64 e1.n) (.string e1.name) (.slice (some ⟨g, 0, none⟩) e1.kids.length cc5) ∧ Res wx w.heap.size (.int .i64 0) (.int .i64 0) (.string ⟨#[]⟩) (.slice none 0 0) ∧ Res wx (w.heap.size + 1) (.int .i64 0) (.int .i64 0) (.string ⟨#[]⟩) (.slice none 0 0) ∧ Below w.heap.size w wx)
        case first =>
          go_region_law (first | (go_simp; go_at_call 55; (with_reducible refine Calls.mono (pick_t R p7 e1.kids.length w7.drew HRd.out (by omega) (by omega) hln) ?_); rintro ee w8 ⟨i8, hi8, rfl, hd8⟩; have HD8 := Lib.hid ((Touch.of_below (Below.refl _ w7).drew hw7R).trans hd8.2); have T8 := Lib.hid (T7.out.touch HD8.out hw5); have C8 := Lib.hid (C7.out.touch HD8.out hw4); obtain ⟨p8, hp8, hr8⟩ := hd8.1; have HR8 := Lib.hid hr8; clear hr8; obtain ⟨m0, m1, m2, m3⟩ := T8.out.c; have m3a : (w8.alloc (.cells #[.string ⟨#[97]⟩] 9)).cell? ⟨w5.heap.size, 3, none⟩ = some (.slice (some ⟨g, 0, none⟩) e1.kids.length cc5) := (((Below.refl w8.heap.size w8).alloc (Nat.le_refl _) (.cells #[.string ⟨#[97]⟩] 9)).cell (p := ⟨w5.heap.size, 3, none⟩) T8.out.lt).trans m3; clear hd8) | (go_simp; go_at_call 55; (with_reducible refine Calls.mono (pick_t R p7 e1.kids.length (w7.alloc (.cells #[.string ⟨#[97]⟩] 9)).drew (HR7.out.alloc _).drew (by omega) (by omega) hln) ?_); rintro ee w8 ⟨i8, hi8, rfl, hd8⟩; have HD8 := Lib.hid ((Touch.of_below ((Below.refl _ w7).alloc (Nat.le_refl _) (.cells #[.string ⟨#[97]⟩] 9)).drew hw7R).trans hd8.2); have NB8 := Lib.hid ((NmS.lit (w := w7) [(⟨#[97]⟩ : ByteArray)] 9 (0, 0) hw7R).touch ((Touch.of_below (Below.refl _ _).drew (HR7.out.alloc _).lt).trans hd8.2)); have T8 := Lib.hid (T7.out.touch HD8.out hw5); have C8 := Lib.hid (C7.out.touch HD8.out hw4); obtain ⟨p8, hp8, hr8⟩ := hd8.1; have HR8 := Lib.hid hr8; clear hr8; obtain ⟨m0, m1, m2, m3⟩ := T8.out.c; clear hd8) | (go_simp; go_at_call 58; (with_reducible refine Calls.mono (LFA p8 w8 HR8.out (by omega)).out ?_); rintro ee w9 ⟨op9, z9, s9, hs9, rfl, hd9⟩; have HT9 := Lib.hid ((Touch.of_below ((Below.refl w8.heap.size w8).alloc (Nat.le_refl _) (.cells #[.string ⟨#[97]⟩] 9)) HR8.out.lt).trans hd9.2); clear hd9; have C9 := Lib.hid (C8.out.touch HT9.out hw4); have j3 := (T8.out.touch HT9.out hw5).c.2.2.2; obtain ⟨xs9, ho9, hx9⟩ := C9.out; have n0 := (ho9.cellAt (i8 * 4) (by omega)).trans (hx9 i8 hi8).1; have n1 := (ho9.cellAt (i8 * 4 + 1) (by omega)).trans (hx9 i8 hi8).2.1; have n2 := (ho9.cellAt (i8 * 4 + 2) (by omega)).trans (hx9 i8 hi8).2.2.1; obtain ⟨A9', c9', n3', _⟩ := (hx9 i8 hi8).2.2.2; have n3 := (ho9.cellAt (i8 * 4 + 3) (by omega)).trans n3'; have u0 := ho9.frozenAt (i8 * 4); have u1 := ho9.frozenAt (i8 * 4 + 1); have u2 := ho9.frozenAt (i8 * 4 + 2); have u3 := ho9.frozenAt (i8 * 4 + 3); clear ho9 hx9 n3') | (go_simp; go_at_call 58; have LFB := Lib.hid (show Calls Tryz.prog 58 #[.pointer (some ⟨R, 0, none⟩), .slice (some ⟨w7.heap.size, 0, none⟩) 1 1] w8 (LeafRet R (p8 + 2) w8) from leaf_names R p8 w7.heap.size 0 1 [⟨#[97]⟩] w8 HR8.out (by omega) (by decide) (by decide) (by decide) NB8.out); (with_reducible refine Calls.mono LFB.out ?_); rintro ee w9 ⟨op9, z9, s9, hs9, rfl, hd9⟩; have HT9 := Lib.hid hd9.2; clear hd9 NB8; have C9 := Lib.hid (C8.out.touch HT9.out hw4); have j3 := (T8.out.touch HT9.out hw5).c.2.2.2; obtain ⟨xs9, ho9, hx9⟩ := C9.out; have n0 := (ho9.cellAt (i8 * 4) (by omega)).trans (hx9 i8 hi8).1; have n1 := (ho9.cellAt (i8 * 4 + 1) (by omega)).trans (hx9 i8 hi8).2.1; have n2 := (ho9.cellAt (i8 * 4 + 2) (by omega)).trans (hx9 i8 hi8).2.2.1; obtain ⟨A9', c9', n3', _⟩ := (hx9 i8 hi8).2.2.2; have n3 := (ho9.cellAt (i8 * 4 + 3) (by omega)).trans n3'; have u0 := ho9.frozenAt (i8 * 4); have u1 := ho9.frozenAt (i8 * 4 + 1); have u2 := ho9.frozenAt (i8 * 4 + 2); have u3 := ho9.frozenAt (i8 * 4 + 3); clear ho9 hx9 n3'))
          all_goals
            clear j3 n0 n1 n2 n3 u0 u1 u2 u3 x0 x1 x2 x3 t0 t1 t2 t3 m0 m1 m2 m3
            have K10 := Lib.hid (((((((KX7.out g hg).touchX HD8.out hz1).touchX HT9.out hz1).setX (i8 * 4) (.int .i64 op9)).setX (i8 * 4 + 1) (.int .i64 z9)).setX (i8 * 4 + 2) (.string s9)).setX (i8 * 4 + 3) (.slice none 0 0))
            have C10 := Lib.hid (C9.out.turn hi8 op9 z9 s9)
            have h2g : w2.heap.size ≠ g := by omega
            have h5g : w5.heap.size ≠ g := by omega
            have h0g : w.heap.size ≠ g := by omega
            have h1g : w.heap.size + 1 ≠ g := by omega
            have X9 := (X7.out.touch HD8.out hR2).touch HT9.out hR2
            have X10 := Lib.hid ((((X9.offg h2g (i8 * 4) (.int .i64 op9)).offg h2g (i8 * 4 + 1) (.int .i64 z9)).offg h2g (i8 * 4 + 2) (.string s9)).offg h2g (i8 * 4 + 3) (.slice none 0 0))
            have T9 := (T7.out.touch HD8.out hw5).touch HT9.out hw5
            have T10 := Lib.hid ((((T9.offg h5g (i8 * 4) (.int .i64 op9)).offg h5g (i8 * 4 + 1) (.int .i64 z9)).offg h5g (i8 * 4 + 2) (.string s9)).offg h5g (i8 * 4 + 3) (.slice none 0 0))
            have R9 := (R7.out.below HD8.out.below hl0').below HT9.out.below hl0'
            have R10 := Lib.hid ((((R9.offg h0g (i8 * 4) (.int .i64 op9)).offg h0g (i8 * 4 + 1) (.int .i64 z9)).offg h0g (i8 * 4 + 2) (.string s9)).offg h0g (i8 * 4 + 3) (.slice none 0 0))
            have Q9 := (Q7.out.below HD8.out.below hl0).below HT9.out.below hl0
            have Q10 := Lib.hid ((((Q9.offg h1g (i8 * 4) (.int .i64 op9)).offg h1g (i8 * 4 + 1) (.int .i64 z9)).offg h1g (i8 * 4 + 2) (.string s9)).offg h1g (i8 * 4 + 3) (.slice none 0 0))
            have hgw : w.heap.size ≤ g := by omega
            have HB10 := Lib.hid ((((((HB7.out.trans (HD8.out.below.mono (Nat.le_of_lt hl0'))).trans (HT9.out.below.mono (Nat.le_of_lt hl0'))).setCell (p := ⟨g, i8 * 4, none⟩) hgw (.int .i64 op9)).setCell (p := ⟨g, i8 * 4 + 1, none⟩) hgw (.int .i64 z9)).setCell (p := ⟨g, i8 * 4 + 2, none⟩) hgw (.string s9)).setCell (p := ⟨g, i8 * 4 + 3, none⟩) hgw (.slice none 0 0))
            go_wp2_with fail
            go_meet
            exact ⟨i8, op9, z9, s9, hi8, (by first | exact hs9 | omega), K10.out, C10.out, X10.out, T10.out, R10.out, Q10.out, HB10.out⟩
        case rest =>
          obtain ⟨i8, op9, z9, s9, hi8, hs9, hk10, hc10, hx10, ht10, hr10, hq10, hb10⟩ := hcut
          have K10 := Lib.hid hk10
          have C10 := Lib.hid hc10
          have X10 := Lib.hid hx10
          have T10 := Lib.hid ht10
          have R10 := Lib.hid hr10
          have Q10 := Lib.hid hq10
          have HB10 := Lib.hid hb10
          clear hk10 hc10 hx10 ht10 hr10 hq10 hb10 KX7 X7 T7 R7 Q7 HB7 C7 K7 K4 HB4 HRd HR7 LFA HOW5 x0 x1 x2 x3 t0 t1 t2 t3
          obtain ⟨x0, x1, x2, x3⟩ := X10.out.c
          obtain ⟨t0, t1, t2, t3⟩ := T10.out.c
          obtain ⟨a0, a1, a2, a3⟩ := R10.out.c
          obtain ⟨b0, b1, b2, b3⟩ := Q10.out.c
          have f0 := R10.out.f 0
          have f1 := R10.out.f 1
          have f2 := R10.out.f 2
          have f3 := R10.out.f 3
          have g0 := Q10.out.f 0
          have g1 := Q10.out.f 1
          have g2 := Q10.out.f 2
          have g3 := Q10.out.f 3
          go_wp2_with fail
          (first | go_region_law fail | fail)
          all_goals
            go_wp2_with fail
            refine bodyPost_ret (v := .tuple #[.agg #[.int .i64 e1.op, .int .i64 e1.n, .string e1.name, .slice A1 e1.kids.length cc1], .agg #[.int .i64 e1.op, .int .i64 e1.n, .string e1.name, .slice (some ⟨g, 0, none⟩) e1.kids.length cc5]]) (by simp [results, Tryz.results24, go_sem, a0, a1, a2, a3, b0, b1, b2, b3]) rfl ⟨e1, .mk e1.op e1.n e1.name (e1.kids.set i8 (.mk op9 z9 s9 [])), A1, some ⟨g, 0, none⟩, cc1, cc5, by unfold exV; dsimp only [E.op, E.n, E.name, E.kids]; rw [List.length_set], ?_, ?_, by omega, by have h1 := bulkE_kids e1; have h2 := bulkL_set e1.kids i8 (.mk op9 z9 s9 []); have h3 : bulkE (.mk op9 z9 s9 []) = s9.size + 0 := rfl; show e1.name.size + bulkL _ ≤ 3000; omega, ?_⟩
            · have q0 : w.heap.size < w1.heap.size := by omega
              have q1 : w.heap.size + 1 < w1.heap.size := by omega
              refine PdS.wide (PdS.fromX (X := g) ?_) (Nat.le_of_lt q0) (Nat.le_refl _)
              repeat (first | (with_reducible refine PdS.offX ?_ (by first | exact q0 | exact q1) _ _) | (with_reducible refine PdS.drewX ?_))
              exact K10.out
            · have q0 : w.heap.size < w4.heap.size := by omega
              have q1 : w.heap.size + 1 < w4.heap.size := by omega
              refine PdS.wide (DrK.pd (n := e1.kids.length) (c := cc5) ?_) (Nat.le_of_lt q0) (Nat.le_refl _)
              repeat (first | (with_reducible refine DrK.set ?_ (by first | exact q0 | exact q1) _ _) | (with_reducible refine DrK.drewn ?_))
              exact C10.out
            · repeat (first | (with_reducible refine Below.setCell ?_ (by first | exact Nat.le_refl _ | exact Nat.le_succ _) _) | (with_reducible refine Below.drew ?_))
              exact HB10.out
      · have hkn' : ¬ (0 : Int) < e1.kids.length := by omega
        obtain ⟨x0, x1, x2, x3⟩ := X7.out.c
        obtain ⟨t0, t1, t2, t3⟩ := T7.out.c
        obtain ⟨a0, a1, a2, a3⟩ := R7.out.c
        obtain ⟨b0, b1, b2, b3⟩ := Q7.out.c
        have f0 := R7.out.f 0
        have f1 := R7.out.f 1
        have f2 := R7.out.f 2
        have f3 := R7.out.f 3
        have g0 := Q7.out.f 0
        have g1 := Q7.out.f 1
        have g2 := Q7.out.f 2
        have g3 := Q7.out.f 3
        clear K4 HB4
        go_wp2_with fail
        (first | go_region_law fail | fail)
        all_goals
          go_wp2_with fail
          refine bodyPost_ret (v := .tuple #[.agg #[.int .i64 e1.op, .int .i64 e1.n, .string e1.name, .slice A1 e1.kids.length cc1], .agg #[.int .i64 e1.op, .int .i64 e1.n, .string e1.name, .slice A5 e1.kids.length cc5]]) (by simp [results, Tryz.results24, go_sem, a0, a1, a2, a3, b0, b1, b2, b3]) rfl ⟨e1, e1, A1, A5, cc1, cc5, rfl, ?_, ?_, by omega, by omega, ?_⟩
          · have q0 : w.heap.size < w1.heap.size := by omega
            have q1 : w.heap.size + 1 < w1.heap.size := by omega
            refine PdS.wide (DrK.pd (n := e1.kids.length) (c := cc1) ?_) (Nat.le_of_lt q0) (Nat.le_refl _)
            repeat (first | (with_reducible refine DrK.set ?_ (by first | exact q0 | exact q1) _ _) | (with_reducible refine DrK.drewn ?_))
            exact K7.out
          · have q0 : w.heap.size < w4.heap.size := by omega
            have q1 : w.heap.size + 1 < w4.heap.size := by omega
            refine PdS.wide (DrK.pd (n := e1.kids.length) (c := cc5) ?_) (Nat.le_of_lt q0) (Nat.le_refl _)
            repeat (first | (with_reducible refine DrK.set ?_ (by first | exact q0 | exact q1) _ _) | (with_reducible refine DrK.drewn ?_))
            exact C7.out
          · repeat (first | (with_reducible refine Below.setCell ?_ (by first | exact Nat.le_refl _ | exact Nat.le_succ _) _) | (with_reducible refine Below.drew ?_))
            exact HB7.out
    · have qr2 : ((r2 : Int) == 0) = false := beq_no (by omega)
      obtain ⟨x0, x1, x2, x3⟩ := X7.out.c
      obtain ⟨t0, t1, t2, t3⟩ := T7.out.c
      obtain ⟨a0, a1, a2, a3⟩ := R7.out.c
      obtain ⟨b0, b1, b2, b3⟩ := Q7.out.c
      have f0 := R7.out.f 0
      have f1 := R7.out.f 1
      have f2 := R7.out.f 2
      have f3 := R7.out.f 3
      have g0 := Q7.out.f 0
      have g1 := Q7.out.f 1
      have g2 := Q7.out.f 2
      have g3 := Q7.out.f 3
      clear K4 HB4
      go_wp2_with fail
      (first | go_region_law fail | fail)
      all_goals
        go_wp2_with fail
        refine bodyPost_ret (v := .tuple #[.agg #[.int .i64 e1.op, .int .i64 e1.n, .string e1.name, .slice A1 e1.kids.length cc1], .agg #[.int .i64 e1.op, .int .i64 e1.n, .string e1.name, .slice A5 e1.kids.length cc5]]) (by simp [results, Tryz.results24, go_sem, a0, a1, a2, a3, b0, b1, b2, b3]) rfl ⟨e1, e1, A1, A5, cc1, cc5, rfl, ?_, ?_, by omega, by omega, ?_⟩
        · have q0 : w.heap.size < w1.heap.size := by omega
          have q1 : w.heap.size + 1 < w1.heap.size := by omega
          refine PdS.wide (DrK.pd (n := e1.kids.length) (c := cc1) ?_) (Nat.le_of_lt q0) (Nat.le_refl _)
          repeat (first | (with_reducible refine DrK.set ?_ (by first | exact q0 | exact q1) _ _) | (with_reducible refine DrK.drewn ?_))
          exact K7.out
        · have q0 : w.heap.size < w4.heap.size := by omega
          have q1 : w.heap.size + 1 < w4.heap.size := by omega
          refine PdS.wide (DrK.pd (n := e1.kids.length) (c := cc5) ?_) (Nat.le_of_lt q0) (Nat.le_refl _)
          repeat (first | (with_reducible refine DrK.set ?_ (by first | exact q0 | exact q1) _ _) | (with_reducible refine DrK.drewn ?_))
          exact C7.out
        · repeat (first | (with_reducible refine Below.setCell ?_ (by first | exact Nat.le_refl _ | exact Nat.le_succ _) _) | (with_reducible refine Below.drew ?_))
          exact HB7.out
end Go.Proofs.YtljdbjfbcjigaaaGreatDoor

namespace Go.Proofs.YtljdbjfbcjigaaaGreatDoor
open Go.RowKit
set_option maxRecDepth 100000

theorem plainF_text {e : E} (h : validE e = true) : plainF (textE e) = (textE e, true) := by
  unfold plainF
  rw [text_cut h]
  dsimp only
  rw [if_pos rfl]
  exact text_join h
theorem textF_yes {e : E} (h : validE e = true) : textF e = (textE e, true) := by unfold textF; rw [if_pos h]
theorem textF_no {e : E} (h : validE e = false) : textF e = (⟨#[]⟩, false) := by unfold textF; rw [h]; rfl
end Go.Proofs.YtljdbjfbcjigaaaGreatDoor
