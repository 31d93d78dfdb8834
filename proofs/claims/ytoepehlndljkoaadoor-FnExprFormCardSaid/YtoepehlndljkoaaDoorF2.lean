/-
  Which expressions are valid: the program's tests.
-/
import Derived.Test.YtoepehlndljkoaaDoorF1
import Derived.Test.YtoepehlndljkoaaDoorW1
import Derived.Deep.RegionHeld3
import Derived.Deep.DeepCutAuto
import Derived.Deep.CutBlock
namespace Go.Proofs.YtoepehlndljkoaaDoor
open Go.RowKit
set_option maxRecDepth 100000

theorem below_drewN {B : Nat} {a w : World} (h : Below B a w) (q : Nat) : Below B a (w.drewN q) := ⟨h.os, h.tape, h.output, h.size, h.block⟩
set_option maxHeartbeats 1000000 in
theorem fitsWithin_zero (e : E) (A : Option Addr) (cap : Nat) (w : World) :
    Calls Tryd.prog 23 #[exV e A cap, .int .i64 0] w (BoolB (formE 0 e) w) := by
  unfold exV
  have hb := (Below.refl w.heap.size w).alloc (Nat.le_refl _) (.cells #[.int .i64 e.op, .int .i64 e.n, .string e.name, .slice A e.kids.length cap] 30)
  go_enter Tryd.func23, Tryd.ntmps23
  go_wp2
  go_quiet (fail)
  go_wp2
  go_ret
  exact ⟨rfl, below_drewN hb _⟩
/-- What the first test of fitsWithin leaves. -/
def FitsLeft (b : Bool) (v : Value) (w wx : World) (op n : Int) (s : ByteArray) (sl : Value) : Prop :=
  v = .bool b ∧ Below w.heap.size w wx ∧ w.heap.size < wx.heap.size ∧ wx.cell? ⟨w.heap.size, 0, none⟩ = some (.int .i64 op) ∧ wx.cell? ⟨w.heap.size, 1, none⟩ = some (.int .i64 n) ∧ wx.cell? ⟨w.heap.size, 2, none⟩ = some (.string s) ∧ wx.cell? ⟨w.heap.size, 3, none⟩ = some sl
set_option maxHeartbeats 1000000 in
theorem fitsWithin_succ (d : Nat) (hd : d < 100) (e : E) (A : Option Addr) (cap : Nat) (w : World) (hR : RdS w w.heap.size e.kids A) (T : Tabs w) (G : Sgn w) (hl : sizeE e ≤ 2000000)
    (ih : ∀ (e : E) (A : Option Addr) (cap : Nat) (w : World), RdS w w.heap.size e.kids A → Tabs w → Sgn w → sizeE e ≤ 2000000 → Calls Tryd.prog 23 #[exV e A cap, .int .i64 d] w (BoolB (formE d e) w)) :
    Calls Tryd.prog 23 #[exV e A cap, .int .i64 ((d : Int) + 1)] w (BoolB (formE (d + 1) e) w) := by
  have IH := Lib.hid ih
  clear ih
  have HR := Lib.hid hR
  clear hR
  have q1 : (((d : Int) + 1) == 0) = false := by rw [beq_eq_false_iff_ne]; omega
  unfold exV at IH ⊢
  obtain ⟨op, n, s, ks⟩ := e
  have hl0 : 1 + sizeL ks ≤ 2000000 := hl
  have hll := length_le_sizeL ks
  replace hl : ks.length ≤ 2000000 := by omega
  dsimp only [E.op, E.n, E.name, E.kids] at *
  have hb := (Below.refl w.heap.size w).alloc (Nat.le_refl _) (.cells #[.int .i64 op, .int .i64 n, .string s, .slice A ks.length cap] 30)
  have KO0 := fun W h => kindOf_any op W h
  have TT := fun W h => T.below (w' := W) h
  have TG := fun W h => G.below (w' := W) h
  have TK := Lib.hid (And.intro TT TG)
  clear T G TT TG
  have c0 : (w.alloc (.cells #[.int .i64 op, .int .i64 n, .string s, .slice A ks.length cap] 30)).cell? ⟨w.heap.size, 0, none⟩ = some (.int .i64 op) := alloc_cell w _ _ _ 0
  have c1 : (w.alloc (.cells #[.int .i64 op, .int .i64 n, .string s, .slice A ks.length cap] 30)).cell? ⟨w.heap.size, 1, none⟩ = some (.int .i64 n) := alloc_cell w _ _ _ 1
  have c2 : (w.alloc (.cells #[.int .i64 op, .int .i64 n, .string s, .slice A ks.length cap] 30)).cell? ⟨w.heap.size, 2, none⟩ = some (.string s) := alloc_cell w _ _ _ 2
  have c3 : (w.alloc (.cells #[.int .i64 op, .int .i64 n, .string s, .slice A ks.length cap] 30)).cell? ⟨w.heap.size, 3, none⟩ = some (.slice A ks.length cap) := alloc_cell w _ _ _ 3
  have hlt : w.heap.size < (w.alloc (.cells #[.int .i64 op, .int .i64 n, .string s, .slice A ks.length cap] 30)).heap.size := by rw [World.size_alloc]; omega
  go_enter Tryd.func23, Tryd.ntmps23
  go_wp2
  have C0 := Lib.hid c0
  have C1 := Lib.hid c1
  have C2 := Lib.hid c2
  have C3 := Lib.hid c3
  have HB := Lib.hid hb
  have HLT := Lib.hid hlt
  generalize w.alloc (.cells #[.int .i64 op, .int .i64 n, .string s, .slice A ks.length cap] 30) = wa at *
  go_upto_region 1 with (fail)
  go_cut [16] (fun v wx => FitsLeft (!fitB op n s ks.length) v w wx op n s (.slice A ks.length cap))
  case first =>
    have hkind : op = 1 ∨ op = 2 ∨ op = 13 ∨ (op = 11 ∨ op = 12) ∨ (3 ≤ op ∧ op ≤ 10) ∨ ¬ (1 ≤ op ∧ op ≤ 13) := by omega
    have TB0 := fun W (h : Below wa.heap.size wa W) => TK.out.1 W (hb.trans (h.mono (Nat.le_of_lt hlt)))
    have TB := Lib.hid TB0
    clear IH HR C0 C1 C2 C3 HB HLT TB0
    rcases hkind with rfl | rfl | rfl | ho | ho | ho
    · skip
      have e1 : kindV 1 = .iface 61 (.agg #[]) := rfl
      rw [e1] at KO0
      have KO := fun W h => Lib.hid (KO0 W h)
      clear e1 KO0
      go_region_held3 (fun u => u.cell? ⟨w.heap.size, 0, none⟩ = some (.int .i64 1) ∧ u.cell? ⟨w.heap.size, 1, none⟩ = some (.int .i64 n) ∧ u.cell? ⟨w.heap.size, 2, none⟩ = some (.string s) ∧ u.cell? ⟨w.heap.size, 3, none⟩ = some (.slice A ks.length cap)) (go_keep)
        (first
          | (go_at_call 33; (with_reducible refine Calls.mono (KO _ (TK.out.2 _ hb.drew)).out ?_); rintro ee w1 ⟨rfl, hb1⟩; have l1 : w.heap.size < w1.heap.size := Nat.lt_of_lt_of_le hlt hb1.size; have tb := Lib.hid (TB.out _ ((Below.refl _ wa).drew.trans hb1)); have g0 := (hb1.cell (p := ⟨w.heap.size, 0, none⟩) hlt).trans c0; have g1 := (hb1.cell (p := ⟨w.heap.size, 1, none⟩) hlt).trans c1; have g2 := (hb1.cell (p := ⟨w.heap.size, 2, none⟩) hlt).trans c2; have g3 := (hb1.cell (p := ⟨w.heap.size, 3, none⟩) hlt).trans c3)
          | (go_at_call 111; (with_reducible refine Calls.mono (fits_number n s 1 A ks.length cap _ (by omega)) ?_); rintro ee w2 ⟨rfl, hb2⟩; have k0 := (hb2.cell (p := ⟨w.heap.size, 0, none⟩) l1).trans g0; have k1 := (hb2.cell (p := ⟨w.heap.size, 1, none⟩) l1).trans g1; have k2 := (hb2.cell (p := ⟨w.heap.size, 2, none⟩) l1).trans g2; have k3 := (hb2.cell (p := ⟨w.heap.size, 3, none⟩) l1).trans g3))
      all_goals
        have hb3 := (hb.drew.trans (hb1.mono (Nat.le_of_lt hlt))).trans (hb2.mono (Nat.le_trans (Nat.le_of_lt hlt) hb1.size))
        have hlt3 := Nat.lt_of_lt_of_le l1 hb2.size
        go_wp2
        go_meet
        exact ⟨rfl, hb3, hlt3, k0, k1, k2, k3⟩
    · skip
      have e1 : kindV 2 = .iface 63 (.agg #[]) := rfl
      rw [e1] at KO0
      have KO := fun W h => Lib.hid (KO0 W h)
      clear e1 KO0
      go_region_held3 (fun u => u.cell? ⟨w.heap.size, 0, none⟩ = some (.int .i64 2) ∧ u.cell? ⟨w.heap.size, 1, none⟩ = some (.int .i64 n) ∧ u.cell? ⟨w.heap.size, 2, none⟩ = some (.string s) ∧ u.cell? ⟨w.heap.size, 3, none⟩ = some (.slice A ks.length cap)) (go_keep)
        (first
          | (go_at_call 33; (with_reducible refine Calls.mono (KO _ (TK.out.2 _ hb.drew)).out ?_); rintro ee w1 ⟨rfl, hb1⟩; have l1 : w.heap.size < w1.heap.size := Nat.lt_of_lt_of_le hlt hb1.size; have tb := Lib.hid (TB.out _ ((Below.refl _ wa).drew.trans hb1)); have g0 := (hb1.cell (p := ⟨w.heap.size, 0, none⟩) hlt).trans c0; have g1 := (hb1.cell (p := ⟨w.heap.size, 1, none⟩) hlt).trans c1; have g2 := (hb1.cell (p := ⟨w.heap.size, 2, none⟩) hlt).trans c2; have g3 := (hb1.cell (p := ⟨w.heap.size, 3, none⟩) hlt).trans c3)
          | (go_at_call 113; (with_reducible refine Calls.mono (fits_variable n s 2 A ks.length cap _ tb.out) ?_); rintro ee w2 ⟨rfl, hb2⟩; have k0 := (hb2.cell (p := ⟨w.heap.size, 0, none⟩) l1).trans g0; have k1 := (hb2.cell (p := ⟨w.heap.size, 1, none⟩) l1).trans g1; have k2 := (hb2.cell (p := ⟨w.heap.size, 2, none⟩) l1).trans g2; have k3 := (hb2.cell (p := ⟨w.heap.size, 3, none⟩) l1).trans g3))
      all_goals
        have hb3 := (hb.drew.trans (hb1.mono (Nat.le_of_lt hlt))).trans (hb2.mono (Nat.le_trans (Nat.le_of_lt hlt) hb1.size))
        have hlt3 := Nat.lt_of_lt_of_le l1 hb2.size
        go_wp2
        go_meet
        exact ⟨rfl, hb3, hlt3, k0, k1, k2, k3⟩
    · skip
      have e1 : kindV 13 = .iface 70 (.agg #[]) := rfl
      rw [e1] at KO0
      have KO := fun W h => Lib.hid (KO0 W h)
      clear e1 KO0
      go_region_held3 (fun u => u.cell? ⟨w.heap.size, 0, none⟩ = some (.int .i64 13) ∧ u.cell? ⟨w.heap.size, 1, none⟩ = some (.int .i64 n) ∧ u.cell? ⟨w.heap.size, 2, none⟩ = some (.string s) ∧ u.cell? ⟨w.heap.size, 3, none⟩ = some (.slice A ks.length cap)) (go_keep)
        (first
          | (go_at_call 33; (with_reducible refine Calls.mono (KO _ (TK.out.2 _ hb.drew)).out ?_); rintro ee w1 ⟨rfl, hb1⟩; have l1 : w.heap.size < w1.heap.size := Nat.lt_of_lt_of_le hlt hb1.size; have tb := Lib.hid (TB.out _ ((Below.refl _ wa).drew.trans hb1)); have g0 := (hb1.cell (p := ⟨w.heap.size, 0, none⟩) hlt).trans c0; have g1 := (hb1.cell (p := ⟨w.heap.size, 1, none⟩) hlt).trans c1; have g2 := (hb1.cell (p := ⟨w.heap.size, 2, none⟩) hlt).trans c2; have g3 := (hb1.cell (p := ⟨w.heap.size, 3, none⟩) hlt).trans c3)
          | (go_at_call 118; (with_reducible refine Calls.mono (fits_call n s 13 A ks.length cap _ (by omega) tb.out) ?_); rintro ee w2 ⟨rfl, hb2⟩; have k0 := (hb2.cell (p := ⟨w.heap.size, 0, none⟩) l1).trans g0; have k1 := (hb2.cell (p := ⟨w.heap.size, 1, none⟩) l1).trans g1; have k2 := (hb2.cell (p := ⟨w.heap.size, 2, none⟩) l1).trans g2; have k3 := (hb2.cell (p := ⟨w.heap.size, 3, none⟩) l1).trans g3))
      all_goals
        have hb3 := (hb.drew.trans (hb1.mono (Nat.le_of_lt hlt))).trans (hb2.mono (Nat.le_trans (Nat.le_of_lt hlt) hb1.size))
        have hlt3 := Nat.lt_of_lt_of_le l1 hb2.size
        go_wp2
        go_meet
        exact ⟨rfl, hb3, hlt3, k0, k1, k2, k3⟩
    · have HO := Lib.hid ho; clear ho
      have e1 : kindV op = .iface 69 (.agg #[.int .i64 op, .string (sgnS op), .int .i64 (lvl op : Int)]) := kindV_un HO.out
      rw [e1] at KO0
      have KO := fun W h => Lib.hid (KO0 W h)
      clear e1 KO0
      go_region_held3 (fun u => u.cell? ⟨w.heap.size, 0, none⟩ = some (.int .i64 op) ∧ u.cell? ⟨w.heap.size, 1, none⟩ = some (.int .i64 n) ∧ u.cell? ⟨w.heap.size, 2, none⟩ = some (.string s) ∧ u.cell? ⟨w.heap.size, 3, none⟩ = some (.slice A ks.length cap)) (go_keep)
        (first
          | (go_at_call 33; (with_reducible refine Calls.mono (KO _ (TK.out.2 _ hb.drew)).out ?_); rintro ee w1 ⟨rfl, hb1⟩; have l1 : w.heap.size < w1.heap.size := Nat.lt_of_lt_of_le hlt hb1.size; have tb := Lib.hid (TB.out _ ((Below.refl _ wa).drew.trans hb1)); have g0 := (hb1.cell (p := ⟨w.heap.size, 0, none⟩) hlt).trans c0; have g1 := (hb1.cell (p := ⟨w.heap.size, 1, none⟩) hlt).trans c1; have g2 := (hb1.cell (p := ⟨w.heap.size, 2, none⟩) hlt).trans c2; have g3 := (hb1.cell (p := ⟨w.heap.size, 3, none⟩) hlt).trans c3)
          | (go_at_call 116; (with_reducible refine Calls.mono (fits_ahead op _ _ n s op A ks.length cap _ (by omega) HO.out) ?_); rintro ee w2 ⟨rfl, hb2⟩; have k0 := (hb2.cell (p := ⟨w.heap.size, 0, none⟩) l1).trans g0; have k1 := (hb2.cell (p := ⟨w.heap.size, 1, none⟩) l1).trans g1; have k2 := (hb2.cell (p := ⟨w.heap.size, 2, none⟩) l1).trans g2; have k3 := (hb2.cell (p := ⟨w.heap.size, 3, none⟩) l1).trans g3))
      all_goals
        have hb3 := (hb.drew.trans (hb1.mono (Nat.le_of_lt hlt))).trans (hb2.mono (Nat.le_trans (Nat.le_of_lt hlt) hb1.size))
        have hlt3 := Nat.lt_of_lt_of_le l1 hb2.size
        go_wp2
        go_meet
        exact ⟨rfl, hb3, hlt3, k0, k1, k2, k3⟩
    · have HO := Lib.hid ho; clear ho
      have e1 : kindV op = .iface 67 (.agg #[.int .i64 op, .string (sgnS op), .int .i64 (lvl op : Int)]) := kindV_bin HO.out
      rw [e1] at KO0
      have KO := fun W h => Lib.hid (KO0 W h)
      clear e1 KO0
      go_region_held3 (fun u => u.cell? ⟨w.heap.size, 0, none⟩ = some (.int .i64 op) ∧ u.cell? ⟨w.heap.size, 1, none⟩ = some (.int .i64 n) ∧ u.cell? ⟨w.heap.size, 2, none⟩ = some (.string s) ∧ u.cell? ⟨w.heap.size, 3, none⟩ = some (.slice A ks.length cap)) (go_keep)
        (first
          | (go_at_call 33; (with_reducible refine Calls.mono (KO _ (TK.out.2 _ hb.drew)).out ?_); rintro ee w1 ⟨rfl, hb1⟩; have l1 : w.heap.size < w1.heap.size := Nat.lt_of_lt_of_le hlt hb1.size; have tb := Lib.hid (TB.out _ ((Below.refl _ wa).drew.trans hb1)); have g0 := (hb1.cell (p := ⟨w.heap.size, 0, none⟩) hlt).trans c0; have g1 := (hb1.cell (p := ⟨w.heap.size, 1, none⟩) hlt).trans c1; have g2 := (hb1.cell (p := ⟨w.heap.size, 2, none⟩) hlt).trans c2; have g3 := (hb1.cell (p := ⟨w.heap.size, 3, none⟩) hlt).trans c3)
          | (go_at_call 115; (with_reducible refine Calls.mono (fits_between op _ _ n s op A ks.length cap _ (by omega) HO.out) ?_); rintro ee w2 ⟨rfl, hb2⟩; have k0 := (hb2.cell (p := ⟨w.heap.size, 0, none⟩) l1).trans g0; have k1 := (hb2.cell (p := ⟨w.heap.size, 1, none⟩) l1).trans g1; have k2 := (hb2.cell (p := ⟨w.heap.size, 2, none⟩) l1).trans g2; have k3 := (hb2.cell (p := ⟨w.heap.size, 3, none⟩) l1).trans g3))
      all_goals
        have hb3 := (hb.drew.trans (hb1.mono (Nat.le_of_lt hlt))).trans (hb2.mono (Nat.le_trans (Nat.le_of_lt hlt) hb1.size))
        have hlt3 := Nat.lt_of_lt_of_le l1 hb2.size
        go_wp2
        go_meet
        exact ⟨rfl, hb3, hlt3, k0, k1, k2, k3⟩
    · have HO := Lib.hid ho; clear ho
      have e1 : kindV op = .iface 96 (.agg #[]) := kindV_no HO.out
      rw [e1] at KO0
      have KO := fun W h => Lib.hid (KO0 W h)
      clear e1 KO0
      go_region_held3 (fun u => u.cell? ⟨w.heap.size, 0, none⟩ = some (.int .i64 op) ∧ u.cell? ⟨w.heap.size, 1, none⟩ = some (.int .i64 n) ∧ u.cell? ⟨w.heap.size, 2, none⟩ = some (.string s) ∧ u.cell? ⟨w.heap.size, 3, none⟩ = some (.slice A ks.length cap)) (go_keep)
        (first
          | (go_at_call 33; (with_reducible refine Calls.mono (KO _ (TK.out.2 _ hb.drew)).out ?_); rintro ee w1 ⟨rfl, hb1⟩; have l1 : w.heap.size < w1.heap.size := Nat.lt_of_lt_of_le hlt hb1.size; have tb := Lib.hid (TB.out _ ((Below.refl _ wa).drew.trans hb1)); have g0 := (hb1.cell (p := ⟨w.heap.size, 0, none⟩) hlt).trans c0; have g1 := (hb1.cell (p := ⟨w.heap.size, 1, none⟩) hlt).trans c1; have g2 := (hb1.cell (p := ⟨w.heap.size, 2, none⟩) hlt).trans c2; have g3 := (hb1.cell (p := ⟨w.heap.size, 3, none⟩) hlt).trans c3)
          | (go_at_call 121; (with_reducible refine Calls.mono (fits_strange n s op A ks.length cap _ HO.out) ?_); rintro ee w2 ⟨rfl, hb2⟩; have k0 := (hb2.cell (p := ⟨w.heap.size, 0, none⟩) l1).trans g0; have k1 := (hb2.cell (p := ⟨w.heap.size, 1, none⟩) l1).trans g1; have k2 := (hb2.cell (p := ⟨w.heap.size, 2, none⟩) l1).trans g2; have k3 := (hb2.cell (p := ⟨w.heap.size, 3, none⟩) l1).trans g3))
      all_goals
        have hb3 := (hb.drew.trans (hb1.mono (Nat.le_of_lt hlt))).trans (hb2.mono (Nat.le_trans (Nat.le_of_lt hlt) hb1.size))
        have hlt3 := Nat.lt_of_lt_of_le l1 hb2.size
        go_wp2
        go_meet
        exact ⟨rfl, hb3, hlt3, k0, k1, k2, k3⟩
  case rest =>
    obtain ⟨rfl, hbc, hltc, d0, d1, d2, d3⟩ := hcut
    clear c0 c1 c2 c3 hb hlt C0 C1 C2 C3 HB HLT KO0 q1
    cases hf : fitB op n s ks.length
    · have HF := Lib.hid (formE_unfit (d := d + 1) (e := E.mk op n s ks) hf)
      clear hf
      rw [Bool.not_false]
      go_wp2
      go_ret
      exact ⟨by rw [HF.out]; rfl, hbc⟩
    · have HF := Lib.hid hf
      clear hf
      rw [Bool.not_true]
      go_wp2
      have hR := HR.out.below hbc
      have HR2 := Lib.hid hR
      clear hR d0 d1 d2 d3
      obtain ⟨wx, rfl⟩ : ∃ wx : World, wx = wc := ⟨_, rfl⟩
      go_loopw [20] (fun i wr => ∃ k : Nat, k ≤ ks.length ∧ i = .int .i64 k ∧ kidsTo d ks k ∧ Below w.heap.size w wr) (fun i _ => ks.length - (intOf i).toNat)
      case atStart => exact ⟨0, Nat.zero_le _, rfl, kidsTo_zero d ks, hbc⟩
      case round =>
        obtain ⟨k, hk, rfl, hall, hb⟩ := hrel
        have HA := Lib.hid hall
        have hbs := hb.size
        clear hall
        by_cases hlt : k < ks.length
        · obtain ⟨b, o, rfl, hB, ⟨c0, c1, c2⟩, A', cap', c3, hr'⟩ := (HR.out.below hb).at_ hlt
          have hsz : sizeE ks[k] ≤ 2000000 := by have := sizeL_get hlt; omega
          have hkid : ks[k] = ks[k] := rfl
          generalize hkd : ks[k] = kid at *
          have HK := Lib.hid hkd
          clear hkd hkid
          obtain ⟨op', n', s', ks'⟩ := kid
          dsimp only [E.op, E.n, E.name, E.kids] at c0 c1 c2 c3 hr'
          have hb1 := hb.alloc hbs (.cells #[.int .i64 op', .int .i64 n', .string s', .slice A' ks'.length cap'] 30)
          have hr2 := (hr'.below ((Below.refl _ _).alloc (Nat.le_trans (Nat.le_refl _) hbs) (.cells #[.int .i64 op', .int .i64 n', .string s', .slice A' ks'.length cap'] 30))).more hb1.size
          have IHK := Lib.hid (IH.out (E.mk op' n' s' ks') A' cap' _ hr2 (TK.out.1 _ hb1) (TK.out.2 _ hb1) hsz)
          clear hr' hr2 hsz
          dsimp only [E.op, E.n, E.name, E.kids] at IHK
          cases hf : formE d (E.mk op' n' s' ks')
          · have HBAD := Lib.hid (formE_bad (d := d) (e := E.mk op n s ks) (i := k) hlt (by show formE d ks[k] = false; rw [HK.out]; exact hf))
            rw [hf] at IHK
            clear hf
            go_wp2_with ((go_at_call 23; (with_reducible refine Calls.mono IHK.out ?_); rintro ee w2 ⟨rfl, hb2⟩; have hb3 := hb1.trans (hb2.mono hb1.size)))
            go_ret
            exact ⟨by rw [HBAD.out]; rfl, hb3⟩
          · have HN := Lib.hid (kidsTo_succ HA.out hlt (by rw [HK.out]; exact hf))
            rw [hf] at IHK
            clear hf
            go_wp2_with ((go_at_call 23; (with_reducible refine Calls.mono IHK.out ?_); rintro ee w2 ⟨rfl, hb2⟩; have hb3 := hb1.trans (hb2.mono hb1.size)))
            go_roundw
            case rel => exact ⟨k + 1, by omega, by go_num, HN.out, hb3⟩
            case measure => simp only [intOf]; omega
        · obtain rfl : k = ks.length := by omega
          have HY := Lib.hid (formE_yes (d := d) (e := E.mk op n s ks) HF.out HA.out)
          go_wp2
          go_ret
          exact ⟨by rw [HY.out]; rfl, hb⟩
/-- The program's test of form and depth. -/
theorem fitsWithin_any : ∀ (d : Nat) (_ : d ≤ 100) (e : E) (A : Option Addr) (cap : Nat) (w : World), RdS w w.heap.size e.kids A → Tabs w → Sgn w → sizeE e ≤ 2000000 →
    Calls Tryd.prog 23 #[exV e A cap, .int .i64 d] w (BoolB (formE d e) w)
  | 0, _, e, A, cap, w, _, _, _, _ => fitsWithin_zero e A cap w
  | d + 1, hd, e, A, cap, w, hR, T, G, hl => by
    rw [show ((d + 1 : Nat) : Int) = (d : Int) + 1 by omega]
    exact fitsWithin_succ d (by omega) e A cap w hR T G hl (fun e A cap w h1 h2 h3 h4 => fitsWithin_any d (by omega) e A cap w h1 h2 h3 h4)
end Go.Proofs.YtoepehlndljkoaaDoor
