/-
  The program's reader of expressions: lists of Kids, and calls.
-/
import Derived.Test.YtljdbjfbcjigaaaGreatDoorMs13
import Derived.Test.YtljdbjfbcjigaaaGreatDoorMs15
namespace Go.Proofs.YtljdbjfbcjigaaaGreatDoor
open Go.RowKit
set_option maxRecDepth 100000

theorem took5_none {ws : List W} (h : ∀ j : Int, 3 ≤ j → j < 13 → hitO 5 ws j = false) : aheadAt ws = none := by
  have h11 : isT ws (sgnS 11) = false := by have := h 11 (by omega) (by omega); unfold hitO at this; rw [show lvl 11 = 5 from rfl] at this; simpa using this
  have h12 : isT ws (sgnS 12) = false := by have := h 12 (by omega) (by omega); unfold hitO at this; rw [show lvl 12 = 5 from rfl] at this; simpa using this
  rw [aheadAt_eq, h11, h12, if_neg (by simp), if_neg (by simp)]
theorem took5_some {ws : List W} {op : Int} (h3 : 3 ≤ op) (h12 : op ≤ 12) (h : hitO 5 ws op = true) (hno : ∀ j : Int, 3 ≤ j → j < op → hitO 5 ws j = false) : aheadAt ws = some op := by
  unfold hitO at h
  rw [Bool.and_eq_true, decide_eq_true_eq] at h
  have hop : op = 11 ∨ op = 12 := by
    by_cases e : op = 11 ∨ op = 12
    · exact e
    · exfalso
      have h1 := h.1
      unfold lvl at h1
      (repeat' split at h1) <;> omega
  rcases hop with rfl | rfl
  · rw [aheadAt_eq, h.2, if_pos rfl]
  · have h11 : isT ws (sgnS 11) = false := by have := hno 11 (by omega) (by omega); unfold hitO at this; rw [show lvl 11 = 5 from rfl] at this; simpa using this
    rw [aheadAt_eq, h11, h.2, if_neg (by simp), if_pos rfl]
set_option maxHeartbeats 8000000 in
theorem readAhead_of (R cap k m : Nat) (A : Option Addr) (ws : List W) (w : World) (hn : ws.length ≤ 600) (h : XR w R A cap ws k) (G : Rts R w)
    (HT : ∀ (k' : Nat) (W : World), k < k' → XR W R A cap ws k' → Rts R W → Calls Tryz.prog 113 #[.pointer (some ⟨R + 1, 0, none⟩)] W (PRet R cap A ws (rdT nmB m (ws.drop k')) W))
    (HW : ∀ (W : World), XR W R A cap ws k → Rts R W → Calls Tryz.prog 115 #[.pointer (some ⟨R + 1, 0, none⟩)] W (PRet R cap A ws (rdW nmB m (ws.drop k)) W)) :
    Calls Tryz.prog 114 #[.pointer (some ⟨R, 0, none⟩)] w (PRet R cap A ws (rdT nmB (m + 1) (ws.drop k)) w) := by
  have hb0 := (Below.refl w.heap.size w).alloc (Nat.le_refl _) (.cells #[.int .i64 0, .int .i64 0, .string ⟨#[]⟩, .slice none 0 0] 28)
  have R0 := Lib.hid (Res.new w (.int .i64 0) (.int .i64 0) (.string ⟨#[]⟩) (.slice none 0 0) 28)
  have hz0 : (w.alloc (.cells #[.int .i64 0, .int .i64 0, .string ⟨#[]⟩, .slice none 0 0] 28)).heap.size = w.heap.size + 1 := World.size_alloc _ _
  have X0 := h.below hb0
  have HM0 := Lib.hid (Mv.of_below (R := R) hb0 h.cu.lt)
  have hlt := h.cu.lt
  have hrs := h.sz
  have TO := takeOp_any R cap k 5 A ws _ X0.cu hn (G.mv (Mv.of_below (R := R) hb0 h.cu.lt)).sgn
  rw [show ((5 : Nat) : Int) = 5 from rfl] at TO
  replace TO := Lib.hid TO
  have HX0 := Lib.hid X0
  have HG := Lib.hid (show ∀ W, Mv R w W → Rts R W from fun W hm => G.mv hm)
  have HTT := Lib.hid HT
  have HWW := Lib.hid HW
  clear h X0 hb0 HT HW G
  go_enter Tryz.func114, Tryz.ntmps114
  go_wp2_with fail
  (with_reducible refine Calls.mono TO.out ?_)
  rintro ee w4 hto
  clear TO
  rcases hto with ⟨op, ho3, ho12, rfl, hhit, hno, hm4, hc4⟩ | ⟨rfl, hno, hm4, hc4⟩
  · have HRD := Lib.hid (T_un (m := m) (took5_some ho3 ho12 hhit hno))
    have XR4 := HX0.out.mv hm4 hc4
    have HM4 := Lib.hid (HM0.out.trans hm4)
    have R4 := Lib.hid (R0.out.mv hm4 hlt)
    have C5 := Lib.hid (HTT.out (k + 1) w4 (Nat.lt_succ_self _) XR4 (HG.out w4 HM4.out))
    have d7 := XR4.cl 5 (by omega) (by omega)
    unfold climbV at d7
    rw [if_pos rfl] at d7
    have hs4 := hm4.1.below.size
    clear hhit hno hm4 hc4 R0 HM0 HX0 HTT HWW HG XR4
    generalize rdT nmB (m + 1) (ws.drop k) = res at *
    generalize rdT nmB m (ws.drop (k + 1)) = r1 at *
    go_wp2_with fail
    (with_reducible refine Calls.mono C5.out ?_)
    rintro ee w5 ⟨hm5, ⟨k5, hc5, hd5⟩, x, A5, c5, rfl, hp5, hx⟩
    unfold exV
    have hs5 := hm5.1.below.size
    have HM5 := Lib.hid (HM4.out.trans hm5)
    have R5 := R4.out.mv hm5 hlt
    have hal := (Below.refl w5.heap.size w5).alloc (Nat.le_refl _) (.cells #[.int .i64 x.op, .int .i64 x.n, .string x.name, .slice A5 x.kids.length c5] 28)
    have b0 := alloc_cell w5 #[.int .i64 x.op, .int .i64 x.n, .string x.name, .slice A5 x.kids.length c5] 28 (0, 0) 0
    have b1 := alloc_cell w5 #[.int .i64 x.op, .int .i64 x.n, .string x.name, .slice A5 x.kids.length c5] 28 (0, 0) 1
    have b2 := alloc_cell w5 #[.int .i64 x.op, .int .i64 x.n, .string x.name, .slice A5 x.kids.length c5] 28 (0, 0) 2
    have b3 := alloc_cell w5 #[.int .i64 x.op, .int .i64 x.n, .string x.name, .slice A5 x.kids.length c5] 28 (0, 0) 3
    replace b0 : (w5.alloc (.cells #[.int .i64 x.op, .int .i64 x.n, .string x.name, .slice A5 x.kids.length c5] 28)).cell? ⟨w5.heap.size, 0, none⟩ = some (.int .i64 x.op) := b0
    replace b1 : (w5.alloc (.cells #[.int .i64 x.op, .int .i64 x.n, .string x.name, .slice A5 x.kids.length c5] 28)).cell? ⟨w5.heap.size, 1, none⟩ = some (.int .i64 x.n) := b1
    replace b2 : (w5.alloc (.cells #[.int .i64 x.op, .int .i64 x.n, .string x.name, .slice A5 x.kids.length c5] 28)).cell? ⟨w5.heap.size, 2, none⟩ = some (.string x.name) := b2
    replace b3 : (w5.alloc (.cells #[.int .i64 x.op, .int .i64 x.n, .string x.name, .slice A5 x.kids.length c5] 28)).cell? ⟨w5.heap.size, 3, none⟩ = some (.slice A5 x.kids.length c5) := b3
    have hlt5 : R < w5.heap.size := by omega
    have R6 := Lib.hid (R5.below hal R5.lt)
    have HM6 := Lib.hid (HM5.out.trans (Mv.of_below hal hlt5))
    have HC6 := Lib.hid (hc5.below hal)
    have HP6 := Lib.hid (PdD.later hp5 hal (Nat.le_refl _) hal.size)
    have hs6 := hal.size
    have HX := Lib.hid hx
    have HD := Lib.hid hd5
    clear R4 HM4 C5 hm5 hc5 hd5 hp5 hx R5 hal HM5 d7
    cases r1 with
    | none =>
      have hres := Lib.hid (show res = none from HRD.out)
      clear HRD HX HD HP6
      obtain ⟨c0, c1, c2', c3⟩ := R6.out.c
      have f0 := R6.out.f 0
      have f1 := R6.out.f 1
      have f2 := R6.out.f 2
      have f3 := R6.out.f 3
      go_upto_region 5 with (fail)
      generalize w5.alloc (.cells #[.int .i64 x.op, .int .i64 x.n, .string x.name, .slice A5 x.kids.length c5] 28) = w6 at *
      go_wp2_with fail
      refine bodyPost_ret (v := .tuple #[.agg #[.int .i64 0, .int .i64 0, .string ⟨#[]⟩, .slice none 0 0], .bool false]) (by simp [results, Tryz.results114, go_sem, c0, c1, c2', c3]) rfl ?_
      rw [hres.out]
      exact pret_store (res := none) (e := E.none) (A' := none) (c := 0) (lo := w.heap.size + 1) hlt HM6.out HC6.out (fun p hp => by cases hp) (.inl rfl) (Nat.lt_succ_self _) (fun p hp => by cases hp)
    | some p =>
      obtain ⟨x', r⟩ := p
      obtain rfl : x = x' := HX.out _ rfl
      have hd := HD.out _ rfl
      dsimp only at hd
      have hres := Lib.hid (show res = some (unE op x, ws.drop k5) by rw [hd]; exact HRD.out)
      clear HRD HX HD hd
      go_upto_region 5 with (fail)
      generalize w5.alloc (.cells #[.int .i64 x.op, .int .i64 x.n, .string x.name, .slice A5 x.kids.length c5] 28) = w6 at *
      have hal7 := (Below.refl w6.heap.size w6).alloc (Nat.le_refl _) (.cells #[.int .i64 x.op, .int .i64 x.n, .string x.name, .slice A5 x.kids.length c5] 28)
      have R7 := R6.out.below hal7 R6.out.lt
      have X8 := Lib.hid (res_four R6.out (.int .i64 op) (.int .i64 0) (.string ⟨#[]⟩) (.slice (some ⟨w6.heap.size, 0, none⟩) 1 1))
      have M8 := Lib.hid (HM6.out.four (b := w.heap.size) (Nat.le_refl _) hlt (.int .i64 op) (.int .i64 0) (.string ⟨#[]⟩) (.slice (some ⟨w6.heap.size, 0, none⟩) 1 1))
      have C8 := Lib.hid (HC6.out.four (b := w.heap.size) hlt (.int .i64 op) (.int .i64 0) (.string ⟨#[]⟩) (.slice (some ⟨w6.heap.size, 0, none⟩) 1 1))
      have P8 := Lib.hid (PdD.four' HP6.out (show w.heap.size < w4.heap.size by omega) (.int .i64 op) (.int .i64 0) (.string ⟨#[]⟩) (.slice (some ⟨w6.heap.size, 0, none⟩) 1 1))
      have HZ8 := Lib.hid (show ((((w6.setCell ⟨w.heap.size, 0, none⟩ (.int .i64 op)).setCell ⟨w.heap.size, 1, none⟩ (.int .i64 0)).setCell ⟨w.heap.size, 2, none⟩ (.string ⟨#[]⟩)).setCell ⟨w.heap.size, 3, none⟩ (.slice (some ⟨w6.heap.size, 0, none⟩) 1 1)).heap.size = w6.heap.size by simp)
      obtain ⟨c0, c1, c2', c3⟩ := R7.c
      have f0 := R7.f 0
      have f1 := R7.f 1
      have f2 := R7.f 2
      have f3 := R7.f 3
      have k0 := R6.out.c.1
      have k1 := R6.out.c.2.1
      have k2 := R6.out.c.2.2.1
      have k3 := R6.out.c.2.2.2
      have l0 := R6.out.f 0
      have l1 := R6.out.f 1
      have l2 := R6.out.f 2
      have l3 := R6.out.f 3
      have hwl := R6.out.lt
      clear R7 hal7 HP6 HM6 HC6
      go_wp2_with fail
      clear c0 c1 c2' c3 f0 f1 f2 f3 k0 k1 k2 k3 l0 l1 l2 l3
      generalize ((((w6.setCell ⟨w.heap.size, 0, none⟩ (.int .i64 op)).setCell ⟨w.heap.size, 1, none⟩ (.int .i64 0)).setCell ⟨w.heap.size, 2, none⟩ (.string ⟨#[]⟩)).setCell ⟨w.heap.size, 3, none⟩ (.slice (some ⟨w6.heap.size, 0, none⟩) 1 1)) = w8 at *
      have hal8 := (Below.refl w8.heap.size w8).alloc (Nat.le_refl _) (.cells #[.int .i64 x.op, .int .i64 x.n, .string x.name, .slice A5 x.kids.length c5] 28)
      have R8 := X8.out.below hal8 X8.out.lt
      obtain ⟨c0, c1, c2', c3⟩ := R8.c
      have P9 := pdd_lit (w := w8) (S := Between w8 w4.heap.size w6.heap.size) (S' := Between (w8.alloc (.cells #[.int .i64 x.op, .int .i64 x.n, .string x.name, .slice A5 x.kids.length c5] 28)) w.heap.size (w8.alloc (.cells #[.int .i64 x.op, .int .i64 x.n, .string x.name, .slice A5 x.kids.length c5] 28)).heap.size) (fun _ => 0) [⟨x, A5, c5⟩]
        ⟨by have := HZ8.out; omega, by rw [World.size_alloc]; omega, ⟨_, _, heap_alloc_new _ _⟩⟩ (fun j hj => by (obtain rfl : j = 0 := (by simpa using hj)); exact P8.out.keep (fun _ _ _ => rfl) (fun b h => ⟨h, rfl⟩)) (fun b hb => by have := hb.2.1; have := HZ8.out; omega) (fun b hb => ⟨by have := hb.1; omega, by rw [World.size_alloc]; have := hb.2.1; have := HZ8.out; omega, hb.2.2.below hal8 (by have := hb.2.1; have := HZ8.out; omega)⟩)
      rw [HZ8.out] at P9
      have HP9 := Lib.hid P9
      have hr8 : R < w8.heap.size := by have := HZ8.out; omega
      have HF := Lib.hid (show PRet R cap A ws res w (.returned (.tuple #[.agg #[.int .i64 op, .int .i64 0, .string ⟨#[]⟩, .slice (some ⟨w6.heap.size, 0, none⟩) 1 1], .bool true])) (w8.alloc (.cells #[.int .i64 x.op, .int .i64 x.n, .string x.name, .slice A5 x.kids.length c5] 28)) from by
        rw [hres.out]
        exact ⟨M8.out.trans (Mv.of_below hal8 hr8), ⟨k5, C8.out.below hal8, fun p hp => by injection hp with hp; rw [← hp]⟩, unE op x, some ⟨w6.heap.size, 0, none⟩, 1, rfl, HP9.out, fun p hp => by injection hp with hp; rw [← hp]⟩)
      clear P9 hal8 R8
      refine bodyPost_ret (v := .tuple #[.agg #[.int .i64 op, .int .i64 0, .string ⟨#[]⟩, .slice (some ⟨w6.heap.size, 0, none⟩) 1 1], .bool true]) (by simp [results, Tryz.results114, go_sem, c0, c1, c2', c3]) rfl ?_
      exact HF.out
  · have HRD := Lib.hid (rdT_ahead (nm := nmB) (m := m) (took5_none hno))
    have XR4 := HX0.out.mv hm4 hc4
    have HM4 := Lib.hid (HM0.out.trans hm4)
    have R4 := Lib.hid (R0.out.mv hm4 hlt)
    have C5 := Lib.hid (HWW.out w4 XR4 (HG.out w4 HM4.out))
    have d7 := XR4.cl 6 (by omega) (by omega)
    unfold climbV at d7
    rw [if_neg (by omega), if_pos rfl] at d7
    have hs4 := hm4.1.below.size
    clear hno hm4 hc4 R0 HM0 HX0 HTT HWW HG XR4
    generalize rdT nmB (m + 1) (ws.drop k) = res at *
    generalize rdW nmB m (ws.drop k) = r1 at *
    obtain rfl := HRD.out
    go_wp2_with fail
    (with_reducible refine Calls.mono C5.out ?_)
    rintro ee w5 ⟨hm5, ⟨k5, hc5, hd5⟩, x, A5, c5, rfl, hp5, hx⟩
    unfold exV
    have R5 := R4.out.mv hm5 hlt
    have HP5 := Lib.hid (PdD.wide (lo' := w.heap.size + 1) hp5 (by omega) (Nat.le_refl _))
    have HF := Lib.hid (pret_store (c := c5) hlt (HM4.out.trans hm5) hc5 hd5 HP5.out (Nat.lt_succ_self _) hx)
    obtain ⟨c0, c1, c2', c3⟩ := R5.c
    have f0 := R5.f 0
    have f1 := R5.f 1
    have f2 := R5.f 2
    have f3 := R5.f 3
    clear R4 HM4 C5 hm5 hc5 hd5 hp5 hx HP5 R5 d7 HRD
    generalize res.isSome = bb at *
    go_wp2_with fail
    refine bodyPost_ret (v := .tuple #[.agg #[.int .i64 x.op, .int .i64 x.n, .string x.name, .slice A5 x.kids.length c5], .bool bb]) (by simp [results, Tryz.results114, go_sem, c0, c1, c2', c3]) rfl ?_
    exact HF.out
end Go.Proofs.YtljdbjfbcjigaaaGreatDoor

namespace Go.Proofs.YtljdbjfbcjigaaaGreatDoor
open Go.RowKit
set_option maxRecDepth 100000

/-- Where a list of Kids stands. -/
def KRel (w0 : World) (ws : List W) (m : Nat) (res : Option (List E × List W)) (k : Nat) (v : Value) (acc : List E) (wr : World) : Prop :=
  k ≤ ws.length ∧ DrK wr w0.heap.size v acc ∧ Below w0.heap.size w0 wr ∧ acc.length ≤ k ∧ ∃ m', m' ≤ m ∧ 10 * (ws.length - k) + 11 ≤ m' ∧ rdK nmB m' acc (ws.drop k) = res
end Go.Proofs.YtljdbjfbcjigaaaGreatDoor

namespace Go.Proofs.YtljdbjfbcjigaaaGreatDoor
open Go.RowKit
set_option maxRecDepth 100000

theorem Cu.under {w w' : World} {R cap k B : Nat} {A : Option Addr} {ws : List W} (h : Cu w R A cap ws k) (hb : Below B w w') (hR : R < B) : Cu w' R A cap ws k :=
  ⟨h.wd.below (hb.mono (Nat.le_of_lt hR)), Nat.lt_of_lt_of_le h.lt hb.size, (hb.cell (p := ⟨R, 0, none⟩) hR).trans h.c0, (hb.cell (p := ⟨R, 1, none⟩) hR).trans h.c1, (hb.frozen (p := ⟨R, 1, none⟩) hR).trans h.f1, h.le⟩
theorem XR.under {w w' : World} {R cap k B : Nat} {A : Option Addr} {ws : List W} (h : XR w R A cap ws k) (hb : Below B w w') (hR : R + 5 < B) : XR w' R A cap ws k :=
  h.same (h.cu.under hb (by omega)) hb.size (fun i hi => hb.block i (by omega))
/-- What reading a list leaves. -/
def QRet (R cap : Nat) (A : Option Addr) (ws : List W) (res : Option (List E × List W)) (w : World) (ee : Ending) (w' : World) : Prop :=
  Mv R w w' ∧ (∃ k', Cu w' R A cap ws k' ∧ ∀ p, res = some p → ws.drop k' = p.2) ∧
    ∃ (ks : List E) (A' : Option Addr) (c : Nat), ee = .returned (.tuple #[.slice A' ks.length c, .bool res.isSome]) ∧ PdD w' (Between w' w.heap.size w'.heap.size) ks A' ∧ ∀ p, res = some p → ks = p.1
/-- Where a list of Kids stands, in the program. -/
def QRel (w0 : World) (R cap : Nat) (A : Option Addr) (ws : List W) (m : Nat) (res : Option (List E × List W)) (gk : Nat) (v : Value) (wr : World) : Prop :=
  ∃ (k : Nat) (acc : List E), XR wr R A cap ws k ∧ DrD wr w0.heap.size wr.heap.size v acc ∧ Mv R w0 wr ∧ acc.length ≤ k ∧ ws.length + 1 - k ≤ gk ∧ ∃ m', m' ≤ m ∧ 10 * (ws.length - k) + 11 ≤ m' ∧ rdK nmB m' acc (ws.drop k) = res
set_option maxHeartbeats 8000000 in
theorem readListed_of (R cap k m : Nat) (A : Option Addr) (ws : List W) (w : World) (hn : ws.length ≤ 600) (h : XR w R A cap ws k) (hm : 10 * (ws.length - k) + 12 ≤ m + 1) (G : Rts R w)
    (HX : ∀ (m' k' : Nat) (W : World), m' ≤ m → 10 * (ws.length - k') + 10 ≤ m' + 1 → XR W R A cap ws k' → Rts R W → Calls Tryz.prog 71 #[.pointer (some ⟨R, 0, none⟩)] W (PRet R cap A ws (rdL nmB m' 1 (ws.drop k')) W)) :
    Calls Tryz.prog 208 #[.pointer (some ⟨R, 0, none⟩), .func (.func 71) #[.pointer (some ⟨R, 0, none⟩)] #[]] w (QRet R cap A ws (rdC nmB (m + 1) (ws.drop k)) w) := by
  obtain ⟨i0, hi, hz0, hz1, hz2⟩ := info_parts exprInfo
  have TT := fun s k' W (hc : Cu W R A cap ws k') => Lib.hid (takeText_any R cap k' A ws s W hc hn)
  have TR := (TT rpS k w h.cu).out
  unfold rpS at TR
  replace TR := Lib.hid TR
  have hlt := h.cu.lt
  have hrs := h.sz
  have hle := h.cu.le
  have HXR := Lib.hid h
  have HXX := Lib.hid HX
  have HG := Lib.hid (show ∀ W, Mv R w W → Rts R W from fun W hm => G.mv hm)
  have HRC := Lib.hid (rdC_eq nmB m (ws.drop k))
  clear h HX G
  generalize rdC nmB (m + 1) (ws.drop k) = res at *
  go_enter Tryz.func208, Tryz.ntmps208
  go_wp2_with fail
  (with_reducible refine Calls.mono TR.out ?_)
  rintro ee w1 ⟨rfl, hm1, hc1⟩
  have HX1 := Lib.hid (HXR.out.mv hm1 hc1)
  have HM1 := Lib.hid hm1
  have e1 : isT (ws.drop k) ⟨#[41]⟩ = isT (ws.drop k) rpS := rfl
  rw [e1] at hc1 ⊢
  have HC1 := Lib.hid hc1
  clear TR hm1 hc1 HXR e1
  cases hb : isT (ws.drop k) rpS
  · have hbb := Lib.hid hb
    have HX2 := Lib.hid (show XR w1 R A cap ws k from by have h := HX1.out; have e := hbb.out; unfold rpS at e; rw [e] at h; exact h)
    have HKR := Lib.hid (show rdK nmB m [] (ws.drop k) = res by rw [HRC.out, hbb.out, if_neg (by simp)])
    have HS := Lib.hid (show QRel w R cap A ws m res (ws.length + 1) (.slice none 0 0) w1 from ⟨k, [], HX2.out, DrD.nil _ _ _, HM1.out, Nat.zero_le _, by omega, m, Nat.le_refl _, by omega, HKR.out⟩)
    clear hb HRC hbb HX1 HX2 HKR HM1 HC1
    go_wp2_with fail
    go_loopg [6] (ws.length + 1) (fun gk v wr => QRel w R cap A ws m res gk v wr)
    case atStart => exact HS.out
    case round =>
      clear HS
      obtain ⟨kk, acc, hX, hD, hM, hacc, hgk, m', hm', ham, hK⟩ := hrel
      obtain ⟨qm, rfl⟩ : ∃ qm, m' = qm + 1 := ⟨m' - 1, by omega⟩
      rw [rdK_eq] at hK
      obtain ⟨Av, cv, rfl⟩ := hD.slice
      have HOWN := Lib.hid hD.owned
      have hkk := hX.cu.le
      have L1 := Lib.hid (HXX.out qm kk wr (by omega) (by omega) hX (HG.out wr hM))
      have HLS := Lib.hid (fun e r => (rd_less nmB qm).L 1 (ws.drop kk) e r (by omega))
      have HK := Lib.hid hK
      have HD := Lib.hid hD
      have HXr := Lib.hid hX
      have HMr := Lib.hid hM
      have hsw := hM.1.below.size
      clear hK hD hX hM
      generalize rdL nmB qm 1 (ws.drop kk) = r1 at *
      go_wp2_with fail
      (with_reducible refine Calls.mono L1.out ?_)
      rintro ee w2 ⟨hm2, ⟨k2, hc2, hd2⟩, x, A2, cc, rfl, hp2, hx⟩
      unfold exV
      have hal := (Below.refl w2.heap.size w2).alloc (Nat.le_refl _) (.cells #[.int .i64 x.op, .int .i64 x.n, .string x.name, .slice A2 x.kids.length cc] 28)
      have b0 := alloc_cell w2 #[.int .i64 x.op, .int .i64 x.n, .string x.name, .slice A2 x.kids.length cc] 28 (0, 0) 0
      have b1 := alloc_cell w2 #[.int .i64 x.op, .int .i64 x.n, .string x.name, .slice A2 x.kids.length cc] 28 (0, 0) 1
      have b2 := alloc_cell w2 #[.int .i64 x.op, .int .i64 x.n, .string x.name, .slice A2 x.kids.length cc] 28 (0, 0) 2
      have b3 := alloc_cell w2 #[.int .i64 x.op, .int .i64 x.n, .string x.name, .slice A2 x.kids.length cc] 28 (0, 0) 3
      replace b0 : (w2.alloc (.cells #[.int .i64 x.op, .int .i64 x.n, .string x.name, .slice A2 x.kids.length cc] 28)).cell? ⟨w2.heap.size, 0, none⟩ = some (.int .i64 x.op) := b0
      replace b1 : (w2.alloc (.cells #[.int .i64 x.op, .int .i64 x.n, .string x.name, .slice A2 x.kids.length cc] 28)).cell? ⟨w2.heap.size, 1, none⟩ = some (.int .i64 x.n) := b1
      replace b2 : (w2.alloc (.cells #[.int .i64 x.op, .int .i64 x.n, .string x.name, .slice A2 x.kids.length cc] 28)).cell? ⟨w2.heap.size, 2, none⟩ = some (.string x.name) := b2
      replace b3 : (w2.alloc (.cells #[.int .i64 x.op, .int .i64 x.n, .string x.name, .slice A2 x.kids.length cc] 28)).cell? ⟨w2.heap.size, 3, none⟩ = some (.slice A2 x.kids.length cc) := b3
      have hs2 := hm2.1.below.size
      have hlt2 : R < w2.heap.size := by omega
      have HM3 := Lib.hid ((HMr.out.trans hm2).trans (Mv.of_below hal hlt2))
      have HX3 := Lib.hid ((HXr.out.mv hm2 hc2).below hal)
      have HP3 := Lib.hid (PdD.later hp2 hal (Nat.le_refl _) hal.size)
      have HD3 := Lib.hid ((HD.out.touch hm2.1 hlt (Nat.le_refl _)).below hal (Nat.le_refl _) hm2.1.below.size)
      have hs3 := hal.size
      have HXE := Lib.hid hx
      have HD2 := Lib.hid hd2
      have hk2le := hc2.le
      clear L1 hm2 hc2 hd2 hp2 hx hal HD HXr HMr
      go_upto_region 5 with (fail)
      generalize w2.alloc (.cells #[.int .i64 x.op, .int .i64 x.n, .string x.name, .slice A2 x.kids.length cc] 28) = w3 at *
      rcases hr1 : r1 with _ | ⟨x', r⟩
      · have hres := Lib.hid (show res = none by rw [← HK.out, hr1]; rfl)
        have e0 : (none : Option (E × List W)).isSome = false := rfl
        subst hr1
        rw [e0]
        clear e0 HK HLS HXE HD2 HP3 HD3
        go_wp2_with fail
        go_ret2
        rw [hres.out]
        exact ⟨HM3.out, ⟨k2, HX3.out.cu, fun p hp => by cases hp⟩, [], none, 0, rfl, .inl rfl, fun p hp => by cases hp⟩
      · obtain ⟨a1, a2, _, _⟩ := HLS.out _ _ hr1
        obtain ⟨k3, q1, q2, q3, q4⟩ := suf_place a1 a2
        obtain rfl : x = x' := HXE.out _ hr1
        have hd := HD2.out _ hr1
        dsimp only at hd
        have hk3 : k2 = k3 := by
          have h1 : (ws.drop k2).length = (ws.drop k3).length := by rw [hd, q3]
          rw [List.length_drop, List.length_drop] at h1
          omega
        subst hk3
        subst hr1
        have e0 : (some (x, r) : Option (E × List W)).isSome = true := rfl
        rw [e0]
        have HK2 := Lib.hid (show res = if isT (ws.drop k2) rpS = true then some (acc ++ [x], ws.drop (k2 + 1)) else if isT (ws.drop k2) cmS = true then rdK nmB qm (acc ++ [x]) (ws.drop (k2 + 1)) else none by
          rw [← HK.out, ← tail_drop, ← q3]; rfl)
        clear e0 HK HLS HXE HD2 a1 a2 q3 q4 hd
        -- the row of one, and the append
        have hal4 := (Below.refl w3.heap.size w3).alloc (Nat.le_refl _) (.cells #[.int .i64 x.op, .int .i64 x.n, .string x.name, .slice A2 x.kids.length cc] 28)
        obtain ⟨xs, ff, ho, hxx⟩ := HD3.out.below hal4 (Nat.le_refl _) (by omega)
        have HOW := Lib.hid ho
        have HXX2 := Lib.hid hxx
        have HNW := Lib.hid (new_four w3 (.int .i64 x.op) (.int .i64 x.n) (.string x.name) (.slice A2 x.kids.length cc) 28)
        have HTO := Lib.hid (kid_cells x A2 cc)
        have hbz : w.heap.size ≤ (w3.alloc (.cells #[.int .i64 x.op, .int .i64 x.n, .string x.name, .slice A2 x.kids.length cc] 28)).heap.size := by have := hal4.size; omega
        have hwz : wr.heap.size ≤ (w3.alloc (.cells #[.int .i64 x.op, .int .i64 x.n, .string x.name, .slice A2 x.kids.length cc] 28)).heap.size := by have := hal4.size; omega
        have HLB := Lib.hid (show (acc.length + 1 ≤ maxLen ∧ (acc.length + 1) * 56 ≤ 140737488355328) from ⟨by unfold maxLen; omega, by omega⟩)
        have HK4 := Lib.hid ((show PdD (w3.alloc (.cells #[.int .i64 x.op, .int .i64 x.n, .string x.name, .slice A2 x.kids.length cc] 28)) (fun b => Between (w3.alloc (.cells #[.int .i64 x.op, .int .i64 x.n, .string x.name, .slice A2 x.kids.length cc] 28)) wr.heap.size (w3.alloc (.cells #[.int .i64 x.op, .int .i64 x.n, .string x.name, .slice A2 x.kids.length cc] 28)).heap.size b ∧ (Value.slice Av acc.length cv).ownBlock ≠ some b) x.kids A2 from
          (PdD.later HP3.out hal4 (Nat.le_refl _) hal4.size).keep (fun _ _ _ => rfl) (fun b hb => ⟨⟨hb.1, hb.2⟩, fun e => by have := HOWN.out b e; have := hb.1; omega⟩)))
        have HM4 := Lib.hid (HM3.out.trans (Mv.of_below hal4 (by omega)))
        have HX4 := Lib.hid (HX3.out.below hal4)
        clear ho hxx hal4 HD3 HP3 HM3 HX3
        go_upto_region 8 with (at_builtin; refine wpList_append_lies _ rfl _ _ 26 rfl w.heap.size 28 i0 (.agg #[.int .i64 0, .int .i64 0, .string ⟨#[]⟩, .slice none 0 0]) 4 56 Tryz.underlying26 hi hz0 hz1 hz2 rfl (by decide) _ acc.length xs rfl HOW.out ⟨w3.heap.size, 0, none⟩ 1 1 (Kd.mk x A2 cc).cells rfl rfl HNW.out HTO.out (by decide) HLB.out.1 HLB.out.2 hbz _ rfl ?_; intro g8 cap8 w8 hown8 hgrow8 hat8 hlt8)
        have hbg := (Below.refl w.heap.size (w3.alloc (.cells #[.int .i64 x.op, .int .i64 x.n, .string x.name, .slice A2 x.kids.length cc] 28))).grown hgrow8 hbz (fun k e => by have := HOWN.out k e; omega)
        have HD8 := Lib.hid ((DrD.snoc (x := wr.heap.size) (w := (w3.alloc (.cells #[.int .i64 x.op, .int .i64 x.n, .string x.name, .slice A2 x.kids.length cc] 28))) ⟨x, A2, cc⟩ HXX2.out HOW.out.1 rfl (by omega) (by omega) hown8 hgrow8 hat8 HK4.out).up hbg.size)
        have HM8 := Lib.hid (show Mv R w w8 from ⟨⟨HM4.out.1.below.trans (hbg.mono (Nat.le_of_lt hlt)), fun b h1 h2 => (hbg.block b h2).trans (HM4.out.1.above b h1 h2)⟩, fun o ho => (hbg.cell (p := ⟨R, o, none⟩) hlt).trans (HM4.out.2 o ho)⟩)
        have HX8 := Lib.hid (HX4.out.under hbg hrs)
        clear hown8 hgrow8 hat8 hlt8 HK4 HM4 HX4 HOW HXX2 HNW HTO HLB hbz hwz b0 b1 b2 b3 hbg
        have hlen : (acc ++ [x]).length = acc.length + 1 := by simp
        have HLEN := Lib.hid hlen
        clear hlen
        have TR := (TT rpS k2 w8 HX8.out.cu).out
        unfold rpS at TR
        replace TR := Lib.hid TR
        go_wp2_with fail
        (with_reducible refine Calls.mono TR.out ?_)
        rintro ee w9 ⟨rfl, hm9, hc9⟩
        have e1 : isT (ws.drop k2) ⟨#[41]⟩ = isT (ws.drop k2) rpS := rfl
        rw [e1] at hc9 ⊢
        have HM9 := Lib.hid (HM8.out.trans hm9)
        have HX9 := Lib.hid (HX8.out.mv hm9 hc9)
        have HD9 := Lib.hid (HD8.out.touch' hm9.1 hlt)
        clear TR hm9 hc9 e1 HM8 HX8 HD8
        cases hb2 : isT (ws.drop k2) rpS
        · rw [hb2] at HX9 HK2
          have TC := (TT cmS k2 w9 HX9.out.cu).out
          unfold cmS at TC
          replace TC := Lib.hid TC
          clear hb2
          go_wp2_with fail
          (with_reducible refine Calls.mono TC.out ?_)
          rintro ee wA ⟨rfl, hmA, hcA⟩
          have e1 : isT (ws.drop k2) ⟨#[44]⟩ = isT (ws.drop k2) cmS := rfl
          rw [e1] at hcA ⊢
          have HMA := Lib.hid (HM9.out.trans hmA)
          have HXA := Lib.hid (HX9.out.mv hmA hcA)
          have HDA := Lib.hid (HD9.out.touch' hmA.1 hlt)
          clear TC hmA hcA e1 HM9 HX9 HD9
          cases hb3 : isT (ws.drop k2) cmS
          · rw [hb3] at HXA HK2
            have hres := Lib.hid (show res = none from HK2.out)
            clear hb3 HK2
            go_wp2_with fail
            go_ret2
            rw [hres.out]
            exact ⟨HMA.out, ⟨k2, HXA.out.cu, fun p hp => by cases hp⟩, [], none, 0, rfl, .inl rfl, fun p hp => by cases hp⟩
          · rw [hb3] at HXA HK2
            have hres := Lib.hid (show rdK nmB qm (acc ++ [x]) (ws.drop (k2 + 1)) = res from HK2.out.symm)
            have HXB := Lib.hid (show XR wA R A cap ws (k2 + 1) from HXA.out)
            clear hb3 HK2 HXA
            have hk4 := HXB.out.cu.le
            go_wp2_with fail
            go_roundg (gk - 1)
            case measure => omega
            case rel => exact ⟨k2 + 1, acc ++ [x], HXB.out, HDA.out, HMA.out, by have := HLEN.out; omega, by omega, qm, by omega, by omega, hres.out⟩
        · rw [hb2] at HX9 HK2
          have hres := Lib.hid (show res = some (acc ++ [x], ws.drop (k2 + 1)) from HK2.out)
          clear hb2 HK2
          go_wp2_with fail
          go_ret2
          rw [hres.out]
          exact ⟨HM9.out, ⟨k2 + 1, HX9.out.cu, fun p hp => by injection hp with hp; rw [← hp]⟩, acc ++ [x], _, _, by rw [HLEN.out]; rfl, HD9.out.pd (Nat.le_refl _), fun p hp => by injection hp with hp; rw [← hp]⟩
  · have hres := Lib.hid (show res = some ([], ws.drop (k + 1)) by rw [HRC.out, hb, if_pos rfl, tail_drop])
    rw [hb] at HC1
    clear hb HRC HX1 HXX HG TT
    go_wp2_with fail
    go_ret2
    rw [hres.out]
    exact ⟨HM1.out, ⟨k + 1, HC1.out, fun p hp => by injection hp with hp; rw [← hp]⟩, [], none, 0, rfl, .inl rfl, fun p hp => by injection hp with hp; rw [← hp]⟩
end Go.Proofs.YtljdbjfbcjigaaaGreatDoor
