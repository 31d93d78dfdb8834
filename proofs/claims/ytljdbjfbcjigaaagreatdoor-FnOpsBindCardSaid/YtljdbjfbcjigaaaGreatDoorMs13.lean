/-
  The program's reader of expressions: ops between two.
-/
import Derived.Test.YtljdbjfbcjigaaaGreatDoorMg15
import Derived.Test.YtljdbjfbcjigaaaGreatDoorMg4
import Derived.Test.YtljdbjfbcjigaaaGreatDoorMs11
import Derived.Test.YtljdbjfbcjigaaaGreatDoorMs12
import Derived.Test.YtljdbjfbcjigaaaGreatDoorMs6
import Derived.Laws.EntriesVeiled
import Derived.LoopN
import Derived.Deep.RegionWith
import Derived.Deep.LoopGhost
namespace Go.Proofs.YtljdbjfbcjigaaaGreatDoor
open Go.RowKit
set_option maxRecDepth 100000

def ptrV (b : Nat) : Value := .pointer (some ⟨b, 0, none⟩)
/-- What climbs at a level: a closure over the reader, and over the level below 5. -/
def climbV (R l : Nat) : Value :=
  if l = 5 then .func (.func 113) #[] #[.pointer (some ⟨R + 1, 0, none⟩)]
  else if l = 6 then .func (.func 115) #[] #[.pointer (some ⟨R + 1, 0, none⟩)]
  else .func (.func 111) #[] #[.pointer (some ⟨R + 1, 0, none⟩), .pointer (some ⟨R + 1 + l, 0, none⟩)]
/-- The reader at block R. -/
structure XR (w : World) (R : Nat) (A : Option Addr) (cap : Nat) (ws : List W) (k : Nat) : Prop where
  cu : Cu w R A cap ws k
  sz : R + 5 < w.heap.size
  v : w.cell? ⟨R + 1, 0, none⟩ = some (.pointer (some ⟨R, 0, none⟩))
  lv : ∀ l : Nat, 1 ≤ l → l ≤ 4 → w.cell? ⟨R + 1 + l, 0, none⟩ = some (.int .i64 (l : Int))
  cl : ∀ l : Nat, 1 ≤ l → l ≤ 6 → w.cell? ⟨R, 2 + l, none⟩ = some (climbV R l)
theorem XR.below {w w' : World} {R cap k : Nat} {A : Option Addr} {ws : List W} (h : XR w R A cap ws k) (hb : Below w.heap.size w w') : XR w' R A cap ws k :=
  ⟨h.cu.below hb, Nat.lt_of_lt_of_le h.sz hb.size, (hb.cell (p := ⟨R + 1, 0, none⟩) (by have := h.sz; show R + 1 < _; omega)).trans h.v,
    fun l h1 h2 => (hb.cell (p := ⟨R + 1 + l, 0, none⟩) (by have := h.sz; show R + 1 + l < _; omega)).trans (h.lv l h1 h2),
    fun l h1 h2 => (hb.cell (p := ⟨R, 2 + l, none⟩) h.cu.lt).trans (h.cl l h1 h2)⟩
theorem XR.mv {w w' : World} {R cap k k' : Nat} {A : Option Addr} {ws : List W} (h : XR w R A cap ws k) (m : Mv R w w') (c : Cu w' R A cap ws k') : XR w' R A cap ws k' :=
  ⟨c, Nat.lt_of_lt_of_le h.sz m.1.below.size, (m.1.cell (by omega) (by have := h.sz; omega)).trans h.v,
    fun l h1 h2 => (m.1.cell (by omega) (by have := h.sz; omega)).trans (h.lv l h1 h2),
    fun l h1 h2 => (m.2 (2 + l) (by omega)).trans (h.cl l h1 h2)⟩
/-- The tables stand as they stood when the reader was made. -/
def Rts (R : Nat) (W : World) : Prop := ∃ w0 : World, w0.heap.size = R ∧ Below R w0 W ∧ Sgn w0 ∧ NTabs w0
theorem Rts.mv {R : Nat} {W W' : World} (h : Rts R W) (m : Mv R W W') : Rts R W' := by
  obtain ⟨w0, a, b, c, d⟩ := h
  exact ⟨w0, a, b.trans m.1.below, c, d⟩
theorem Rts.sgn {R : Nat} {W : World} (h : Rts R W) : Sgn W := by
  obtain ⟨w0, rfl, b, c, _⟩ := h
  exact c.below b
theorem Rts.nt {R : Nat} {W : World} (h : Rts R W) : NTabs W := by
  obtain ⟨w0, rfl, b, _, d⟩ := h
  exact d.below b
/-- What reading leaves. -/
def PRet (R cap : Nat) (A : Option Addr) (ws : List W) (res : Option (E × List W)) (w : World) (ee : Ending) (w' : World) : Prop :=
  Mv R w w' ∧ (∃ k', Cu w' R A cap ws k' ∧ ∀ p, res = some p → ws.drop k' = p.2) ∧
    ∃ (e : E) (A' : Option Addr) (c : Nat), ee = .returned (.tuple #[exV e A' c, .bool res.isSome]) ∧ PdD w' (Between w' w.heap.size w'.heap.size) e.kids A' ∧ ∀ p, res = some p → e = p.1
/-- Reading by steps of its own: behind new blocks, ahead of stores into a result. -/
theorem PdD.mv {w w' : World} {R lo hi : Nat} {ks : List E} {A : Option Addr} (h : PdD w (Between w lo hi) ks A) (m : Mv R w w') (hR : R < lo) (hh : hi ≤ w.heap.size) : PdD w' (Between w' lo hi) ks A :=
  h.keep (fun b o hb => m.1.cell (by have := hb.1; omega) (by have := hb.2.1; omega)) (fun b hb => ⟨hb.1, hb.2.1, flat_of_eq hb.2.2 (m.1.above b (by have := hb.1; omega) (by have := hb.2.1; omega))⟩)
theorem Mv.four {R : Nat} {w w' : World} (h : Mv R w w') {b : Nat} (hb : w.heap.size ≤ b) (hR : R < w.heap.size) (u0 u1 u2 u3 : Value) :
    Mv R w ((((w'.setCell ⟨b, 0, none⟩ u0).setCell ⟨b, 1, none⟩ u1).setCell ⟨b, 2, none⟩ u2).setCell ⟨b, 3, none⟩ u3) := (((h.set hb hR 0 u0).set hb hR 1 u1).set hb hR 2 u2).set hb hR 3 u3
theorem Cu.four {w : World} {R cap k : Nat} {A : Option Addr} {ws : List W} (h : Cu w R A cap ws k) {b : Nat} (hb : R < b) (u0 u1 u2 u3 : Value) :
    Cu ((((w.setCell ⟨b, 0, none⟩ u0).setCell ⟨b, 1, none⟩ u1).setCell ⟨b, 2, none⟩ u2).setCell ⟨b, 3, none⟩ u3) R A cap ws k := (((h.set hb 0 u0).set hb 1 u1).set hb 2 u2).set hb 3 u3
theorem Res.mv {w w' : World} {R b : Nat} {v0 v1 v2 v3 : Value} (h : Res w b v0 v1 v2 v3) (m : Mv R w w') (hR : R < b) : Res w' b v0 v1 v2 v3 := h.touch m.1 hR
/-- A result is handed on, by way of a block of the call's own. -/
theorem pret_store {R cap k' : Nat} {A : Option Addr} {ws : List W} {res : Option (E × List W)} {w w2 : World} {e : E} {A' : Option Addr} {c lo : Nat} (hR : R < w.heap.size) (hm : Mv R w w2) (hc : Cu w2 R A cap ws k') (hk : ∀ p, res = some p → ws.drop k' = p.2)
    (hp : PdD w2 (Between w2 lo w2.heap.size) e.kids A') (hlo : w.heap.size < lo) (he : ∀ p, res = some p → e = p.1) :
    PRet R cap A ws res w (.returned (.tuple #[exV e A' c, .bool res.isSome])) ((((w2.setCell ⟨w.heap.size, 0, none⟩ (.int .i64 e.op)).setCell ⟨w.heap.size, 1, none⟩ (.int .i64 e.n)).setCell ⟨w.heap.size, 2, none⟩ (.string e.name)).setCell ⟨w.heap.size, 3, none⟩ (.slice A' e.kids.length c)) := by
  refine ⟨hm.four (Nat.le_refl _) hR _ _ _ _, ⟨k', hc.four hR _ _ _ _, hk⟩, e, A', c, rfl, ?_, he⟩
  have h := PdD.four' hp hlo (.int .i64 e.op) (.int .i64 e.n) (.string e.name) (.slice A' e.kids.length c)
  exact h.wide (by omega) (by simp)
-- the closures

set_option maxHeartbeats 2000000 in
theorem close1 (R cap k : Nat) (A : Option Addr) (ws : List W) (w : World) (h : XR w R A cap ws k) (G : Rts R w) (res : Option (E × List W)) (l : Nat) (hl1 : 1 ≤ l) (hl4 : l ≤ 4)
    (HC : ∀ W, XR W R A cap ws k → Rts R W → Calls Tryz.prog 112 #[.pointer (some ⟨R, 0, none⟩), .int .i64 (l : Int)] W (PRet R cap A ws res W)) :
    Calls Tryz.prog 111 #[.pointer (some ⟨R + 1, 0, none⟩), .pointer (some ⟨R + 1 + l, 0, none⟩)] w (PRet R cap A ws res w) := by
  have hb0 := (Below.refl w.heap.size w).alloc (Nat.le_refl _) (.cells #[.int .i64 0, .int .i64 0, .string ⟨#[]⟩, .slice none 0 0] 28)
  have R0 := Lib.hid (Res.new w (.int .i64 0) (.int .i64 0) (.string ⟨#[]⟩) (.slice none 0 0) 28)
  have hz0 : (w.alloc (.cells #[.int .i64 0, .int .i64 0, .string ⟨#[]⟩, .slice none 0 0] 28)).heap.size = w.heap.size + 1 := World.size_alloc _ _
  have X0 := h.below hb0
  have HM0 := Lib.hid (Mv.of_below (R := R) hb0 h.cu.lt)
  have C1 := Lib.hid (HC _ X0 (G.mv HM0.out))
  have hlt := h.cu.lt
  have v0 := X0.v
  have v1 := X0.lv l hl1 hl4
  clear hb0 h HC X0 G
  go_enter Tryz.func111, Tryz.ntmps111
  go_wp2_with fail
  (with_reducible refine Calls.mono C1.out ?_)
  rintro ee w2 ⟨hm2, ⟨k2, hc2, hk2⟩, e, A2, c2, rfl, hp2, he⟩
  unfold exV
  have HP2 := Lib.hid (PdD.wide (lo' := w.heap.size + 1) hp2 (by omega) (Nat.le_refl _))
  have R2 := R0.out.mv hm2 hlt
  obtain ⟨c0, c1, c2', c3⟩ := R2.c
  have f0 := R2.f 0
  have f1 := R2.f 1
  have f2 := R2.f 2
  have f3 := R2.f 3
  have HF := Lib.hid (pret_store (c := c2) hlt (HM0.out.trans hm2) hc2 hk2 HP2.out (Nat.lt_succ_self _) he)
  clear R0 HM0 C1 hm2 hc2 hk2 hp2 he HP2 R2
  generalize res.isSome = bb at *
  go_wp2_with fail
  refine bodyPost_ret (v := .tuple #[.agg #[.int .i64 e.op, .int .i64 e.n, .string e.name, .slice A2 e.kids.length c2], .bool bb]) (by simp [results, Tryz.results111, go_sem, c0, c1, c2', c3]) rfl ?_
  exact HF.out

set_option maxHeartbeats 2000000 in
theorem close2 (R cap k : Nat) (A : Option Addr) (ws : List W) (w : World) (h : XR w R A cap ws k) (G : Rts R w) (res : Option (E × List W)) 
    (HC : ∀ W, XR W R A cap ws k → Rts R W → Calls Tryz.prog 114 #[.pointer (some ⟨R, 0, none⟩)] W (PRet R cap A ws res W)) :
    Calls Tryz.prog 113 #[.pointer (some ⟨R + 1, 0, none⟩)] w (PRet R cap A ws res w) := by
  have hb0 := (Below.refl w.heap.size w).alloc (Nat.le_refl _) (.cells #[.int .i64 0, .int .i64 0, .string ⟨#[]⟩, .slice none 0 0] 28)
  have R0 := Lib.hid (Res.new w (.int .i64 0) (.int .i64 0) (.string ⟨#[]⟩) (.slice none 0 0) 28)
  have hz0 : (w.alloc (.cells #[.int .i64 0, .int .i64 0, .string ⟨#[]⟩, .slice none 0 0] 28)).heap.size = w.heap.size + 1 := World.size_alloc _ _
  have X0 := h.below hb0
  have HM0 := Lib.hid (Mv.of_below (R := R) hb0 h.cu.lt)
  have C1 := Lib.hid (HC _ X0 (G.mv HM0.out))
  have hlt := h.cu.lt
  have v0 := X0.v
  clear hb0 h HC X0 G
  go_enter Tryz.func113, Tryz.ntmps113
  go_wp2_with fail
  (with_reducible refine Calls.mono C1.out ?_)
  rintro ee w2 ⟨hm2, ⟨k2, hc2, hk2⟩, e, A2, c2, rfl, hp2, he⟩
  unfold exV
  have HP2 := Lib.hid (PdD.wide (lo' := w.heap.size + 1) hp2 (by omega) (Nat.le_refl _))
  have R2 := R0.out.mv hm2 hlt
  obtain ⟨c0, c1, c2', c3⟩ := R2.c
  have f0 := R2.f 0
  have f1 := R2.f 1
  have f2 := R2.f 2
  have f3 := R2.f 3
  have HF := Lib.hid (pret_store (c := c2) hlt (HM0.out.trans hm2) hc2 hk2 HP2.out (Nat.lt_succ_self _) he)
  clear R0 HM0 C1 hm2 hc2 hk2 hp2 he HP2 R2
  generalize res.isSome = bb at *
  go_wp2_with fail
  refine bodyPost_ret (v := .tuple #[.agg #[.int .i64 e.op, .int .i64 e.n, .string e.name, .slice A2 e.kids.length c2], .bool bb]) (by simp [results, Tryz.results113, go_sem, c0, c1, c2', c3]) rfl ?_
  exact HF.out

set_option maxHeartbeats 2000000 in
theorem close3 (R cap k : Nat) (A : Option Addr) (ws : List W) (w : World) (h : XR w R A cap ws k) (G : Rts R w) (res : Option (E × List W)) 
    (HC : ∀ W, XR W R A cap ws k → Rts R W → Calls Tryz.prog 116 #[.pointer (some ⟨R, 0, none⟩)] W (PRet R cap A ws res W)) :
    Calls Tryz.prog 115 #[.pointer (some ⟨R + 1, 0, none⟩)] w (PRet R cap A ws res w) := by
  have hb0 := (Below.refl w.heap.size w).alloc (Nat.le_refl _) (.cells #[.int .i64 0, .int .i64 0, .string ⟨#[]⟩, .slice none 0 0] 28)
  have R0 := Lib.hid (Res.new w (.int .i64 0) (.int .i64 0) (.string ⟨#[]⟩) (.slice none 0 0) 28)
  have hz0 : (w.alloc (.cells #[.int .i64 0, .int .i64 0, .string ⟨#[]⟩, .slice none 0 0] 28)).heap.size = w.heap.size + 1 := World.size_alloc _ _
  have X0 := h.below hb0
  have HM0 := Lib.hid (Mv.of_below (R := R) hb0 h.cu.lt)
  have C1 := Lib.hid (HC _ X0 (G.mv HM0.out))
  have hlt := h.cu.lt
  have v0 := X0.v
  clear hb0 h HC X0 G
  go_enter Tryz.func115, Tryz.ntmps115
  go_wp2_with fail
  (with_reducible refine Calls.mono C1.out ?_)
  rintro ee w2 ⟨hm2, ⟨k2, hc2, hk2⟩, e, A2, c2, rfl, hp2, he⟩
  unfold exV
  have HP2 := Lib.hid (PdD.wide (lo' := w.heap.size + 1) hp2 (by omega) (Nat.le_refl _))
  have R2 := R0.out.mv hm2 hlt
  obtain ⟨c0, c1, c2', c3⟩ := R2.c
  have f0 := R2.f 0
  have f1 := R2.f 1
  have f2 := R2.f 2
  have f3 := R2.f 3
  have HF := Lib.hid (pret_store (c := c2) hlt (HM0.out.trans hm2) hc2 hk2 HP2.out (Nat.lt_succ_self _) he)
  clear R0 HM0 C1 hm2 hc2 hk2 hp2 he HP2 R2
  generalize res.isSome = bb at *
  go_wp2_with fail
  refine bodyPost_ret (v := .tuple #[.agg #[.int .i64 e.op, .int .i64 e.n, .string e.name, .slice A2 e.kids.length c2], .bool bb]) (by simp [results, Tryz.results115, go_sem, c0, c1, c2', c3]) rfl ?_
  exact HF.out

set_option maxHeartbeats 2000000 in
theorem readExpr_of (R cap k : Nat) (A : Option Addr) (ws : List W) (w : World) (h : XR w R A cap ws k) (G : Rts R w) (res : Option (E × List W)) 
    (HC : ∀ W, XR W R A cap ws k → Rts R W → Calls Tryz.prog 111 #[.pointer (some ⟨R + 1, 0, none⟩), .pointer (some ⟨R + 1 + 1, 0, none⟩)] W (PRet R cap A ws res W)) :
    Calls Tryz.prog 71 #[.pointer (some ⟨R, 0, none⟩)] w (PRet R cap A ws res w) := by
  have hb0 := (Below.refl w.heap.size w).alloc (Nat.le_refl _) (.cells #[.int .i64 0, .int .i64 0, .string ⟨#[]⟩, .slice none 0 0] 28)
  have R0 := Lib.hid (Res.new w (.int .i64 0) (.int .i64 0) (.string ⟨#[]⟩) (.slice none 0 0) 28)
  have hz0 : (w.alloc (.cells #[.int .i64 0, .int .i64 0, .string ⟨#[]⟩, .slice none 0 0] 28)).heap.size = w.heap.size + 1 := World.size_alloc _ _
  have X0 := h.below hb0
  have HM0 := Lib.hid (Mv.of_below (R := R) hb0 h.cu.lt)
  have C1 := Lib.hid (HC _ X0 (G.mv HM0.out))
  have hlt := h.cu.lt
  have v0 := X0.cl 1 (by omega) (by omega)
  unfold climbV at v0
  rw [if_neg (by omega), if_neg (by omega)] at v0
  clear hb0 h HC X0 G
  go_enter Tryz.func71, Tryz.ntmps71
  go_wp2_with fail
  (with_reducible refine Calls.mono C1.out ?_)
  rintro ee w2 ⟨hm2, ⟨k2, hc2, hk2⟩, e, A2, c2, rfl, hp2, he⟩
  unfold exV
  have HP2 := Lib.hid (PdD.wide (lo' := w.heap.size + 1) hp2 (by omega) (Nat.le_refl _))
  have R2 := R0.out.mv hm2 hlt
  obtain ⟨c0, c1, c2', c3⟩ := R2.c
  have f0 := R2.f 0
  have f1 := R2.f 1
  have f2 := R2.f 2
  have f3 := R2.f 3
  have HF := Lib.hid (pret_store (c := c2) hlt (HM0.out.trans hm2) hc2 hk2 HP2.out (Nat.lt_succ_self _) he)
  clear R0 HM0 C1 hm2 hc2 hk2 hp2 he HP2 R2
  generalize res.isSome = bb at *
  go_wp2_with fail
  refine bodyPost_ret (v := .tuple #[.agg #[.int .i64 e.op, .int .i64 e.n, .string e.name, .slice A2 e.kids.length c2], .bool bb]) (by simp [results, Tryz.results71, go_sem, c0, c1, c2', c3]) rfl ?_
  exact HF.out
end Go.Proofs.YtljdbjfbcjigaaaGreatDoor

namespace Go.Proofs.YtljdbjfbcjigaaaGreatDoor
open Go.RowKit
set_option maxRecDepth 100000

/-- The reader in memory, out of its seven blocks. -/
theorem reader_new (w : World) (A : Option Addr) (cap : Nat) (ws : List W) (hW : Words w w.heap.size A ws) (S : Sgn w) (N : NTabs w) (ta tb tc : TypeId)
    (w1 w2 w3 w4 w5 w6 w7 : World)
    (e1 : w1 = w.alloc (.cells #[.slice A ws.length cap, .int .i64 0, .nilFunc, climbV w.heap.size 1, climbV w.heap.size 2, climbV w.heap.size 3, climbV w.heap.size 4, climbV w.heap.size 5, climbV w.heap.size 6] ta))
    (e2 : w2 = w1.alloc (.cells #[.pointer (some ⟨w.heap.size, 0, none⟩)] tb))
    (e3 : w3 = w2.alloc (.cells #[.int .i64 1] tc)) (e4 : w4 = w3.alloc (.cells #[.int .i64 2] tc)) (e5 : w5 = w4.alloc (.cells #[.int .i64 3] tc))
    (e6 : w6 = w5.alloc (.cells #[.int .i64 4] tc)) (e7 : w7 = w6.alloc (.cells #[.int .i64 5] tc)) :
    XR w7 w.heap.size A cap ws 0 ∧ Rts w.heap.size w7 ∧ Below w.heap.size w w7 := by
  have s1 : w1.heap.size = w.heap.size + 1 := by rw [e1]; exact World.size_alloc _ _
  have s2 : w2.heap.size = w.heap.size + 2 := by rw [e2, World.size_alloc, s1]
  have s3 : w3.heap.size = w.heap.size + 3 := by rw [e3, World.size_alloc, s2]
  have s4 : w4.heap.size = w.heap.size + 4 := by rw [e4, World.size_alloc, s3]
  have s5 : w5.heap.size = w.heap.size + 5 := by rw [e5, World.size_alloc, s4]
  have s6 : w6.heap.size = w.heap.size + 6 := by rw [e6, World.size_alloc, s5]
  have s7 : w7.heap.size = w.heap.size + 7 := by rw [e7, World.size_alloc, s6]
  have d0 : Below w.heap.size w w1 := by rw [e1]; exact (Below.refl _ _).alloc (Nat.le_refl _) _
  have d1 : Below w1.heap.size w1 w2 := by rw [e2]; exact (Below.refl _ _).alloc (Nat.le_refl _) _
  have d2 : Below w2.heap.size w2 w3 := by rw [e3]; exact (Below.refl _ _).alloc (Nat.le_refl _) _
  have d3 : Below w3.heap.size w3 w4 := by rw [e4]; exact (Below.refl _ _).alloc (Nat.le_refl _) _
  have d4 : Below w4.heap.size w4 w5 := by rw [e5]; exact (Below.refl _ _).alloc (Nat.le_refl _) _
  have d5 : Below w5.heap.size w5 w6 := by rw [e6]; exact (Below.refl _ _).alloc (Nat.le_refl _) _
  have d6 : Below w6.heap.size w6 w7 := by rw [e7]; exact (Below.refl _ _).alloc (Nat.le_refl _) _
  have b6 : Below w6.heap.size w6 w7 := d6
  have b5 : Below w5.heap.size w5 w7 := d5.trans (b6.mono (by omega))
  have b4 : Below w4.heap.size w4 w7 := d4.trans (b5.mono (by omega))
  have b3 : Below w3.heap.size w3 w7 := d3.trans (b4.mono (by omega))
  have b2 : Below w2.heap.size w2 w7 := d2.trans (b3.mono (by omega))
  have b1 : Below w1.heap.size w1 w7 := d1.trans (b2.mono (by omega))
  have b0 : Below w.heap.size w w7 := d0.trans (b1.mono (by omega))
  have r1 : ∀ k : Nat, w7.cell? ⟨w.heap.size, k, none⟩ = (#[.slice A ws.length cap, .int .i64 0, .nilFunc, climbV w.heap.size 1, climbV w.heap.size 2, climbV w.heap.size 3, climbV w.heap.size 4, climbV w.heap.size 5, climbV w.heap.size 6] : Array Value)[k]? := fun k => by
    rw [b1.cell (p := ⟨w.heap.size, k, none⟩) (by show w.heap.size < _; omega), e1]; exact alloc_cell _ _ _ _ _
  have r2 : w7.cell? ⟨w.heap.size + 1, 0, none⟩ = some (.pointer (some ⟨w.heap.size, 0, none⟩)) := by
    rw [b2.cell (p := ⟨w.heap.size + 1, 0, none⟩) (by show w.heap.size + 1 < _; omega), e2, ← s1]; exact alloc_cell _ _ _ _ 0
  have r3 : w7.cell? ⟨w.heap.size + 2, 0, none⟩ = some (.int .i64 1) := by
    rw [b3.cell (p := ⟨w.heap.size + 2, 0, none⟩) (by show w.heap.size + 2 < _; omega), e3, ← s2]; exact alloc_cell _ _ _ _ 0
  have r4 : w7.cell? ⟨w.heap.size + 3, 0, none⟩ = some (.int .i64 2) := by
    rw [b4.cell (p := ⟨w.heap.size + 3, 0, none⟩) (by show w.heap.size + 3 < _; omega), e4, ← s3]; exact alloc_cell _ _ _ _ 0
  have r5 : w7.cell? ⟨w.heap.size + 4, 0, none⟩ = some (.int .i64 3) := by
    rw [b5.cell (p := ⟨w.heap.size + 4, 0, none⟩) (by show w.heap.size + 4 < _; omega), e5, ← s4]; exact alloc_cell _ _ _ _ 0
  have r6 : w7.cell? ⟨w.heap.size + 5, 0, none⟩ = some (.int .i64 4) := by
    rw [b6.cell (p := ⟨w.heap.size + 5, 0, none⟩) (by show w.heap.size + 5 < _; omega), e6, ← s5]; exact alloc_cell _ _ _ _ 0
  have fz : w7.frozen? ⟨w.heap.size, 1, none⟩ = false := by
    rw [b1.frozen (p := ⟨w.heap.size, 1, none⟩) (by show w.heap.size < _; omega), e1]; exact alloc_frozen _ _ _ _
  refine ⟨⟨⟨hW.below b0, by omega, r1 0, r1 1, fz, Nat.zero_le _⟩, by omega, r2, fun l h1 h2 => ?_, fun l h1 h2 => ?_⟩, ⟨w, rfl, b0, S, N⟩, b0⟩
  · have hl : l = 1 ∨ l = 2 ∨ l = 3 ∨ l = 4 := by omega
    rcases hl with rfl | rfl | rfl | rfl
    · exact r3
    · exact r4
    · exact r5
    · exact r6
  · have hl : l = 1 ∨ l = 2 ∨ l = 3 ∨ l = 4 ∨ l = 5 ∨ l = 6 := by omega
    rcases hl with rfl | rfl | rfl | rfl | rfl | rfl
    · exact r1 3
    · exact r1 4
    · exact r1 5
    · exact r1 6
    · exact r1 7
    · exact r1 8
set_option maxHeartbeats 8000000 in
theorem newExprReader_any (A : Option Addr) (cap : Nat) (ws : List W) (w : World) (hW : Words w w.heap.size A ws) (S : Sgn w) (N : NTabs w) :
    Calls Tryz.prog 70 #[.slice A ws.length cap] w fun ee w' => ee = .returned (.pointer (some ⟨w.heap.size, 0, none⟩)) ∧ XR w' w.heap.size A cap ws 0 ∧ Rts w.heap.size w' ∧ Below w.heap.size w w' := by
  have hmf : ∀ (fn : Fn) (first cap : Array Value) (w : World), (Instr.makeFunc fn first cap).run Tryz.prog w = .ok (.func fn first cap) w := fun _ _ _ _ => rfl
  go_enter Tryz.func70, Tryz.ntmps70
  go_wp2_with fail
  refine wp_loop_rounds 5 ?_
  iterate 4
    rw [rounds_succ]
    go_wp2_with fail
    go_region
    go_wp2_with fail
  rw [rounds_succ]
  go_wp2_with fail
  obtain ⟨x1, x2, x3⟩ := reader_new w A cap ws hW S N 102 94 3 _ _ _ _ _ _ _ rfl rfl rfl rfl rfl rfl rfl
  refine bodyPost_ret (v := .pointer (some ⟨w.heap.size, 0, none⟩)) (by simp [results, Tryz.results70, go_sem]) rfl ?_
  exact ⟨rfl, x1.below (below_drewN (Below.refl _ _) 4), x2.mv (Mv.of_below (below_drewN (Below.refl _ _) 4) (Nat.lt_of_le_of_lt (by omega) x1.sz)), below_drewN x3 4⟩
end Go.Proofs.YtljdbjfbcjigaaaGreatDoor

namespace Go.Proofs.YtljdbjfbcjigaaaGreatDoor
open Go.RowKit
set_option maxRecDepth 100000

end Go.Proofs.YtljdbjfbcjigaaaGreatDoor

namespace Go.Proofs.YtljdbjfbcjigaaaGreatDoor
open Go.RowKit
set_option maxRecDepth 100000

/-- What reading leaves: an expression in memory of its own, and the index behind it. -/
def RdM (n : Nat) (res : Option (E × List W)) (w : World) (ee : Ending) (w' : World) : Prop :=
  ∃ (e : E) (A : Option Addr) (c : Nat), ee = .returned (.tuple #[exV e A c, .int .i64 (nextI n res)]) ∧ PdS w' (Between w' w.heap.size w'.heap.size) e.kids A ∧ Below w.heap.size w w' ∧ ∀ p, res = some p → e = p.1
/-- The same for a list. -/
def KsM (n : Nat) (res : Option (List E × List W)) (w : World) (ee : Ending) (w' : World) : Prop :=
  ∃ (ks : List E) (A : Option Addr) (c : Nat), ee = .returned (.tuple #[.slice A ks.length c, .int .i64 (nextI n res)]) ∧ PdS w' (Between w' w.heap.size w'.heap.size) ks A ∧ Below w.heap.size w w' ∧ ∀ p, res = some p → ks = p.1
/-- Where a loop over ops stands. -/
def LRel (w0 : World) (n : Nat) (ws : List W) (l m X : Nat) (res : Option (E × List W)) (z : Int) (wr : World) (e : E) (A : Option Addr) (c : Nat) : Prop :=
  Res wr X (.int .i64 e.op) (.int .i64 e.n) (.string e.name) (.slice A e.kids.length c) ∧ PdS wr (BtX (w0.heap.size + 1) X wr) e.kids A ∧ Res wr w0.heap.size (.int .i64 0) (.int .i64 0) (.string ⟨#[]⟩) (.slice none 0 0) ∧ Below w0.heap.size w0 wr ∧
    ((z = -1 ∧ res = none) ∨ ∃ k m' : Nat, z = k ∧ k ≤ n ∧ m' ≤ m ∧ 10 * (n - k) + 10 ≤ m' ∧ rdO nmB m' l e (ws.drop k) = res)
/-- The two forms of what rdO does. -/
theorem rdO_none {m l : Nat} {x : E} {ws : List W} {res : Option (E × List W)} (h : rdO nmB m l x ws = res) (hm : 1 ≤ m) (ho : opAt l ws = none) : res = some (x, ws) := by
  obtain ⟨m, rfl⟩ : ∃ k, m = k + 1 := ⟨m - 1, by omega⟩
  rw [← h]
  show (match opAt l ws with
    | none => some (x, ws)
    | some op => (rdL nmB m (l + 1) ws.tail).bind fun p => rdO nmB m l (binE op x p.1) p.2) = _
  rw [ho]
theorem rdO_some {m l : Nat} {x : E} {ws : List W} {op : Int} {res : Option (E × List W)} (h : rdO nmB (m + 1) l x ws = res) (ho : opAt l ws = some op) : ((rdL nmB m (l + 1) ws.tail).bind fun p => rdO nmB m l (binE op x p.1) p.2) = res := by
  rw [← h]
  show _ = (match opAt l ws with
    | none => some (x, ws)
    | some op => (rdL nmB m (l + 1) ws.tail).bind fun p => rdO nmB m l (binE op x p.1) p.2)
  rw [ho]
/-- How far a loop over ops is from its end. -/
def mz (n : Nat) (z : Int) : Nat := if z < 0 then 0 else n + 1 - z.toNat
theorem mz_neg (n : Nat) : mz n (-1) = 0 := rfl
theorem mz_nat (n k : Nat) : mz n (k : Int) = n + 1 - k := by unfold mz; rw [if_neg (by omega)]; rfl
theorem rel_round {w w8 : World} {n l m X s6 : Nat} {ws : List W} {res : Option (E × List W)} {e y : E} {A2 A5 : Option Addr} {c2 c5 : Nat} {op z5 : Int} (hz : w8.heap.size = s6) (hX : w.heap.size + 1 ≤ X) (hlz : X < s6)
    (X8 : Res w8 X (.int .i64 op) (.int .i64 0) (.string ⟨#[]⟩) (.slice (some ⟨s6, 0, none⟩) 2 2)) (R8 : Res w8 w.heap.size (.int .i64 0) (.int .i64 0) (.string ⟨#[]⟩) (.slice none 0 0))
    (P8 : PdS w8 (BtX (w.heap.size + 1) X w8) e.kids A2) (Q8 : PdS w8 (BtX (w.heap.size + 1) X w8) y.kids A5) (B8 : Below w.heap.size w w8)
    (h : (z5 = -1 ∧ res = none) ∨ ∃ k m' : Nat, z5 = k ∧ k ≤ n ∧ m' ≤ m ∧ 10 * (n - k) + 10 ≤ m' ∧ rdO nmB m' l (binE op e y) (ws.drop k) = res) :
    ∃ (z : Int) (e' : E) (A' : Option Addr) (c' : Nat), Value.int .i64 z5 = .int .i64 z ∧ LRel w n ws l m X res z (w8.alloc (.cells #[.int .i64 e.op, .int .i64 e.n, .string e.name, .slice A2 e.kids.length c2, .int .i64 y.op, .int .i64 y.n, .string y.name, .slice A5 y.kids.length c5] 28)) e' A' c' := by
  have hal := (Below.refl w8.heap.size w8).alloc (Nat.le_refl _) (.cells #[.int .i64 e.op, .int .i64 e.n, .string e.name, .slice A2 e.kids.length c2, .int .i64 y.op, .int .i64 y.n, .string y.name, .slice A5 y.kids.length c5] 28)
  have P9 := pd_lit (w := w8) (S' := BtX (w.heap.size + 1) X (w8.alloc (.cells #[.int .i64 e.op, .int .i64 e.n, .string e.name, .slice A2 e.kids.length c2, .int .i64 y.op, .int .i64 y.n, .string y.name, .slice A5 y.kids.length c5] 28))) [⟨e, A2, c2⟩, ⟨y, A5, c5⟩] (S := BtX (w.heap.size + 1) X w8)
    ⟨by omega, by rw [World.size_alloc]; omega, by omega, ⟨_, _, heap_alloc_new _ _⟩⟩ (fun kd hkd => by
      simp at hkd
      rcases hkd with rfl | rfl
      · exact P8
      · exact Q8) (fun b hb => hb.2.1) (fun b hb => ⟨hb.1, by rw [World.size_alloc]; have := hb.2.1; omega, hb.2.2.1, hb.2.2.2.below hal hb.2.1⟩)
  rw [hz] at P9
  exact ⟨z5, binE op e y, some ⟨s6, 0, none⟩, 2, rfl, X8.below hal X8.lt, P9, R8.below hal R8.lt, B8.trans (hal.mono B8.size), h⟩
theorem tup_int {v : Value} {a b : Int} (h : a = b) : Ending.returned (.tuple #[v, .int .i64 a]) = .returned (.tuple #[v, .int .i64 b]) := by rw [h]
theorem opN_none {l : Nat} {ws : List W} (h : opAt l ws = none) : opN l ws = 0 := by unfold opN; rw [h]; rfl
theorem opN_some {l : Nat} {ws : List W} {op : Int} (h : opAt l ws = some op) : opN l ws = op := by unfold opN; rw [h]; rfl
/-- One round of a loop over ops. -/
theorem lrel_next {n : Nat} {ws : List W} {l m k m' : Nat} {x y : E} {op : Int} {res r' : Option (E × List W)} (hn : n = ws.length) (hk : k ≤ n) (hm : m' ≤ m) (ha : 10 * (n - k) + 10 ≤ m') (h : rdO nmB m' l x (ws.drop k) = res) (ho : opAt l (ws.drop k) = some op)
    (hr : rdL nmB (m' - 1) (l + 1) (ws.drop (k + 1)) = r') (hl : l ≤ 4) (hy : ∀ p, r' = some p → y = p.1) :
    (nextI n r' = -1 ∧ res = none) ∨ ∃ k2 m2 : Nat, nextI n r' = k2 ∧ k < k2 ∧ k2 ≤ n ∧ m2 ≤ m ∧ 10 * (n - k2) + 10 ≤ m2 ∧ rdO nmB m2 l (binE op x y) (ws.drop k2) = res := by
  obtain ⟨m', rfl⟩ : ∃ q, m' = q + 1 := ⟨m' - 1, by omega⟩
  have h2 := rdO_some h ho
  rw [tail_drop] at h2
  have e1 : m' + 1 - 1 = m' := by omega
  rw [e1] at hr
  rw [hr] at h2
  cases r' with
  | none => exact .inl ⟨rfl, h2.symm⟩
  | some p =>
    obtain ⟨y', r⟩ := p
    have hy' := hy _ rfl
    dsimp only at hy'
    subst hy'
    obtain ⟨a1, a2, a3, a4⟩ := (rd_less nmB m').L _ _ _ _ (by omega) hr
    obtain ⟨k2, b1, b2, b3, b4⟩ := suf_place a1 a2
    subst hn
    refine .inr ⟨k2, m', ?_, by omega, b2, by omega, by omega, ?_⟩
    · show ((ws.length - r.length : Nat) : Int) = _; omega
    · rw [← b3]; exact h2
theorem pos_of_op {l : Nat} {ws : List W} {k : Nat} {op : Int} (h : opAt l (ws.drop k) = some op) : k < ws.length ∧ 3 ≤ op ∧ op ≤ 10 := by
  obtain ⟨a, b, c, d⟩ := opAt_some h
  exact ⟨(isT_lt d).1, a, b⟩

end Go.Proofs.YtljdbjfbcjigaaaGreatDoor

namespace Go.Proofs.YtljdbjfbcjigaaaGreatDoor
open Go.RowKit
set_option maxRecDepth 100000

theorem heap_four (w : World) (b i : Nat) (u0 u1 u2 u3 : Value) (h : i ≠ b) : ((((w.setCell ⟨b, 0, none⟩ u0).setCell ⟨b, 1, none⟩ u1).setCell ⟨b, 2, none⟩ u2).setCell ⟨b, 3, none⟩ u3).heap[i]? = w.heap[i]? := by
  have one : ∀ (W : World) (o : Nat) (u : Value), (W.setCell ⟨b, o, none⟩ u).heap[i]? = W.heap[i]? := fun W o u => by
    show (W.heap.modify b _)[i]? = _
    rw [Array.getElem?_modify, if_neg (by omega)]
  rw [one, one, one, one]
theorem XR.same {w w' : World} {R cap k : Nat} {A : Option Addr} {ws : List W} (h : XR w R A cap ws k) (c : Cu w' R A cap ws k) (hz : w.heap.size ≤ w'.heap.size) (hb : ∀ i, i ≤ R + 5 → w'.heap[i]? = w.heap[i]?) : XR w' R A cap ws k :=
  ⟨c, Nat.lt_of_lt_of_le h.sz hz, (World.cell?_of_block (hb (R + 1) (by omega))).trans h.v,
    fun l h1 h2 => (World.cell?_of_block (hb (R + 1 + l) (by omega))).trans (h.lv l h1 h2), fun l h1 h2 => (World.cell?_of_block (hb R (by omega))).trans (h.cl l h1 h2)⟩
theorem XR.four {w : World} {R cap k : Nat} {A : Option Addr} {ws : List W} (h : XR w R A cap ws k) {b : Nat} (hb : R + 5 < b) (u0 u1 u2 u3 : Value) :
    XR ((((w.setCell ⟨b, 0, none⟩ u0).setCell ⟨b, 1, none⟩ u1).setCell ⟨b, 2, none⟩ u2).setCell ⟨b, 3, none⟩ u3) R A cap ws k := by
  have hz : ((((w.setCell ⟨b, 0, none⟩ u0).setCell ⟨b, 1, none⟩ u1).setCell ⟨b, 2, none⟩ u2).setCell ⟨b, 3, none⟩ u3).heap.size = w.heap.size := by simp
  have hc := h.cu.four (b := b) (by omega) u0 u1 u2 u3
  have hh := fun i (hi : i ≠ b) => heap_four w b i u0 u1 u2 u3 hi
  generalize ((((w.setCell ⟨b, 0, none⟩ u0).setCell ⟨b, 1, none⟩ u1).setCell ⟨b, 2, none⟩ u2).setCell ⟨b, 3, none⟩ u3) = w' at *
  exact h.same hc (by omega) (fun i hi => hh i (by omega))
/-- Where a loop over ops stands, in the program. -/
def BRel (w0 : World) (R cap : Nat) (A : Option Addr) (ws : List W) (l m X : Nat) (res : Option (E × List W)) (gk : Nat) (v : Value) (wr : World) : Prop :=
  ∃ (ok : Bool) (e : E) (A2 : Option Addr) (c2 k2 : Nat), v = .bool ok ∧ Res wr X (.int .i64 e.op) (.int .i64 e.n) (.string e.name) (.slice A2 e.kids.length c2) ∧ PdD wr (BtX (w0.heap.size + 1) X wr) e.kids A2 ∧
    Res wr w0.heap.size (.int .i64 0) (.int .i64 0) (.string ⟨#[]⟩) (.slice none 0 0) ∧ Mv R w0 wr ∧ XR wr R A cap ws k2 ∧
    ((ok = false ∧ res = none) ∨ (ok = true ∧ ws.length + 1 - k2 ≤ gk ∧ ∃ m' : Nat, m' ≤ m ∧ 10 * (ws.length - k2) + 10 ≤ m' ∧ rdO nmB m' l e (ws.drop k2) = res))
theorem brel_round {w w8 : World} {R cap l m X s4 h5 s6 k3 gk : Nat} {A : Option Addr} {ws : List W} {res : Option (E × List W)} {e y : E} {A2 A5 : Option Addr} {c2 c5 : Nat} {op : Int} {ok : Bool} (hz : w8.heap.size = s6) (hX : w.heap.size + 1 ≤ X) (hlz : X < s6)
    (X8 : Res w8 X (.int .i64 op) (.int .i64 0) (.string ⟨#[]⟩) (.slice (some ⟨s6, 0, none⟩) 2 2)) (R8 : Res w8 w.heap.size (.int .i64 0) (.int .i64 0) (.string ⟨#[]⟩) (.slice none 0 0))
    (P8 : PdD w8 (BtQ (w.heap.size + 1) X 0 s4 w8) e.kids A2) (Q8 : PdD w8 (BtQ (w.heap.size + 1) X (s4 + 1) h5 w8) y.kids A5) (M8 : Mv R w w8) (C8 : XR w8 R A cap ws k3)
    (h : (ok = false ∧ res = none) ∨ (ok = true ∧ ws.length + 1 - k3 ≤ gk ∧ ∃ m' : Nat, m' ≤ m ∧ 10 * (ws.length - k3) + 10 ≤ m' ∧ rdO nmB m' l (binE op e y) (ws.drop k3) = res)) :
    BRel w R cap A ws l m X res gk (.bool ok) (w8.alloc (.cells #[.int .i64 e.op, .int .i64 e.n, .string e.name, .slice A2 e.kids.length c2, .int .i64 y.op, .int .i64 y.n, .string y.name, .slice A5 y.kids.length c5] 28)) := by
  have hal := (Below.refl w8.heap.size w8).alloc (Nat.le_refl _) (.cells #[.int .i64 e.op, .int .i64 e.n, .string e.name, .slice A2 e.kids.length c2, .int .i64 y.op, .int .i64 y.n, .string y.name, .slice A5 y.kids.length c5] 28)
  have P9 := pdd_lit (w := w8) (S' := BtX (w.heap.size + 1) X (w8.alloc (.cells #[.int .i64 e.op, .int .i64 e.n, .string e.name, .slice A2 e.kids.length c2, .int .i64 y.op, .int .i64 y.n, .string y.name, .slice A5 y.kids.length c5] 28))) (fun c => if c < s4 then 0 else 1) [⟨e, A2, c2⟩, ⟨y, A5, c5⟩] (S := BtX (w.heap.size + 1) X w8)
    ⟨by omega, by rw [World.size_alloc]; omega, by omega, ⟨_, _, heap_alloc_new _ _⟩⟩ (fun j hj => by
      match j, hj with
      | 0, _ => exact P8.keep (fun _ _ _ => rfl) (fun b hb => ⟨hb.1, if_pos hb.2.2⟩)
      | 1, _ => exact Q8.keep (fun _ _ _ => rfl) (fun b hb => ⟨hb.1, if_neg (by have := hb.2.1; omega)⟩)
      | j + 2, hj => exact absurd hj (by simp)) (fun b hb => hb.2.1) (fun b hb => ⟨hb.1, by rw [World.size_alloc]; have := hb.2.1; omega, hb.2.2.1, hb.2.2.2.below hal hb.2.1⟩)
  rw [hz] at P9
  exact ⟨ok, binE op e y, some ⟨s6, 0, none⟩, 2, k3, rfl, X8.below hal X8.lt, P9, R8.below hal R8.lt, M8.trans (Mv.of_below hal C8.cu.lt), C8.below hal, h⟩
theorem Res.same {w w' : World} {b : Nat} {v0 v1 v2 v3 : Value} (h : Res w b v0 v1 v2 v3) (hc : ∀ o, w'.cell? ⟨b, o, none⟩ = w.cell? ⟨b, o, none⟩) (hf : ∀ o, w'.frozen? ⟨b, o, none⟩ = w.frozen? ⟨b, o, none⟩) (hl : b < w'.heap.size) : Res w' b v0 v1 v2 v3 :=
  ⟨⟨(hc 0).trans h.c.1, (hc 1).trans h.c.2.1, (hc 2).trans h.c.2.2.1, (hc 3).trans h.c.2.2.2⟩, fun o => (hf o).trans (h.f o), hl⟩
theorem took_none {l : Nat} {ws : List W} (h : ∀ j : Int, 3 ≤ j → j < 13 → hitO l ws j = false) : opAt l ws = none := opAt_no fun j h1 h2 => h j h1 (by omega)
theorem took_some {l : Nat} (hl : l ≤ 4) {ws : List W} {op : Int} (h3 : 3 ≤ op) (h12 : op ≤ 12) (h : hitO l ws op = true) (hno : ∀ j : Int, 3 ≤ j → j < op → hitO l ws j = false) : opAt l ws = some op := by
  refine opAt_first h3 ?_ hno h
  unfold hitO at h
  rw [Bool.and_eq_true, decide_eq_true_eq] at h
  have h1 := h.1
  by_cases e : op = 11 ∨ op = 12
  · have := lvl_un e; omega
  · omega
/-- One round of the program's loop. -/
theorem brel_next {n : Nat} {ws : List W} {l m k m' : Nat} {x y : E} {op : Int} {res r' : Option (E × List W)} (hn : n = ws.length) (hk : k ≤ n) (hm : m' ≤ m) (ha : 10 * (n - k) + 10 ≤ m') (h : rdO nmB m' l x (ws.drop k) = res) (ho : opAt l (ws.drop k) = some op)
    (hr : rdL nmB (m' - 1) (l + 1) (ws.drop (k + 1)) = r') (hl : l ≤ 4) (hy : ∀ p, r' = some p → y = p.1) (k3 : Nat) (hk3 : k3 ≤ n) (hd : ∀ p, r' = some p → ws.drop k3 = p.2) :
    (r'.isSome = false ∧ res = none) ∨ (r'.isSome = true ∧ k < k3 ∧ ∃ m2 : Nat, m2 ≤ m ∧ 10 * (n - k3) + 10 ≤ m2 ∧ rdO nmB m2 l (binE op x y) (ws.drop k3) = res) := by
  cases r' with
  | none =>
    rcases lrel_next (y := y) hn hk hm ha h ho hr hl hy with h1 | ⟨k2, m2, h1, _⟩
    · exact .inl ⟨rfl, h1.2⟩
    · exfalso
      have e1 : nextI n (none : Option (E × List W)) = -1 := rfl
      rw [e1] at h1
      omega
  | some p =>
    rcases lrel_next (y := y) hn hk hm ha h ho hr hl hy with h1 | ⟨k2, m2, h1, h2, h3, h4, h5, h6⟩
    · exfalso
      have := (nextI_at (ws := ws) p.1 (k := k3) (by omega))
      rw [hd p rfl] at this
      have e2 : nextI n (some p) = (k3 : Int) := by rw [hn]; exact this
      rw [e2] at h1
      omega
    · have := (nextI_at (ws := ws) p.1 (k := k3) (by omega))
      rw [hd p rfl] at this
      have e2 : nextI n (some p) = (k3 : Int) := by rw [hn]; exact this
      rw [e2] at h1
      obtain rfl : k3 = k2 := by omega
      exact .inr ⟨rfl, h2, m2, h4, h5, h6⟩
end Go.Proofs.YtljdbjfbcjigaaaGreatDoor
