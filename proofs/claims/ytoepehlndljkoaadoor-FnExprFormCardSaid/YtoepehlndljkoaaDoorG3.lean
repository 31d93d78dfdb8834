/-
  What the laws' own helpers do with expressions: a copy in new memory.
-/
import Derived.Test.YtoepehlndljkoaaDoorG2
namespace Go.Proofs.YtoepehlndljkoaaDoor
open Go.RowKit
set_option maxRecDepth 100000

/-- The first k Kids stand in a row of block g; what they lead to lies behind it. -/
def toPart (ks : List E) (g : Nat) (w : World) (k : Nat) (xs : List Value) : Prop := xs.length = ks.length * 4 ∧ ∀ j, (h : j < ks.length) → j < k →
  xs[j * 4]? = some (.int .i64 ks[j].op) ∧ xs[j * 4 + 1]? = some (.int .i64 ks[j].n) ∧ xs[j * 4 + 2]? = some (.string ks[j].name) ∧
    ∃ A, xs[j * 4 + 3]? = some (.slice A ks[j].kids.length ks[j].kids.length) ∧ PdS w (Between w (g + 1) w.heap.size) ks[j].kids A
theorem toPart.later {ks : List E} {g k : Nat} {w w' : World} {xs : List Value} (h : toPart ks g w k xs) (hb : Below w.heap.size w w') : toPart ks g w' k xs := by
  refine ⟨h.1, fun j hj hk => ?_⟩
  obtain ⟨a, b, c, A, d, e⟩ := h.2 j hj hk
  exact ⟨a, b, c, A, d, e.later hb (Nat.le_refl _) hb.size⟩
theorem toPart.set {ks : List E} {g k : Nat} {w : World} {xs : List Value} (h : toPart ks g w k xs) (o : Nat) (v : Value) : toPart ks g (w.setCell ⟨g, o, none⟩ v) k xs := by
  refine ⟨h.1, fun j hj hk => ?_⟩
  obtain ⟨a, b, c, A, d, e⟩ := h.2 j hj hk
  have e' := e.set o v
  have hz : (w.setCell ⟨g, o, none⟩ v).heap.size = w.heap.size := by simp
  rw [hz]
  exact ⟨a, b, c, A, d, e'⟩
theorem toPart.step {ks : List E} {g k : Nat} {w : World} {xs : List Value} (h : toPart ks g w k xs) (hk : k < ks.length) {op n : Int} {s : ByteArray} {kk : List E} (he : ks[k] = .mk op n s kk) {A : Option Addr} (hp : PdS w (Between w (g + 1) w.heap.size) kk A) :
    toPart ks g w (k + 1) ((((xs.set (k * 4) (.int .i64 op)).set (k * 4 + 1) (.int .i64 n)).set (k * 4 + 2) (.string s)).set (k * 4 + 3) (.slice A kk.length kk.length)) := by
  have hl := h.1
  obtain ⟨e0, e1, e2, e3⟩ : op = ks[k].op ∧ n = ks[k].n ∧ s = ks[k].name ∧ kk = ks[k].kids := by rw [he]; exact ⟨rfl, rfl, rfl, rfl⟩
  clear he
  subst e0 e1 e2 e3
  refine ⟨by simpa using hl, fun j hj hjk => ?_⟩
  by_cases e : j = k
  · subst e
    refine ⟨?_, ?_, ?_, A, ?_, hp⟩
    · rw [List.getElem?_set_ne (by omega), List.getElem?_set_ne (by omega), List.getElem?_set_ne (by omega), List.getElem?_set_self (by omega)]
    · rw [List.getElem?_set_ne (by omega), List.getElem?_set_ne (by omega), List.getElem?_set_self (by rw [List.length_set]; omega)]
    · rw [List.getElem?_set_ne (by omega), List.getElem?_set_self (by rw [List.length_set, List.length_set]; omega)]
    · rw [List.getElem?_set_self (by rw [List.length_set, List.length_set, List.length_set]; omega)]
  · obtain ⟨a, b, c, A', d, e'⟩ := h.2 j hj (by omega)
    refine ⟨?_, ?_, ?_, A', ?_, e'⟩
    all_goals
      rw [List.getElem?_set_ne (by omega), List.getElem?_set_ne (by omega), List.getElem?_set_ne (by omega), List.getElem?_set_ne (by omega)]
      assumption
theorem toPart.zero {ks : List E} {g : Nat} {w : World} {xs : List Value} (h : xs.length = ks.length * 4) : toPart ks g w 0 xs := ⟨h, fun j _ hj => absurd hj (by omega)⟩
theorem row_flat {w : World} {base : Nat} {e : TypeId} {size n cap g : Nat} {xs : List Value} (h : w.ownsRow base e size (.slice (some ⟨g, 0, none⟩) n cap) n xs) : Flat w g := by
  rcases h.2 with ⟨e1, _⟩ | ⟨g', cap', cur, e1, _, e2, _⟩
  · cases e1
  · injection e1 with e1
    injection e1 with e1
    injection e1 with e1
    subst e1
    exact ⟨_, _, e2⟩
theorem toPart.done {ks : List E} {g : Nat} {w : World} {xs : List Value} {base : Nat} {e : TypeId} {cap : Nat} (h : toPart ks g w ks.length xs) (ho : w.ownsRow base e 4 (.slice (some ⟨g, 0, none⟩) ks.length cap) ks.length xs) :
    PdS w (Between w g w.heap.size) ks (some ⟨g, 0, none⟩) := by
  have hg := ho.lt g rfl
  refine .inr ⟨g, 0, rfl, ⟨Nat.le_refl _, hg.2, row_flat ho⟩, PdC.mk fun i hi => ?_⟩
  obtain ⟨a, b, c, A, d, e'⟩ := h.2 i hi hi
  have hl := h.1
  have cell : ∀ j, i * 4 ≤ j → j < i * 4 + 4 → w.cell? ⟨g, 0 + j, none⟩ = xs[j]? := by
    intro j _ hj
    rw [Nat.zero_add]
    exact ho.cellAt j (by omega)
  refine ⟨⟨(cell _ (by omega) (by omega)).trans a, (cell _ (by omega) (by omega)).trans b, (cell _ (by omega) (by omega)).trans c⟩, A, _, (cell _ (by omega) (by omega)).trans d, ?_⟩
  exact e'.wide (Nat.le_succ _) (Nat.le_refl _)
def ToRet (e : E) (w : World) (ee : Ending) (w' : World) : Prop := (∃ A, ee = .returned (exV e A e.kids.length) ∧ PdS w' (Between w' w.heap.size w'.heap.size) e.kids A) ∧ Below w.heap.size w w'
def ToLRet (ks : List E) (w : World) (ee : Ending) (w' : World) : Prop := (∃ A, ee = .returned (.slice A ks.length ks.length) ∧ PdS w' (Between w' w.heap.size w'.heap.size) ks A) ∧ Below w.heap.size w w'
def ToE (e : E) : Prop := ∀ (A : Option Addr) (cap : Nat) (w : World), RdS w w.heap.size e.kids A → Calls Tryd.prog 7 #[exV e A cap] w (ToRet e w)
def ToL (ks : List E) : Prop := ∀ (A : Option Addr) (cap : Nat) (w : World), RdS w w.heap.size ks A → Calls Tryd.prog 17 #[.slice A ks.length cap] w (ToLRet ks w)
theorem exprInfo : (Tryd.prog.info? 30).map (fun i => (i.zero, i.size, i.bytes)) = some (some (.agg #[.int .i64 0, .int .i64 0, .string ⟨#[]⟩, .slice none 0 0]), 4, 56) := by kernel_rfl

set_option maxHeartbeats 2000000 in
theorem toExprS_of (ks : List E) (hn : ks.length ≤ 1048576) (H : ∀ k ∈ ks, ToE k) : ToL ks := by
  intro A cap w hR
  have HK := fun i (h : i < ks.length) => H _ (List.getElem_mem h)
  clear H
  unfold ToE exV at HK
  replace HK := Lib.hid HK
  have HR := Lib.hid hR
  clear hR
  obtain ⟨i0, hi, hz0, hz1, hz2⟩ := info_parts exprInfo
  go_enter Tryd.func17, Tryd.ntmps17
  go_wp2_with (first
    | (with_reducible refine wpList_make_full _ rfl _ _ 28 rfl w.heap.size 30 i0 (.agg #[.int .i64 0, .int .i64 0, .string ⟨#[]⟩, .slice none 0 0]) 4 Tryd.underlying28 hi hz0 hz1 _ _ _ _ ks.length rfl rfl rfl rfl ?c1 ?c2 ?c3 ?_)
    | fail)
  case c1 => rw [hz2]; omega
  case c2 => unfold maxLen; omega
  case c3 => exact Nat.le_refl _
  intro w1 hown hgrow
  have hb0 : Below w.heap.size w w1 := (Below.refl _ _).grown hgrow (Nat.le_refl _) (fun k e => by cases e)
  obtain ⟨xs0, hown0, hp0⟩ : ∃ xs0, w1.ownsRow w.heap.size 30 4 (.slice (some ⟨w.heap.size, 0, none⟩) ks.length ks.length) ks.length xs0 ∧ toPart ks w.heap.size w1 0 xs0 := ⟨_, hown, toPart.zero hown.1⟩
  clear hown
  have HO0 := Lib.hid hown0
  have HP0 := Lib.hid hp0
  clear hown0 hgrow hp0
  go_wp2_with fail
  go_loopw [4] (fun i wr => ∃ (k : Nat) (xs : List Value), k ≤ ks.length ∧ i = .int .i64 k ∧ wr.ownsRow w.heap.size 30 4 (.slice (some ⟨w.heap.size, 0, none⟩) ks.length ks.length) ks.length xs ∧ toPart ks w.heap.size wr k xs ∧ Below w.heap.size w wr) (fun i _ => ks.length - (intOf i).toNat)
  case atStart => exact ⟨0, xs0, Nat.zero_le _, rfl, HO0.out, HP0.out, hb0⟩
  case round =>
    clear HO0 hb0 HP0
    obtain ⟨k, xs, hk, rfl, hown, hp, hb⟩ := hrel
    have hbs := hb.size
    by_cases hlt : k < ks.length
    · obtain ⟨b, o, rfl, hB, ⟨c0, c1, c2⟩, A1, cap1, c3, hr⟩ := (HR.out.below hb).at_ hlt
      have CK := HK.out k hlt A1 cap1 wr (hr.more hbs)
      have HX := Lib.hid hp.1
      have HP := Lib.hid hp
      clear hp hr
      generalize hkd : ks[k] = kid at CK c0 c1 c2 c3
      have HKD := Lib.hid hkd
      clear hkd
      obtain ⟨op, n, s, kk⟩ := kid
      dsimp only [E.op, E.n, E.name, E.kids] at c0 c1 c2 c3 CK
      replace CK := Lib.hid CK
      go_wp2_with fail
      (with_reducible refine Calls.mono CK.out ?_)
      rintro ee w2 ⟨⟨A2, rfl, hpd⟩, hb1⟩
      dsimp only [E.op, E.n, E.name, E.kids, exV] at hpd ⊢
      have hown2 := hown.kept (w' := w2) (row := none) ⟨hb1.os, hb1.tape, hb1.output, hb1.size, fun i hi _ => hb1.block i hi⟩ (by simp [Value.ownBlock])
      have hb2 := hb.trans (hb1.mono hbs)
      have hgs := (hown.lt _ rfl).2
      have HPD := Lib.hid (show PdS w2 (Between w2 (w.heap.size + 1) w2.heap.size) kk A2 from hpd.wide hgs (Nat.le_refl _))
      have HP2 := Lib.hid (HP.out.later hb1)
      clear hown hb hb1 c0 c1 c2 c3 hpd HP
      have hxl : xs.length = ks.length * 4 := HX.out
      have d0 := hown2.cellAt (k * 4) (by omega)
      have d1 := hown2.cellAt (k * 4 + 1) (by omega)
      have d2 := hown2.cellAt (k * 4 + 2) (by omega)
      have d3 := hown2.cellAt (k * 4 + 3) (by omega)
      have f0 := hown2.frozenAt (k * 4)
      have f1 := hown2.frozenAt (k * 4 + 1)
      have f2 := hown2.frozenAt (k * 4 + 2)
      have f3 := hown2.frozenAt (k * 4 + 3)
      rw [List.getElem?_eq_getElem (by omega)] at d0 d1 d2 d3
      generalize xs[k * 4] = y0 at *
      generalize xs[k * 4 + 1] = y1 at *
      generalize xs[k * 4 + 2] = y2 at *
      generalize xs[k * 4 + 3] = y3 at *
      have HO := Lib.hid hown2
      clear hown2 hxl
      go_wp2_with fail
      go_roundw
      case rel =>
        have hs0 := HO.out.stored (k * 4) (.int .i64 op)
        have hs1 := hs0.1.stored (k * 4 + 1) (.int .i64 n)
        have hs2 := hs1.1.stored (k * 4 + 2) (.string s)
        have hs3 := hs2.1.stored (k * 4 + 3) (.slice A2 kk.length kk.length)
        have hst := HP2.out.step hlt HKD.out HPD.out
        exact ⟨k + 1, _, by omega, by go_num, hs3.1, (((hst.set (k * 4) _).set (k * 4 + 1) _).set (k * 4 + 2) _).set (k * 4 + 3) _, (((hb2.setCell (Nat.le_refl _) _).setCell (Nat.le_refl _) _).setCell (Nat.le_refl _) _).setCell (Nat.le_refl _) _⟩
      case measure => simp only [intOf]; omega
    · obtain rfl : k = ks.length := by omega
      have HO := Lib.hid (hp.done hown)
      clear hown hp
      go_wp2_with fail
      go_ret
      exact ⟨⟨_, rfl, HO.out⟩, hb⟩
/-- Three new blocks, of which two are known. -/
theorem three_blocks (w : World) (a : Obj) (z0 z1 z2 z3 v0 v1 v2 v3 : Value) (t t' : TypeId) (w1 : World)
    (hb : Below (((w.alloc a).alloc (.cells #[z0, z1, z2, z3] t)).alloc (.cells #[v0, v1, v2, v3] t')).heap.size (((w.alloc a).alloc (.cells #[z0, z1, z2, z3] t)).alloc (.cells #[v0, v1, v2, v3] t')) w1) :
    (w1.cell? ⟨w.heap.size + 1 + 1, 0, none⟩ = some v0 ∧ w1.cell? ⟨w.heap.size + 1 + 1, 1, none⟩ = some v1 ∧ w1.cell? ⟨w.heap.size + 1 + 1, 2, none⟩ = some v2 ∧ w1.cell? ⟨w.heap.size + 1 + 1, 3, none⟩ = some v3) ∧
    (w1.cell? ⟨w.heap.size + 1, 0, none⟩ = some z0 ∧ w1.cell? ⟨w.heap.size + 1, 1, none⟩ = some z1 ∧ w1.cell? ⟨w.heap.size + 1, 2, none⟩ = some z2 ∧ w1.cell? ⟨w.heap.size + 1, 3, none⟩ = some z3) ∧
    (∀ o, w1.frozen? ⟨w.heap.size + 1 + 1, o, none⟩ = false) ∧ (∀ o, w1.frozen? ⟨w.heap.size + 1, o, none⟩ = false) ∧ w.heap.size + 1 + 1 < w1.heap.size ∧ Below w.heap.size w w1 := by
  have s1 : (w.alloc a).heap.size = w.heap.size + 1 := World.size_alloc _ _
  have s2 : ((w.alloc a).alloc (.cells #[z0, z1, z2, z3] t)).heap.size = w.heap.size + 1 + 1 := by rw [World.size_alloc, s1]
  have s3 : (((w.alloc a).alloc (.cells #[z0, z1, z2, z3] t)).alloc (.cells #[v0, v1, v2, v3] t')).heap.size = w.heap.size + 1 + 1 + 1 := by rw [World.size_alloc, s2]
  have hz := hb.size
  rw [s3] at hz
  have hal := (Below.refl _ ((w.alloc a).alloc (.cells #[z0, z1, z2, z3] t))).alloc (Nat.le_refl _) (.cells #[v0, v1, v2, v3] t')
  have A := fun k => alloc_cell ((w.alloc a).alloc (.cells #[z0, z1, z2, z3] t)) #[v0, v1, v2, v3] t' (0, 0) k
  have Z := fun k => alloc_cell (w.alloc a) #[z0, z1, z2, z3] t (0, 0) k
  have AF := fun k => alloc_frozen ((w.alloc a).alloc (.cells #[z0, z1, z2, z3] t)) #[v0, v1, v2, v3] t' k
  have ZF := fun k => alloc_frozen (w.alloc a) #[z0, z1, z2, z3] t k
  rw [s2] at A AF
  rw [s1] at Z ZF
  have h1 : ∀ k, w1.cell? ⟨w.heap.size + 1 + 1, k, none⟩ = _ := fun k => (hb.cell (p := ⟨w.heap.size + 1 + 1, k, none⟩) (by show w.heap.size + 1 + 1 < _; rw [s3]; omega)).trans (A k)
  have h2 : ∀ k, w1.cell? ⟨w.heap.size + 1, k, none⟩ = _ := fun k => ((hb.cell (p := ⟨w.heap.size + 1, k, none⟩) (by show w.heap.size + 1 < _; rw [s3]; omega)).trans (hal.cell (p := ⟨w.heap.size + 1, k, none⟩) (by show w.heap.size + 1 < _; rw [s2]; omega))).trans (Z k)
  refine ⟨⟨h1 0, h1 1, h1 2, h1 3⟩, ⟨h2 0, h2 1, h2 2, h2 3⟩, fun k => (hb.frozen (p := ⟨w.heap.size + 1 + 1, k, none⟩) (by show w.heap.size + 1 + 1 < _; rw [s3]; omega)).trans (AF k), fun k => ((hb.frozen (p := ⟨w.heap.size + 1, k, none⟩) (by show w.heap.size + 1 < _; rw [s3]; omega)).trans (hal.frozen (p := ⟨w.heap.size + 1, k, none⟩) (by show w.heap.size + 1 < _; rw [s2]; omega))).trans (ZF k), by omega, ?_⟩
  exact ((((Below.refl _ _).alloc (Nat.le_refl _) _).alloc (by rw [s1]; omega) _).alloc (by rw [s2]; omega) _).trans (hb.mono (by rw [s3]; omega))
set_option maxHeartbeats 2000000 in
theorem toExpr_of (e : E) (H : ToL e.kids) : ToE e := by
  intro A cap w hR
  unfold exV
  obtain ⟨op, n, s, ks⟩ := e
  dsimp only [E.op, E.n, E.name, E.kids] at *
  have CS := fun W (h : Below w.heap.size w W) => Lib.hid (H A cap W (hR.on h h.size))
  clear H hR
  go_enter Tryd.func7, Tryd.ntmps7
  go_wp2_with fail
  refine Calls.mono (CS _ ?hh).out ?_
  case hh => exact (((Below.refl _ _).alloc (Nat.le_refl _) _).alloc (by rw [World.size_alloc]; omega) _).alloc (by rw [World.size_alloc, World.size_alloc]; omega) _
  rintro ee w1 ⟨⟨A2, rfl, hpd⟩, hb1⟩
  obtain ⟨⟨c0, c1, c2, c3⟩, ⟨d0, d1, d2, d3⟩, f, g, hz, hb⟩ := three_blocks w _ _ _ _ _ _ _ _ _ _ _ w1 hb1
  have f3 := f 3
  have g0 := g 0
  have g1 := g 1
  have g2 := g 2
  have g3 := g 3
  have HP := Lib.hid (hpd.wide (lo' := w.heap.size + 1 + 1 + 1) (by rw [World.size_alloc, World.size_alloc, World.size_alloc]; omega) (Nat.le_refl _))
  have HB := Lib.hid hb
  clear CS hb1 f g hpd hb
  go_wp2_with fail
  refine bodyPost_ret (v := .agg #[.int .i64 op, .int .i64 n, .string s, .slice A2 ks.length ks.length]) (by simp [results, Tryd.results7, go_sem, d0, d1, d2, d3]) rfl ⟨⟨A2, rfl, ?_⟩, ?_⟩
  · have h0 := ((((HP.out.set' (g := w.heap.size + 1 + 1) (by omega) 3 (.slice A2 ks.length ks.length)).set' (g := w.heap.size + 1) (by omega) 0 (.int .i64 op)).set' (g := w.heap.size + 1) (by omega) 1 (.int .i64 n)).set' (g := w.heap.size + 1) (by omega) 2 (.string s)).set' (g := w.heap.size + 1) (by omega) 3 (.slice A2 ks.length ks.length)
    exact h0.wide (by omega) (by simp)
  · exact ((((HB.out.setCell (p := ⟨w.heap.size + 1 + 1, 3, none⟩) (by simp; omega) _).setCell (p := ⟨w.heap.size + 1, 0, none⟩) (by simp) _).setCell (p := ⟨w.heap.size + 1, 1, none⟩) (by simp) _).setCell (p := ⟨w.heap.size + 1, 2, none⟩) (by simp) _).setCell (p := ⟨w.heap.size + 1, 3, none⟩) (by simp) _
theorem toExpr_any (e : E) (h : bulkE e ≤ 1048576) : ToE e := by
  refine E.ind (P := fun e => bulkE e ≤ 1048576 → ToE e) ?_ e h
  intro e ih h
  rw [bulkE_kids] at h
  have h1 := length_le_sizeL e.kids
  have h2 := sizeL_bulk e.kids
  exact toExpr_of e (toExprS_of _ (by omega) fun k hk => ih k hk (by have := bulkL_mem hk; omega))
end Go.Proofs.YtoepehlndljkoaaDoor
