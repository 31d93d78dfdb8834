/-
  Drawn expressions that may be bent: l2Bent.
-/
import Derived.Test.YtoepehlndljkoaaDoorG14
namespace Go.Proofs.YtoepehlndljkoaaDoor
open Go.RowKit
set_option maxRecDepth 100000

def bentN : List ByteArray := [⟨#[]⟩, ⟨#[100, 111]⟩, ⟨#[65]⟩, ⟨#[97, 98, 99, 100, 101]⟩, ⟨#[113]⟩]
theorem Res.set0 {w : World} {b : Nat} {v0 v1 v2 v3 : Value} (h : Res w b v0 v1 v2 v3) (u : Value) : Res (w.setCell ⟨b, 0, none⟩ u) b u v1 v2 v3 := by
  have ne : ∀ k, k ≠ 0 → (w.setCell ⟨b, 0, none⟩ u).cell? ⟨b, k, none⟩ = w.cell? ⟨b, k, none⟩ := fun k hk => World.cell?_setCell_other _ _ _ _ (by intro e; injection e with _ e; exact hk e.symm)
  exact ⟨⟨World.cell?_setCell_same _ _ _ h.c.1, (ne 1 (by decide)).trans h.c.2.1, (ne 2 (by decide)).trans h.c.2.2.1, (ne 3 (by decide)).trans h.c.2.2.2⟩, fun o => by rw [World.frozen?_setCell]; exact h.f o, by simpa using h.lt⟩
theorem Res.set1 {w : World} {b : Nat} {v0 v1 v2 v3 : Value} (h : Res w b v0 v1 v2 v3) (u : Value) : Res (w.setCell ⟨b, 1, none⟩ u) b v0 u v2 v3 := by
  have ne : ∀ k, k ≠ 1 → (w.setCell ⟨b, 1, none⟩ u).cell? ⟨b, k, none⟩ = w.cell? ⟨b, k, none⟩ := fun k hk => World.cell?_setCell_other _ _ _ _ (by intro e; injection e with _ e; exact hk e.symm)
  exact ⟨⟨(ne 0 (by decide)).trans h.c.1, World.cell?_setCell_same _ _ _ h.c.2.1, (ne 2 (by decide)).trans h.c.2.2.1, (ne 3 (by decide)).trans h.c.2.2.2⟩, fun o => by rw [World.frozen?_setCell]; exact h.f o, by simpa using h.lt⟩
theorem Res.set2 {w : World} {b : Nat} {v0 v1 v2 v3 : Value} (h : Res w b v0 v1 v2 v3) (u : Value) : Res (w.setCell ⟨b, 2, none⟩ u) b v0 v1 u v3 := by
  have ne : ∀ k, k ≠ 2 → (w.setCell ⟨b, 2, none⟩ u).cell? ⟨b, k, none⟩ = w.cell? ⟨b, k, none⟩ := fun k hk => World.cell?_setCell_other _ _ _ _ (by intro e; injection e with _ e; exact hk e.symm)
  exact ⟨⟨(ne 0 (by decide)).trans h.c.1, (ne 1 (by decide)).trans h.c.2.1, World.cell?_setCell_same _ _ _ h.c.2.2.1, (ne 3 (by decide)).trans h.c.2.2.2⟩, fun o => by rw [World.frozen?_setCell]; exact h.f o, by simpa using h.lt⟩
theorem Res.off {w : World} {b b' o : Nat} {v0 v1 v2 v3 : Value} (h : Res w b v0 v1 v2 v3) (hne : b' ≠ b) (u : Value) : Res (w.setCell ⟨b', o, none⟩ u) b v0 v1 v2 v3 := by
  have ne : ∀ k, (w.setCell ⟨b', o, none⟩ u).cell? ⟨b, k, none⟩ = w.cell? ⟨b, k, none⟩ := fun k => World.cell?_setCell_other _ _ _ _ (by intro e; injection e with e; exact hne e)
  exact ⟨⟨(ne 0).trans h.c.1, (ne 1).trans h.c.2.1, (ne 2).trans h.c.2.2.1, (ne 3).trans h.c.2.2.2⟩, fun o => by rw [World.frozen?_setCell]; exact h.f o, by simpa using h.lt⟩
/-- As DrK, and none of the blocks is x. -/
def DrX (w : World) (lo x : Nat) (v : Value) (ks : List E) : Prop := v.ownBlock ≠ some x ∧ ∃ xs, w.ownsRow lo 30 4 v ks.length xs ∧ ∀ j, (h : j < ks.length) →
  xs[j * 4]? = some (.int .i64 ks[j].op) ∧ xs[j * 4 + 1]? = some (.int .i64 ks[j].n) ∧ xs[j * 4 + 2]? = some (.string ks[j].name) ∧
    ∃ A c, xs[j * 4 + 3]? = some (.slice A ks[j].kids.length c) ∧ PdS w (fun b => (Between w lo w.heap.size b ∧ b ≠ x) ∧ v.ownBlock ≠ some b) ks[j].kids A
theorem DrX.of {w : World} {lo : Nat} {v : Value} {ks : List E} (h : DrK w lo v ks) : DrX w lo w.heap.size v ks := by
  have ho := h.owned
  obtain ⟨xs, h1, h2⟩ := h
  refine ⟨fun e => by have := (ho _ e).2; omega, xs, h1, fun j hj => ?_⟩
  obtain ⟨a, b, c, A, d, e, f⟩ := h2 j hj
  exact ⟨a, b, c, A, d, e, f.keep (fun _ _ _ => rfl) (fun b hb => ⟨⟨hb.1, by have := hb.1.2.1; omega⟩, hb.2⟩)⟩
theorem DrX.dr {w : World} {lo x : Nat} {v : Value} {ks : List E} (h : DrX w lo x v ks) : DrK w lo v ks := by
  obtain ⟨_, xs, h1, h2⟩ := h
  refine ⟨xs, h1, fun j hj => ?_⟩
  obtain ⟨a, b, c, A, d, e, f⟩ := h2 j hj
  exact ⟨a, b, c, A, d, e, f.keep (fun _ _ _ => rfl) (fun b hb => ⟨hb.1.1, hb.2⟩)⟩
theorem DrX.keep {w w' : World} {lo x : Nat} {v : Value} {ks : List E} (h : DrX w lo x v ks) (hk : ∀ b, lo ≤ b → b < w.heap.size → b ≠ x → w'.heap[b]? = w.heap[b]?) (hz : w.heap.size ≤ w'.heap.size) : DrX w' lo x v ks := by
  obtain ⟨hx0, xs, ho, hx⟩ := h
  refine ⟨hx0, xs, ?_, fun j hj => ?_⟩
  · rcases ho with ⟨h1, h2 | ⟨g, cap, cur, e1, e2, e3, e4⟩⟩
    · exact ⟨h1, .inl h2⟩
    · exact ⟨h1, .inr ⟨g, cap, cur, e1, e2, (hk g e2 (Array.getElem?_eq_some_iff.1 e3).1 (fun e => hx0 (by rw [e1, ← e]; rfl))).trans e3, e4⟩⟩
  · obtain ⟨a, b, c, A, d, e, f⟩ := hx j hj
    exact ⟨a, b, c, A, d, e, f.keep (fun b o hb => World.cell?_of_block (hk b hb.1.1.1 hb.1.1.2.1 hb.1.2)) (fun b hb => ⟨⟨⟨hb.1.1.1, Nat.lt_of_lt_of_le hb.1.1.2.1 hz, flat_of_eq hb.1.1.2.2 (hk b hb.1.1.1 hb.1.1.2.1 hb.1.2)⟩, hb.1.2⟩, hb.2⟩)⟩
theorem DrX.touch {w w' : World} {R lo x : Nat} {v : Value} {ks : List E} (h : DrX w lo x v ks) (ht : Touch R w w') (hR : R < lo) : DrX w' lo x v ks := h.keep (fun b h1 h2 _ => ht.above b (by omega) h2) ht.below.size
theorem DrX.set {w : World} {lo x : Nat} {v : Value} {ks : List E} (h : DrX w lo x v ks) {b : Nat} (hb : b < lo ∨ b = x) (o : Nat) (u : Value) : DrX (w.setCell ⟨b, o, none⟩ u) lo x v ks :=
  h.keep (fun k h1 _ h3 => by show (w.heap.modify b _)[k]? = _; rw [Array.getElem?_modify, if_neg (by omega)]) (by simp)
/-- One Kid more, without Kids. -/
theorem DrX.snoc {w w' : World} {lo x n g cap : Nat} {v : Value} {ks : List E} {xs : List Value} (op z : Int) (s : ByteArray) (h0 : v.ownBlock ≠ some x) (hxw : x < w.heap.size)
    (hx : ∀ j, (h : j < ks.length) → xs[j * 4]? = some (.int .i64 ks[j].op) ∧ xs[j * 4 + 1]? = some (.int .i64 ks[j].n) ∧ xs[j * 4 + 2]? = some (.string ks[j].name) ∧ ∃ A c, xs[j * 4 + 3]? = some (.slice A ks[j].kids.length c) ∧ PdS w (fun b => (Between w lo w.heap.size b ∧ b ≠ x) ∧ v.ownBlock ≠ some b) ks[j].kids A)
    (hl : xs.length = ks.length * 4) (hn : ks.length = n) (hown : w'.ownsRow lo 30 4 (.slice (some ⟨g, 0, none⟩) (n + 1) cap) (n + 1) (xs ++ [.int .i64 op, .int .i64 z, .string s, .slice none 0 0])) (hg : w.grownBy w' v.ownBlock) (hat : v.ownBlock = some g ∨ g = w.heap.size) :
    DrX w' lo x (.slice (some ⟨g, 0, none⟩) (n + 1) cap) (ks ++ [.mk op z s []]) := by
  have hgx : g ≠ x := by
    rintro rfl
    rcases hat with h1 | h1
    · exact h0 h1
    · omega
  have keep : ∀ {ls : List E} {A : Option Addr}, PdS w (fun b => (Between w lo w.heap.size b ∧ b ≠ x) ∧ v.ownBlock ≠ some b) ls A → PdS w' (fun b => (Between w' lo w'.heap.size b ∧ b ≠ x) ∧ (Value.slice (some ⟨g, 0, none⟩) (n + 1) cap).ownBlock ≠ some b) ls A := by
    intro ls A h
    refine h.keep (fun b o hb => World.cell?_of_block (hg.block b hb.1.1.2.1 (fun e => hb.2 e.symm))) (fun b hb => ⟨⟨⟨hb.1.1.1, Nat.lt_of_lt_of_le hb.1.1.2.1 hg.size, flat_of_eq hb.1.1.2.2 (hg.block b hb.1.1.2.1 (fun e => hb.2 e.symm))⟩, hb.1.2⟩, ?_⟩)
    intro e
    have e : g = b := by injection e
    rcases hat with h1 | h1
    · exact hb.2 (by rw [h1, e])
    · have := hb.1.1.2.1; omega
  refine ⟨fun e => hgx (by injection e), xs ++ [.int .i64 op, .int .i64 z, .string s, .slice none 0 0], ?_, fun j hj => ?_⟩
  · rw [List.length_append, hn]; exact hown
  · by_cases hjk : j < ks.length
    · obtain ⟨a, b, c, A, d, e, f⟩ := hx j hjk
      rw [List.getElem_append_left hjk]
      refine ⟨?_, ?_, ?_, A, d, ?_, keep f⟩ <;> (rw [List.getElem?_append_left (by omega)]; assumption)
    · have hj' : j = ks.length := by simp at hj; omega
      subst hj'
      simp only [List.getElem_concat_length]
      have at_ : ∀ i, i < 4 → (xs ++ [.int .i64 op, .int .i64 z, .string s, .slice none 0 0])[ks.length * 4 + i]? = [Value.int .i64 op, .int .i64 z, .string s, .slice none 0 0][i]? := by
        intro i hi
        rw [List.getElem?_append_right (by omega), hl]
        congr 1
        omega
      exact ⟨at_ 0 (by omega), at_ 1 (by omega), at_ 2 (by omega), none, 0, at_ 3 (by omega), .inl rfl⟩
theorem leaf_cells (op z : Int) (s : ByteArray) : ∀ u ∈ [Value.int .i64 op, .int .i64 z, .string s, .slice none 0 0], u.oneCell' = true := by
  intro u hu
  simp only [List.mem_cons, List.not_mem_nil, or_false] at hu
  rcases hu with rfl | rfl | rfl | rfl <;> rfl
set_option maxHeartbeats 8000000 in
theorem l2Bent_any (R p : Nat) (w : World) (h : Rd w R p) (hp : p ≤ 800000) :
    Calls Tryd.prog 21 #[.pointer (some ⟨R, 0, none⟩)] w (DrRet R (p + 2000) 3000 w) := by
  have hlt := h.lt
  have hb0 := (Below.refl w.heap.size w).alloc (Nat.le_refl _) (.cells #[.int .i64 0, .int .i64 0, .string ⟨#[]⟩, .slice none 0 0] 30)
  have D0 := Lib.hid (DrewT.below h hb0)
  have R0 := Lib.hid (Res.new w (.int .i64 0) (.int .i64 0) (.string ⟨#[]⟩) (.slice none 0 0) 30)
  have LX := Lib.hid (l2Any_any R p 4 (by omega) _ (h.keep hb0) (by show p + 124 + 200 ≤ _; omega))
  have HW0 := Lib.hid R0.out.lt
  clear h hb0
  go_enter Tryd.func21, Tryd.ntmps21
  go_wp2_with fail
  refine Calls.mono LX.out ?_
  rintro ee w1 ⟨e1, A1, cc1, rfl, hk1, hbk1, hd1⟩
  have hbk : bulkE e1 ≤ 648 := hbk1
  unfold exV
  have D1 := Lib.hid (D0.out.trans hd1)
  have R1 := Lib.hid (R0.out.touch hd1.2 hlt)
  have K1 := Lib.hid (DrX.of (hk1.wide (lo' := w.heap.size + 1) HW0.out))
  obtain ⟨p1, hp1', hr1⟩ := hd1.1
  have hp1 : p1 ≤ p + 274 := hp1'
  clear hk1 hd1 LX HW0 D0 R0 hbk1 hp1'
  have hR1 : R < w1.heap.size := hr1.lt
  have hR0 : R < w.heap.size + 1 := by omega
  have hb2 := (Below.refl w1.heap.size w1).alloc (Nat.le_refl _) (.cells #[.int .i64 e1.op, .int .i64 e1.n, .string e1.name, .slice A1 e1.kids.length cc1] 30)
  have D2 := Lib.hid (D1.out.step hb2)
  have R2 := Lib.hid (R1.out.touch (Touch.of_below hb2 hR1) hlt)
  have X2 := Lib.hid (Res.new w1 (.int .i64 e1.op) (.int .i64 e1.n) (.string e1.name) (.slice A1 e1.kids.length cc1) 30)
  have K2 := Lib.hid (K1.out.touch (Touch.of_below hb2 hR1) hR0)
  have hr2 := hr1.keep hb2
  have hw1 := R1.out.lt
  clear hb2
  go_wp2_with fail
  generalize w1.alloc (.cells #[.int .i64 e1.op, .int .i64 e1.n, .string e1.name, .slice A1 e1.kids.length cc1] 30) = w2 at *
  have PK := Lib.hid (pick_t R p1 20 w2 hr2 (by omega) (by omega) (by omega))
  clear D1 R1 K1 hr1 hr2
  refine Calls.mono PK.out ?_
  rintro ee w3 ⟨r, hr, rfl, hd3⟩
  have D3 := Lib.hid (D2.out.trans hd3)
  have R3 := Lib.hid (R2.out.touch hd3.2 hlt)
  have X3 := Lib.hid (X2.out.touch hd3.2 hR1)
  have K3 := Lib.hid (K2.out.touch hd3.2 hR0)
  obtain ⟨p3, hp3, hr3⟩ := hd3.1
  have hR3 : R < w3.heap.size := hr3.lt
  have hle : w.heap.size ≤ w1.heap.size := Nat.le_of_lt hw1
  have hq : w.heap.size < w.heap.size + 1 ∨ w.heap.size = w1.heap.size := by omega
  clear hd3 D2 R2 X2 K2 PK
  have hcase : r = 0 ∨ r = 1 ∨ r = 2 ∨ r = 3 ∨ r = 4 ∨ 5 ≤ r := by omega
  rcases hcase with rfl | rfl | rfl | rfl | rfl | h5
  · have NM := Lib.hid (num_t R p3 [-1, 256, 3] w3 3 (0, 0) hr3 (by omega) (by simp) (by simp))
    go_wp2_with fail
    refine Calls.mono NM.out ?_
    rintro ee w4 ⟨z, hz, rfl, hd4⟩
    have R4 := R3.out.touch hd4.2 hlt
    have X4 := X3.out.touch hd4.2 hR1
    have K4 := Lib.hid (K3.out.touch hd4.2 hR0)
    have D4 := Lib.hid ((D3.out.trans hd4).more (show p3 + 1 ≤ p + 2000 by omega))
    obtain ⟨c0, c1, c2, c3⟩ := R4.c
    have f0 := R4.f 0
    have f1 := R4.f 1
    have f2 := R4.f 2
    have f3 := R4.f 3
    obtain ⟨x0, x1, x2, x3⟩ := X4.c
    have g1 := X4.f 1
    skip
    clear hd4 R4 X4 R3 X3 K3 D3 NM hr3 hz
    go_wp2_with fail
    refine bodyPost_ret (v := .agg #[.int .i64 e1.op, .int .i64 z, .string e1.name, .slice A1 e1.kids.length cc1]) (by simp [results, Tryd.results21, go_sem, c0, c1, c2, c3]) rfl ⟨.mk e1.op z e1.name e1.kids, A1, cc1, rfl, ?_, by have h1 := bulkE_kids e1; show ByteArray.size e1.name + bulkL e1.kids ≤ _; omega, ?_⟩
    · exact (((((K4.out.set (.inr rfl) 1 _).set hq 0 _).set hq 1 _).set hq 2 _).set hq 3 _).dr.wide (Nat.le_succ _)
    · exact ((((D4.out.set hle hlt 1 _).set (Nat.le_refl _) hlt 0 _).set (Nat.le_refl _) hlt 1 _).set (Nat.le_refl _) hlt 2 _).set (Nat.le_refl _) hlt 3 _
  · have NM := Lib.hid (oflit_t R p3 bentN w3 9 (0, 0) hr3 (by omega) (by decide) (by decide))
    go_wp2_with fail
    refine Calls.mono NM.out ?_
    rintro ee w4 ⟨z, hz, rfl, hd4⟩
    have R4 := R3.out.touch hd4.2 hlt
    have X4 := X3.out.touch hd4.2 hR1
    have K4 := Lib.hid (K3.out.touch hd4.2 hR0)
    have D4 := Lib.hid ((D3.out.trans hd4).more (show p3 + 1 ≤ p + 2000 by omega))
    obtain ⟨c0, c1, c2, c3⟩ := R4.c
    have f0 := R4.f 0
    have f1 := R4.f 1
    have f2 := R4.f 2
    have f3 := R4.f 3
    obtain ⟨x0, x1, x2, x3⟩ := X4.c
    have g1 := X4.f 2
    have hz8 : z.size ≤ 8 := (show ∀ s ∈ bentN, s.size ≤ 8 by decide) z hz
    clear hd4 R4 X4 R3 X3 K3 D3 NM hr3 hz
    go_wp2_with fail
    refine bodyPost_ret (v := .agg #[.int .i64 e1.op, .int .i64 e1.n, .string z, .slice A1 e1.kids.length cc1]) (by simp [results, Tryd.results21, go_sem, c0, c1, c2, c3]) rfl ⟨.mk e1.op e1.n z e1.kids, A1, cc1, rfl, ?_, by have h1 := bulkE_kids e1; show ByteArray.size z + bulkL e1.kids ≤ _; omega, ?_⟩
    · exact (((((K4.out.set (.inr rfl) 2 _).set hq 0 _).set hq 1 _).set hq 2 _).set hq 3 _).dr.wide (Nat.le_succ _)
    · exact ((((D4.out.set hle hlt 2 _).set (Nat.le_refl _) hlt 0 _).set (Nat.le_refl _) hlt 1 _).set (Nat.le_refl _) hlt 2 _).set (Nat.le_refl _) hlt 3 _
  · have NM := Lib.hid (num_t R p3 [0, 14, -1, 5, 11] w3 3 (0, 0) hr3 (by omega) (by simp) (by simp))
    go_wp2_with fail
    refine Calls.mono NM.out ?_
    rintro ee w4 ⟨z, hz, rfl, hd4⟩
    have R4 := R3.out.touch hd4.2 hlt
    have X4 := X3.out.touch hd4.2 hR1
    have K4 := Lib.hid (K3.out.touch hd4.2 hR0)
    have D4 := Lib.hid ((D3.out.trans hd4).more (show p3 + 1 ≤ p + 2000 by omega))
    obtain ⟨c0, c1, c2, c3⟩ := R4.c
    have f0 := R4.f 0
    have f1 := R4.f 1
    have f2 := R4.f 2
    have f3 := R4.f 3
    obtain ⟨x0, x1, x2, x3⟩ := X4.c
    have g1 := X4.f 0
    skip
    clear hd4 R4 X4 R3 X3 K3 D3 NM hr3 hz
    go_wp2_with fail
    refine bodyPost_ret (v := .agg #[.int .i64 z, .int .i64 e1.n, .string e1.name, .slice A1 e1.kids.length cc1]) (by simp [results, Tryd.results21, go_sem, c0, c1, c2, c3]) rfl ⟨.mk z e1.n e1.name e1.kids, A1, cc1, rfl, ?_, by have h1 := bulkE_kids e1; show ByteArray.size e1.name + bulkL e1.kids ≤ _; omega, ?_⟩
    · exact (((((K4.out.set (.inr rfl) 0 _).set hq 0 _).set hq 1 _).set hq 2 _).set hq 3 _).dr.wide (Nat.le_succ _)
    · exact ((((D4.out.set hle hlt 0 _).set (Nat.le_refl _) hlt 0 _).set (Nat.le_refl _) hlt 1 _).set (Nat.le_refl _) hlt 2 _).set (Nat.le_refl _) hlt 3 _
  · obtain ⟨i0, hi, hz0, hz1, hz2⟩ := info_parts exprInfo
    have hkl : e1.kids.length ≤ 648 := by have h1 := bulkE_kids e1; have h2 := sizeL_bulk e1.kids; have h3 := length_le_sizeL e1.kids; omega
    have HLB := Lib.hid (show (e1.kids.length + 1 ≤ maxLen ∧ (e1.kids.length + 1) * 56 ≤ 140737488355328) from ⟨by unfold maxLen; omega, by omega⟩)
    have LF := Lib.hid (leaf_nil R p3 w3.drew hr3.drew (by omega))
    have K3d := Lib.hid (K3.out.touch (Touch.of_below (Below.refl _ w3).drew hR3) hR0)
    have X3d := Lib.hid (show Res w3.drew w1.heap.size _ _ _ _ from ⟨X3.out.c, X3.out.f, X3.out.lt⟩)
    have R3d := Lib.hid (show Res w3.drew w.heap.size _ _ _ _ from ⟨R3.out.c, R3.out.f, R3.out.lt⟩)
    have D3d := Lib.hid (D3.out.step (Below.refl _ w3).drew)
    obtain ⟨x0, x1, x2, x3⟩ := X3.out.c
    have hne : some w1.heap.size ≠ (Value.slice A1 e1.kids.length cc1).ownBlock := fun e => K3.out.1 e.symm
    have hne0 : some w.heap.size ≠ (Value.slice A1 e1.kids.length cc1).ownBlock := fun e => by have := (K3.out.dr.owned _ e.symm).1; omega
    have HO := Lib.hid (K3.out.dr.owned)
    have hx3 := X3.out.lt
    go_wp2_with fail
    go_region_law (first
      | (refine step_append_lies _ rfl _ _ 28 rfl (w.heap.size + 1) 30 i0 (.agg #[.int .i64 0, .int .i64 0, .string ⟨#[]⟩, .slice none 0 0]) 4 56 Tryd.underlying28 hi hz0 hz1 hz2 rfl (by decide) _ e1.kids.length xs7 rfl HOW.out ⟨w7.heap.size, 0, none⟩ 1 1 [.int .i64 op7, .int .i64 z7, .string s7, .slice none 0 0] rfl rfl HNW.out HTO.out (by decide) HLB.out.1 HLB.out.2 hbz _ rfl ?_; intro g8 cap8 w8 hown8 hgrow8 hat8 hlt8; have X8 := Lib.hid (X7.out.grow hgrow8 hne); have R8 := Lib.hid (R7.out.grow hgrow8 hne0); have H8 := Lib.hid (And.intro hown8 (And.intro hgrow8 hat8)); obtain ⟨k0, k1, k2, k3⟩ := X8.out.c; have f3 := X8.out.f 3; clear hown8 hgrow8 hat8)
      | (go_simp; go_at_call 42; refine Calls.mono LF.out ?_; rintro ee w7 ⟨op7, z7, s7, hs7, rfl, hd7⟩; have hal := (Below.refl w7.heap.size w7).alloc (Nat.le_refl _) (.cells #[.int .i64 op7, .int .i64 z7, .string s7, .slice none 0 0] 30); have hR7 := DrewT.lt hd7; have X6 := Lib.hid (X3d.out.touch hd7.2 hR1); have X7 := Lib.hid (X6.out.touch (Touch.of_below hal hR7) hR1); have R7 := Lib.hid ((R3d.out.touch hd7.2 hlt).touch (Touch.of_below hal hR7) hlt); have V7 := (K3d.out.touch hd7.2 hR0).touch (Touch.of_below hal hR7) hR0; obtain ⟨hq7, xs7, ho7, hx7⟩ := V7; obtain ⟨m0, m1, m2, m3⟩ := X6.out.c; obtain ⟨n0, n1, n2, n3⟩ := X7.out.c; have HOW := Lib.hid ho7; have HX7 := Lib.hid hx7; have HNW := Lib.hid (new_four w7 (.int .i64 op7) (.int .i64 z7) (.string s7) (.slice none 0 0) 30); have HTO := Lib.hid (leaf_cells op7 z7 s7); have HD7 := Lib.hid hd7; have HAL := Lib.hid hal; have HX0 := Lib.hid (Nat.lt_of_lt_of_le hx3 (Nat.le_trans hd7.2.below.size hal.size)); have hbz : w.heap.size + 1 ≤ (w7.alloc (.cells #[.int .i64 op7, .int .i64 z7, .string s7, .slice none 0 0] 30)).heap.size := Nat.le_trans (Nat.le_trans hw1 (Nat.le_of_lt hx3)) (Nat.le_trans hd7.2.below.size hal.size); clear ho7 hx7 hd7 hal))
    all_goals
      obtain ⟨hown8, hgrow8, hat8⟩ := H8.out
      have hv0 : (Value.slice A1 e1.kids.length cc1).ownBlock = some g8 ∨ g8 = (w7.alloc (.cells #[.int .i64 op7, .int .i64 z7, .string s7, .slice none 0 0] 30)).heap.size := hat8
      have SN := Lib.hid (DrX.snoc (w := w7.alloc (.cells #[.int .i64 op7, .int .i64 z7, .string s7, .slice none 0 0] 30)) op7 z7 s7 hq7 HX0.out HX7.out HOW.out.1 rfl hown8 hgrow8 hv0)
      have DG := Lib.hid ((((D3d.out.trans HD7.out).step HAL.out).grow hgrow8 (fun k e => by have := (HO.out k e).1; omega) hlt).more (show p3 + 2 ≤ p + 2000 by omega))
      obtain ⟨c0, c1, c2, c3⟩ := R8.out.c
      have f0 := R8.out.f 0
      have f1 := R8.out.f 1
      have f2 := R8.out.f 2
      have f4 := R8.out.f 3
      clear hown8 hgrow8 hat8 hv0 m0 m1 m2 m3 n0 n1 n2 n3 R8
      go_wp2_with fail
      refine bodyPost_ret (v := .agg #[.int .i64 e1.op, .int .i64 e1.n, .string e1.name, .slice (some ⟨g8, 0, none⟩) (e1.kids.length + 1) cap8]) (by simp [results, Tryd.results21, go_sem, c0, c1, c2, c3]) rfl ⟨.mk e1.op e1.n e1.name (e1.kids ++ [.mk op7 z7 s7 []]), some ⟨g8, 0, none⟩, cap8, by unfold exV; dsimp only [E.op, E.n, E.name, E.kids]; rw [List.length_append]; rfl, ?_, by have h1 := bulkE_kids e1; show e1.name.size + bulkL (e1.kids ++ [.mk op7 z7 s7 []]) ≤ _; rw [bulkL_snoc]; show _ + (_ + (1 + (s7.size + 0))) ≤ _; omega, ?_⟩
      · dsimp only [E.kids]
        rw [List.length_append]
        exact (((((SN.out.set (.inr rfl) 3 _).set hq 0 _).set hq 1 _).set hq 2 _).set hq 3 _).dr.wide (Nat.le_succ _)
      · exact ((((DG.out.set hle hlt 3 _).set (Nat.le_refl _) hlt 0 _).set (Nat.le_refl _) hlt 1 _).set (Nat.le_refl _) hlt 2 _).set (Nat.le_refl _) hlt 3 _
  · have LX := Lib.hid (l2Any_any R p3 7 (by omega) w3 hr3 (by show _ + 1020 + 200 ≤ _; omega))
    go_wp2_with fail
    refine Calls.mono LX.out ?_
    rintro ee w4 ⟨e4, A4, cc4, rfl, hk4, hbk4', hd4⟩
    unfold exV
    have hbk4 : bulkE e4 ≤ 2440 := hbk4'
    have hw3 := X3.out.lt
    have K4 := Lib.hid (DrX.of hk4)
    have R4 := R3.out.touch hd4.2 hlt
    have X4 := X3.out.touch hd4.2 hR1
    have D4 := Lib.hid ((D3.out.trans hd4).more (show p3 + 1020 + 150 ≤ p + 2000 by omega))
    have hk4' := Lib.hid hk4
    obtain ⟨c0, c1, c2, c3⟩ := R4.c
    have f0 := R4.f 0
    have f1 := R4.f 1
    have f2 := R4.f 2
    have f3 := R4.f 3
    obtain ⟨x0, x1, x2, x3⟩ := X4.c
    have g0 := X4.f 0
    have g1 := X4.f 1
    have g2 := X4.f 2
    have g3 := X4.f 3
    clear hd4 R4 X4 R3 X3 K3 D3 LX hr3 hk4 hbk4'
    go_wp2_with fail
    refine bodyPost_ret (v := .agg #[.int .i64 e4.op, .int .i64 e4.n, .string e4.name, .slice A4 e4.kids.length cc4]) (by simp [results, Tryd.results21, go_sem, c0, c1, c2, c3]) rfl ⟨e4, A4, cc4, rfl, ?_, by omega, ?_⟩
    · have hq1 : w1.heap.size < w3.heap.size := hw3
      have hq2 : w.heap.size < w3.heap.size := by omega
      exact ((((((((hk4'.out.set hq1 0 _).set hq1 1 _).set hq1 2 _).set hq1 3 _).set hq2 0 _).set hq2 1 _).set hq2 2 _).set hq2 3 _).wide (Nat.le_of_lt hq2)
    · exact (((((((D4.out.set hle hlt 0 _).set hle hlt 1 _).set hle hlt 2 _).set hle hlt 3 _).set (Nat.le_refl _) hlt 0 _).set (Nat.le_refl _) hlt 1 _).set (Nat.le_refl _) hlt 2 _).set (Nat.le_refl _) hlt 3 _
  · have q0 : ((r : Int) == 0) = false := beq_no (by omega)
    have q1 : ((r : Int) == 1) = false := beq_no (by omega)
    have q2 : ((r : Int) == 2) = false := beq_no (by omega)
    have q3 : ((r : Int) == 3) = false := beq_no (by omega)
    have q4 : ((r : Int) == 4) = false := beq_no (by omega)
    have R4 := R3.out
    have X4 := X3.out
    have D4 := Lib.hid (D3.out.more (show p1 + 1 ≤ p + 2000 by omega))
    obtain ⟨c0, c1, c2, c3⟩ := R4.c
    have f0 := R4.f 0
    have f1 := R4.f 1
    have f2 := R4.f 2
    have f3 := R4.f 3
    obtain ⟨x0, x1, x2, x3⟩ := X4.c
    clear R4 X4 R3 X3 D3 hr3
    go_wp2_with fail
    refine bodyPost_ret (v := .agg #[.int .i64 e1.op, .int .i64 e1.n, .string e1.name, .slice A1 e1.kids.length cc1]) (by simp [results, Tryd.results21, go_sem, c0, c1, c2, c3]) rfl ⟨e1, A1, cc1, rfl, ?_, by omega, ?_⟩
    · exact ((((K3.out.set hq 0 _).set hq 1 _).set hq 2 _).set hq 3 _).dr.wide (Nat.le_succ _)
    · exact (((D4.out.set (Nat.le_refl _) hlt 0 _).set (Nat.le_refl _) hlt 1 _).set (Nat.le_refl _) hlt 2 _).set (Nat.le_refl _) hlt 3 _
end Go.Proofs.YtoepehlndljkoaaDoor
