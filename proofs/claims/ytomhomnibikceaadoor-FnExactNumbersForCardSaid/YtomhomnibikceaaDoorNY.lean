/-
  Numbers that are written over others: what has a shape keeps it. Nothing of a program stands here.
-/
import Derived.Test.YtomhomnibikceaaDoorNA
namespace Go.Proofs.YtomhomnibikceaaDoor
open Go.RowKit

/-- Of the blocks of a kind cells that hold numbers hold numbers still, all others what they held; blocks not of the kind are as they were. -/
structure Soft (lo hi : Nat) (w w' : World) : Prop where
  below : Below lo w w'
  nums : ∀ (a : Addr) (n : Int), w.cell? a = some (.int .i64 n) → ∃ n', w'.cell? a = some (.int .i64 n')
  slices : ∀ (a : Addr) (A : Option Addr) (l c : Nat), w.cell? a = some (.slice A l c) → w'.cell? a = some (.slice A l c)
  flat : ∀ b, Flat w b → Flat w' b
  same : ∀ b, b < w.heap.size → ¬ (lo ≤ b ∧ b < hi) → w'.heap[b]? = w.heap[b]?
theorem Soft.refl (lo hi : Nat) (w : World) : Soft lo hi w w := ⟨Below.refl _ _, fun _ n h => ⟨n, h⟩, fun _ _ _ _ h => h, fun _ h => h, fun _ _ _ => rfl⟩
theorem Soft.trans {lo hi : Nat} {a b c : World} (h : Soft lo hi a b) (k : Soft lo hi b c) : Soft lo hi a c :=
  ⟨h.below.trans k.below, fun x n e => by obtain ⟨n', e'⟩ := h.nums x n e; exact k.nums x n' e', fun x A l c e => k.slices x A l c (h.slices x A l c e), fun x e => k.flat x (h.flat x e),
    fun x e1 e2 => (k.same x (Nat.lt_of_lt_of_le e1 h.below.size) e2).trans (h.same x e1 e2)⟩
/-- A number is written over a number. -/
theorem Soft.put {lo hi : Nat} {w : World} {b o : Nat} (h1 : lo ≤ b) (h2 : b < hi) {n : Int} (hc : w.cell? ⟨b, o, none⟩ = some (.int .i64 n)) (m : Int) : Soft lo hi w (w.setCell ⟨b, o, none⟩ (.int .i64 m)) := by
  refine ⟨(Below.refl _ _).setCell (p := ⟨b, o, none⟩) h1 _, fun a k e => ?_, fun a A l c e => ?_, fun x h => h.set _ _, fun x _ hx => ?_⟩
  · by_cases h : a = ⟨b, o, none⟩
    · subst h; exact ⟨m, World.cell?_setCell_same _ _ _ hc⟩
    · exact ⟨k, (World.cell?_setCell_other _ _ _ _ (fun e => h e.symm)).trans e⟩
  · by_cases h : a = ⟨b, o, none⟩
    · subst h; rw [hc] at e; cases e
    · exact (World.cell?_setCell_other _ _ _ _ (fun e => h e.symm)).trans e
  · show (w.heap.modify b _)[x]? = _
    rw [Array.getElem?_modify, if_neg (by intro e; subst e; exact hx ⟨h1, h2⟩)]
/-- Nothing but new blocks. -/
theorem Soft.of_below {lo hi : Nat} {w w' : World} (h : Below w.heap.size w w') (hl : lo ≤ w.heap.size) : Soft lo hi w w' :=
  ⟨h.mono hl, fun a n e => ⟨n, (h.cell (p := a) (World.block_lt_of_cell? w a e)).trans e⟩, fun a A l c e => (h.cell (p := a) (World.block_lt_of_cell? w a e)).trans e,
    fun b ⟨cs, t, e⟩ => ⟨cs, t, by rw [h.block b (Array.getElem?_eq_some_iff.1 e).1]; exact e⟩, fun b hb _ => h.block b hb⟩
/-- Numbers in a row, whatever they are; blocks of a kind. -/
def NumW (w : World) (lo hi n : Nat) (A : Option Addr) : Prop := n = 0 ∨ ∃ b o, A = some ⟨b, o, none⟩ ∧ Between w lo hi b ∧ ∀ i, i < n → ∃ x, w.cell? ⟨b, o + i, none⟩ = some (.int .i64 x)
theorem NumW.soft {w w' : World} {lo hi n : Nat} {A : Option Addr} (h : NumW w lo hi n A) (s : Soft lo hi w w') : NumW w' lo hi n A := by
  rcases h with h | ⟨b, o, e, hb, hc⟩
  · exact .inl h
  · exact .inr ⟨b, o, e, ⟨hb.1, hb.2.1, s.flat b hb.2.2⟩, fun i hi => by obtain ⟨x, hx⟩ := hc i hi; exact s.nums _ x hx⟩
theorem NumS.numW {w : World} {lo hi : Nat} {xs : List Int} {A : Option Addr} (h : NumS w (Between w lo hi) xs A) : NumW w lo hi xs.length A := by
  rcases h with rfl | ⟨b, o, e, hb, hc⟩
  · exact .inl rfl
  · exact .inr ⟨b, o, e, hb, fun i hi => ⟨_, by have := hc i hi; rw [Nat.mul_one] at this; exact this⟩⟩
theorem flatFree {w : World} {b : Nat} (h : Flat w b) (o : Nat) : w.frozen? ⟨b, o, none⟩ = false := by
  obtain ⟨cs, t, h⟩ := h
  exact frozen_of_row w b o cs t h
def PhW (w : World) (lo hi : Nat) (n : Nat) (A : Option Addr) : Prop := n = 0 ∨ ∃ b o, A = some ⟨b, o, none⟩ ∧ Between w lo hi b ∧ ∀ i, i < n → (∃ x, w.cell? ⟨b, o + i * 2, none⟩ = some (.int .i64 x)) ∧ ∃ A' l c, w.cell? ⟨b, o + i * 2 + 1, none⟩ = some (.slice A' l c) ∧ l ≤ 1048576 ∧ NumW w lo hi l A'
def IkW (w : World) (lo hi : Nat) (n : Nat) (A : Option Addr) : Prop := n = 0 ∨ ∃ b o, A = some ⟨b, o, none⟩ ∧ Between w lo hi b ∧ ∀ i, i < n → (∃ x, w.cell? ⟨b, o + i * 4, none⟩ = some (.int .i64 x)) ∧ (∃ x, w.cell? ⟨b, o + i * 4 + 1, none⟩ = some (.int .i64 x)) ∧ (∃ A' l c, w.cell? ⟨b, o + i * 4 + 2, none⟩ = some (.slice A' l c) ∧ l ≤ 1048576 ∧ NumW w lo hi l A') ∧ ∃ x, w.cell? ⟨b, o + i * 4 + 3, none⟩ = some (.int .i64 x)
theorem PhW.soft {w w' : World} {lo hi n : Nat} {A : Option Addr} (h : PhW w lo hi n A) (s : Soft lo hi w w') : PhW w' lo hi n A := by
  rcases h with h | ⟨b, o, e, hb, hc⟩
  · exact .inl h
  · refine .inr ⟨b, o, e, ⟨hb.1, hb.2.1, s.flat b hb.2.2⟩, fun i hi => ?_⟩
    obtain ⟨⟨x, hx⟩, A', l, c, h1, h2, h3⟩ := hc i hi
    exact ⟨s.nums _ x hx, A', l, c, s.slices _ _ _ _ h1, h2, h3.soft s⟩
theorem IkW.soft {w w' : World} {lo hi n : Nat} {A : Option Addr} (h : IkW w lo hi n A) (s : Soft lo hi w w') : IkW w' lo hi n A := by
  rcases h with h | ⟨b, o, e, hb, hc⟩
  · exact .inl h
  · refine .inr ⟨b, o, e, ⟨hb.1, hb.2.1, s.flat b hb.2.2⟩, fun i hi => ?_⟩
    obtain ⟨⟨x, hx⟩, ⟨y, hy⟩, ⟨A', l, c, h1, h2, h3⟩, z, hz⟩ := hc i hi
    exact ⟨s.nums _ x hx, s.nums _ y hy, ⟨A', l, c, s.slices _ _ _ _ h1, h2, h3.soft s⟩, s.nums _ z hz⟩
theorem PhS.phW {w : World} {lo hi : Nat} {xs : List Ph} {A : Option Addr} (h : PhS w (Between w lo hi) xs A) (hn : bulkR bulkPh xs ≤ 1048576) : PhW w lo hi xs.length A := by
  rcases h with rfl | ⟨b, o, e, hb, hc⟩
  · exact .inl rfl
  · refine .inr ⟨b, o, e, hb, fun i hi => ?_⟩
    obtain ⟨h0, A', c, h1, h2⟩ := hc i hi
    have := bulkR_mem (f := bulkPh) (List.getElem_mem hi)
    exact ⟨⟨_, h0⟩, A', _, c, h1, by unfold bulkPh at this hn; omega, h2.numW⟩
theorem IkS.ikW {w : World} {lo hi : Nat} {xs : List Ik} {A : Option Addr} (h : IkS w (Between w lo hi) xs A) (hn : bulkR bulkIk xs ≤ 1048576) : IkW w lo hi xs.length A := by
  rcases h with rfl | ⟨b, o, e, hb, hc⟩
  · exact .inl rfl
  · refine .inr ⟨b, o, e, hb, fun i hi => ?_⟩
    obtain ⟨h0, h1, ⟨A', c, h2, h3⟩, h4⟩ := hc i hi
    have := bulkR_mem (f := bulkIk) (List.getElem_mem hi)
    exact ⟨⟨_, h0⟩, ⟨_, h1⟩, ⟨A', _, c, h2, by unfold bulkIk at this hn; omega, h3.numW⟩, ⟨_, h4⟩⟩
def BkW (w : World) (lo hi : Nat) (n : Nat) (A : Option Addr) : Prop := n = 0 ∨ ∃ b o, A = some ⟨b, o, none⟩ ∧ Between w lo hi b ∧ ∀ i, i < n →
  (∃ A' l c, w.cell? ⟨b, o + i * 5, none⟩ = some (.slice A' l c) ∧ l ≤ 1048576 ∧ PhW w lo hi l A') ∧ (∃ A' l c, w.cell? ⟨b, o + i * 5 + 1, none⟩ = some (.slice A' l c) ∧ l ≤ 1048576 ∧ IkW w lo hi l A') ∧
  (∃ x, w.cell? ⟨b, o + i * 5 + 2, none⟩ = some (.int .i64 x)) ∧ (∃ x, w.cell? ⟨b, o + i * 5 + 3, none⟩ = some (.int .i64 x)) ∧ ∃ A' l c, w.cell? ⟨b, o + i * 5 + 4, none⟩ = some (.slice A' l c) ∧ l ≤ 1048576 ∧ NumW w lo hi l A'
theorem BkW.soft {w w' : World} {lo hi n : Nat} {A : Option Addr} (h : BkW w lo hi n A) (s : Soft lo hi w w') : BkW w' lo hi n A := by
  rcases h with h | ⟨b, o, e, hb, hc⟩
  · exact .inl h
  · refine .inr ⟨b, o, e, ⟨hb.1, hb.2.1, s.flat b hb.2.2⟩, fun i hi => ?_⟩
    obtain ⟨⟨A0, l0, c0, p0, q0, r0⟩, ⟨A1, l1, c1, p1, q1, r1⟩, ⟨x, hx⟩, ⟨y, hy⟩, A4, l4, c4, p4, q4, r4⟩ := hc i hi
    exact ⟨⟨A0, l0, c0, s.slices _ _ _ _ p0, q0, r0.soft s⟩, ⟨A1, l1, c1, s.slices _ _ _ _ p1, q1, r1.soft s⟩, s.nums _ x hx, s.nums _ y hy, A4, l4, c4, s.slices _ _ _ _ p4, q4, r4.soft s⟩
theorem BkS.bkW {w : World} {lo hi : Nat} {xs : List Bk} {A : Option Addr} (h : BkS w (Between w lo hi) xs A) (hn : bulkR bulkBk xs ≤ 1048576) : BkW w lo hi xs.length A := by
  rcases h with rfl | ⟨b, o, e, hb, hc⟩
  · exact .inl rfl
  · refine .inr ⟨b, o, e, hb, fun i hi => ?_⟩
    obtain ⟨⟨A0, c0, p0, r0⟩, ⟨A1, c1, p1, r1⟩, p2, p3, A4, c4, p4, r4⟩ := hc i hi
    have := bulkR_mem (f := bulkBk) (List.getElem_mem hi)
    have hb : bulkBk xs[i] = bulkR bulkPh xs[i].phis + bulkR bulkIk xs[i].ins + xs[i].next.length := rfl
    have l0 := length_le_bulkR bulkPh xs[i].phis
    have l1 := length_le_bulkR bulkIk xs[i].ins
    exact ⟨⟨A0, _, c0, p0, by omega, r0.phW (by omega)⟩, ⟨A1, _, c1, p1, by omega, r1.ikW (by omega)⟩, ⟨_, p2⟩, ⟨_, p3⟩, A4, _, c4, p4, by omega, r4.numW⟩
end Go.Proofs.YtomhomnibikceaaDoor
