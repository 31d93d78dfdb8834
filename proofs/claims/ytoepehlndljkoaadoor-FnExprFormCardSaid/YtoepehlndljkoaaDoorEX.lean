/-
  Expressions in memory: a slice of Kids that reads as a list. Nothing of a program stands here.
-/
import Derived.Test.YtoepehlndljkoaaDoorEM
import Derived.Below
import Derived.Laws.AppendOwn
namespace Go.Proofs.YtoepehlndljkoaaDoor
open Go.RowKit

/-- Cells from a place on that read as Kids; all that they lead to lies below block B. -/
def RdC (w : World) (B : Nat) : List E → Nat → Nat → Prop
  | [], _, _ => True
  | .mk op n s ks' :: ks, b, o =>
    (w.cell? ⟨b, o, none⟩ = some (.int .i64 op) ∧ w.cell? ⟨b, o + 1, none⟩ = some (.int .i64 n) ∧ w.cell? ⟨b, o + 2, none⟩ = some (.string s)) ∧
    (∃ A cap, w.cell? ⟨b, o + 3, none⟩ = some (.slice A ks'.length cap) ∧ (ks' = [] ∨ ∃ b' o', A = some ⟨b', o', none⟩ ∧ b' < B ∧ RdC w B ks' b' o')) ∧ RdC w B ks b (o + 4)
/-- A slice of Kids that reads as a list. -/
def RdS (w : World) (B : Nat) (ks : List E) (A : Option Addr) : Prop := ks = [] ∨ ∃ b o, A = some ⟨b, o, none⟩ ∧ b < B ∧ RdC w B ks b o
/-- An expression as a value. -/
def exV (e : E) (A : Option Addr) (cap : Nat) : Value := .agg #[.int .i64 e.op, .int .i64 e.n, .string e.name, .slice A e.kids.length cap]
/-- A place that reads as an expression. -/
def RdAt (w : World) (B : Nat) (e : E) (b o : Nat) : Prop :=
  (w.cell? ⟨b, o, none⟩ = some (.int .i64 e.op) ∧ w.cell? ⟨b, o + 1, none⟩ = some (.int .i64 e.n) ∧ w.cell? ⟨b, o + 2, none⟩ = some (.string e.name)) ∧
    ∃ A cap, w.cell? ⟨b, o + 3, none⟩ = some (.slice A e.kids.length cap) ∧ RdS w B e.kids A
theorem RdC_cons (w : World) (B : Nat) (e : E) (ks : List E) (b o : Nat) : RdC w B (e :: ks) b o ↔ RdAt w B e b o ∧ RdC w B ks b (o + 4) := by
  obtain ⟨op, n, s, ks'⟩ := e
  unfold RdAt RdS
  rw [RdC]
  simp only [E.op, E.n, E.name, E.kids, and_assoc]
theorem RdC.get {w : World} {B : Nat} : ∀ {ks : List E} {b o : Nat}, RdC w B ks b o → ∀ {i : Nat} (h : i < ks.length), RdAt w B ks[i] b (o + i * 4)
  | [], _, _, _, i, h => absurd h (by simp)
  | e :: ks, b, o, hr, 0, _ => by
    rw [RdC_cons] at hr
    have e1 : o + 0 * 4 = o := by omega
    rw [e1]; exact hr.1
  | e :: ks, b, o, hr, i + 1, h => by
    rw [RdC_cons] at hr
    have := RdC.get hr.2 (i := i) (by simpa using h)
    have e1 : o + 4 + i * 4 = o + (i + 1) * 4 := by omega
    rw [e1] at this
    exact this
theorem RdC.mk {w : World} {B : Nat} : ∀ {ks : List E} {b o : Nat}, (∀ i, (h : i < ks.length) → RdAt w B ks[i] b (o + i * 4)) → RdC w B ks b o
  | [], _, _, _ => by rw [RdC]; trivial
  | e :: ks, b, o, h => by
    rw [RdC_cons]
    refine ⟨?_, RdC.mk fun i hi => ?_⟩
    · have := h 0 (by simp)
      have e1 : o + 0 * 4 = o := by omega
      rw [e1] at this; exact this
    have := h (i + 1) (by simpa using hi)
    have e1 : o + (i + 1) * 4 = o + 4 + i * 4 := by omega
    rw [e1] at this
    exact this
theorem RdS.at_ {w : World} {B : Nat} {ks : List E} {A : Option Addr} (h : RdS w B ks A) {i : Nat} (hi : i < ks.length) : ∃ b o, A = some ⟨b, o, none⟩ ∧ b < B ∧ RdAt w B ks[i] b (o + i * 4) := by
  rcases h with rfl | ⟨b, o, e, hb, hr⟩
  · exact absurd hi (by simp)
  · exact ⟨b, o, e, hb, hr.get hi⟩
theorem RdS.nil {w : World} {B : Nat} {A : Option Addr} : RdS w B [] A := .inl rfl
/-- What is told of Kids, told of their lists. -/
theorem rd_keep {w w' : World} {B : Nat} (hc : ∀ b o, b < B → w'.cell? ⟨b, o, none⟩ = w.cell? ⟨b, o, none⟩) {B' : Nat} (hB : B ≤ B') : ∀ (N : Nat) (ks : List E) (A : Option Addr), sizeL ks ≤ N → RdS w B ks A → RdS w' B' ks A := by
  intro N
  induction N with
  | zero =>
    intro ks A hN h
    cases ks with
    | nil => exact .inl rfl
    | cons k ks => have := sizeE_pos k; have : sizeL (k :: ks) = sizeE k + sizeL ks := rfl; omega
  | succ N ih =>
    intro ks A hN h
    rcases h with h | ⟨b, o, e, hb, hr⟩
    · exact .inl h
    · refine .inr ⟨b, o, e, by omega, RdC.mk fun i hi => ?_⟩
      obtain ⟨⟨c0, c1, c2⟩, A', cap, c3, hr'⟩ := hr.get hi
      refine ⟨⟨(hc _ _ hb).trans c0, (hc _ _ hb).trans c1, (hc _ _ hb).trans c2⟩, A', cap, (hc _ _ hb).trans c3, ih _ _ ?_ hr'⟩
      have := sizeL_get hi
      rw [sizeE_kids] at this
      omega
theorem RdS.below {w w' : World} {B : Nat} {ks : List E} {A : Option Addr} (h : RdS w B ks A) (hb : Below B w w') : RdS w' B ks A :=
  rd_keep (fun b _ h => hb.cell (p := ⟨b, _, none⟩) h) (Nat.le_refl _) _ _ _ (Nat.le_refl _) h
theorem RdS.more {w : World} {B B' : Nat} {ks : List E} {A : Option Addr} (h : RdS w B ks A) (hB : B ≤ B') : RdS w B' ks A :=
  rd_keep (fun _ _ _ => rfl) hB _ _ _ (Nat.le_refl _) h
theorem RdS.on {w w' : World} {B : Nat} {ks : List E} {A : Option Addr} (h : RdS w B ks A) (hb : Below B w w') (hB : B ≤ w'.heap.size) : RdS w' w'.heap.size ks A := (h.below hb).more hB
theorem RdAt.below {w w' : World} {B : Nat} {e : E} {b o : Nat} (h : RdAt w B e b o) (hb : Below B w w') (h0 : b < B) : RdAt w' B e b o := by
  obtain ⟨⟨c0, c1, c2⟩, A', cap, c3, hr'⟩ := h
  exact ⟨⟨(hb.cell (p := ⟨b, _, none⟩) h0).trans c0, (hb.cell (p := ⟨b, _, none⟩) h0).trans c1, (hb.cell (p := ⟨b, _, none⟩) h0).trans c2⟩, A', cap, (hb.cell (p := ⟨b, _, none⟩) h0).trans c3, hr'.below hb⟩
mutual
/-- What an expression holds: bytes of names and lengths of lists. -/
def bulkE : E → Nat
  | .mk _ _ s ks => s.size + bulkL ks
def bulkL : List E → Nat
  | [] => 0
  | k :: ks => 1 + bulkE k + bulkL ks
end
theorem bulkE_kids (e : E) : bulkE e = e.name.size + bulkL e.kids := by cases e; rfl
theorem bulkL_mem : ∀ {ks : List E} {k : E}, k ∈ ks → bulkE k + 1 ≤ bulkL ks
  | x :: ks, k, h => by
    show bulkE k + 1 ≤ 1 + bulkE x + bulkL ks
    rcases List.mem_cons.1 h with rfl | h
    · omega
    · have := bulkL_mem h; omega
theorem bulkL_app : ∀ (a b : List E), bulkL (a ++ b) = bulkL a + bulkL b
  | [], b => by show bulkL b = 0 + bulkL b; omega
  | x :: a, b => by show 1 + bulkE x + bulkL (a ++ b) = 1 + bulkE x + bulkL a + bulkL b; rw [bulkL_app a b]; omega
theorem bulkL_take {ks : List E} {i : Nat} (h : i < ks.length) : bulkL (ks.take (i + 1)) = bulkL (ks.take i) + (1 + bulkE ks[i]) := by
  rw [List.take_succ_eq_append_getElem h, bulkL_app]; show _ + (1 + bulkE ks[i] + 0) = _; omega
mutual
theorem sizeE_bulk : ∀ (e : E), sizeE e ≤ 1 + bulkE e
  | .mk _ _ s ks => by have := sizeL_bulk ks; show 1 + sizeL ks ≤ 1 + (s.size + bulkL ks); omega
theorem sizeL_bulk : ∀ (ks : List E), sizeL ks ≤ bulkL ks
  | [] => Nat.le_refl _
  | k :: ks => by have := sizeE_bulk k; have := sizeL_bulk ks; show sizeE k + sizeL ks ≤ 1 + bulkE k + bulkL ks; omega
end
end Go.Proofs.YtoepehlndljkoaaDoor
