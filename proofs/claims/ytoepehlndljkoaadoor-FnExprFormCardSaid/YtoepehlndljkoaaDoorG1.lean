/-
  Expressions in memory, with what is known of their blocks; what they hold, summed up. Nothing of a program stands here.
-/
import Derived.Test.YtoepehlndljkoaaDoorEX
namespace Go.Proofs.YtoepehlndljkoaaDoor
open Go.RowKit

/-- Cells from a place on that read as Kids; the blocks to which they lead are of a kind. -/
def PdC (w : World) (S : Nat → Prop) : List E → Nat → Nat → Prop
  | [], _, _ => True
  | .mk op n s ks' :: ks, b, o =>
    (w.cell? ⟨b, o, none⟩ = some (.int .i64 op) ∧ w.cell? ⟨b, o + 1, none⟩ = some (.int .i64 n) ∧ w.cell? ⟨b, o + 2, none⟩ = some (.string s)) ∧
    (∃ A cap, w.cell? ⟨b, o + 3, none⟩ = some (.slice A ks'.length cap) ∧ (ks' = [] ∨ ∃ b' o', A = some ⟨b', o', none⟩ ∧ S b' ∧ PdC w S ks' b' o')) ∧ PdC w S ks b (o + 4)
def PdS (w : World) (S : Nat → Prop) (ks : List E) (A : Option Addr) : Prop := ks = [] ∨ ∃ b o, A = some ⟨b, o, none⟩ ∧ S b ∧ PdC w S ks b o
def PdAt (w : World) (S : Nat → Prop) (e : E) (b o : Nat) : Prop :=
  (w.cell? ⟨b, o, none⟩ = some (.int .i64 e.op) ∧ w.cell? ⟨b, o + 1, none⟩ = some (.int .i64 e.n) ∧ w.cell? ⟨b, o + 2, none⟩ = some (.string e.name)) ∧
    ∃ A cap, w.cell? ⟨b, o + 3, none⟩ = some (.slice A e.kids.length cap) ∧ PdS w S e.kids A
theorem PdC_cons (w : World) (S : Nat → Prop) (e : E) (ks : List E) (b o : Nat) : PdC w S (e :: ks) b o ↔ PdAt w S e b o ∧ PdC w S ks b (o + 4) := by
  obtain ⟨op, n, s, ks'⟩ := e
  unfold PdAt PdS
  rw [PdC]
  simp only [E.op, E.n, E.name, E.kids, and_assoc]
theorem PdC.get {w : World} {S : Nat → Prop} : ∀ {ks : List E} {b o : Nat}, PdC w S ks b o → ∀ {i : Nat} (h : i < ks.length), PdAt w S ks[i] b (o + i * 4)
  | [], _, _, _, i, h => absurd h (by simp)
  | e :: ks, b, o, hr, 0, _ => by
    rw [PdC_cons] at hr
    have e1 : o + 0 * 4 = o := by omega
    rw [e1]; exact hr.1
  | e :: ks, b, o, hr, i + 1, h => by
    rw [PdC_cons] at hr
    have := PdC.get hr.2 (i := i) (by simpa using h)
    have e1 : o + 4 + i * 4 = o + (i + 1) * 4 := by omega
    rw [e1] at this
    exact this
theorem PdC.mk {w : World} {S : Nat → Prop} : ∀ {ks : List E} {b o : Nat}, (∀ i, (h : i < ks.length) → PdAt w S ks[i] b (o + i * 4)) → PdC w S ks b o
  | [], _, _, _ => by rw [PdC]; trivial
  | e :: ks, b, o, h => by
    rw [PdC_cons]
    refine ⟨?_, PdC.mk fun i hi => ?_⟩
    · have := h 0 (by simp)
      have e1 : o + 0 * 4 = o := by omega
      rw [e1] at this; exact this
    have := h (i + 1) (by simpa using hi)
    have e1 : o + (i + 1) * 4 = o + 4 + i * 4 := by omega
    rw [e1] at this
    exact this
theorem pd_keep {w w' : World} {S S' : Nat → Prop} (hc : ∀ b o, S b → w'.cell? ⟨b, o, none⟩ = w.cell? ⟨b, o, none⟩) (hB : ∀ b, S b → S' b) : ∀ (N : Nat) (ks : List E) (A : Option Addr), sizeL ks ≤ N → PdS w S ks A → PdS w' S' ks A := by
  intro N
  induction N with
  | zero =>
    intro ks A hN h
    cases ks with
    | nil => exact .inl rfl
    | cons k ks => have := sizeE_pos k; have : sizeL (k :: ks) = sizeE k + sizeL ks := rfl; omega
  | succ N ih =>
    intro ks A hN h
    rcases h with h | ⟨b, o, e, hb, hr⟩
    · exact .inl h
    · refine .inr ⟨b, o, e, hB _ hb, PdC.mk fun i hi => ?_⟩
      obtain ⟨⟨c0, c1, c2⟩, A', cap, c3, hr'⟩ := hr.get hi
      refine ⟨⟨(hc _ _ hb).trans c0, (hc _ _ hb).trans c1, (hc _ _ hb).trans c2⟩, A', cap, (hc _ _ hb).trans c3, ih _ _ ?_ hr'⟩
      have := sizeL_get hi
      rw [sizeE_kids] at this
      omega
theorem PdS.keep {w w' : World} {S S' : Nat → Prop} {ks : List E} {A : Option Addr} (h : PdS w S ks A) (hc : ∀ b o, S b → w'.cell? ⟨b, o, none⟩ = w.cell? ⟨b, o, none⟩) (hB : ∀ b, S b → S' b) : PdS w' S' ks A :=
  pd_keep hc hB _ _ _ (Nat.le_refl _) h
theorem pd_rd {w : World} {S : Nat → Prop} {B : Nat} (hB : ∀ b, S b → b < B) : ∀ (N : Nat) (ks : List E) (A : Option Addr), sizeL ks ≤ N → PdS w S ks A → RdS w B ks A := by
  intro N
  induction N with
  | zero =>
    intro ks A hN h
    cases ks with
    | nil => exact .inl rfl
    | cons k ks => have := sizeE_pos k; have : sizeL (k :: ks) = sizeE k + sizeL ks := rfl; omega
  | succ N ih =>
    intro ks A hN h
    rcases h with h | ⟨b, o, e, hb, hr⟩
    · exact .inl h
    · refine .inr ⟨b, o, e, hB _ hb, RdC.mk fun i hi => ?_⟩
      obtain ⟨c, A', cap, c3, hr'⟩ := hr.get hi
      refine ⟨c, A', cap, c3, ih _ _ ?_ hr'⟩
      have := sizeL_get hi
      rw [sizeE_kids] at this
      omega
theorem PdS.rd {w : World} {S : Nat → Prop} {B : Nat} {ks : List E} {A : Option Addr} (h : PdS w S ks A) (hB : ∀ b, S b → b < B) : RdS w B ks A := pd_rd hB _ _ _ (Nat.le_refl _) h

/-- A block of cells that no string shares. -/
def Flat (w : World) (b : Nat) : Prop := ∃ cs t, w.heap[b]? = some (.cells cs t (0, 0))
theorem Flat.below {w w' : World} {B b : Nat} (h : Flat w b) (hb : Below B w w') (hlt : b < B) : Flat w' b := by
  obtain ⟨cs, t, h⟩ := h
  exact ⟨cs, t, by rw [hb.block b hlt]; exact h⟩
theorem Flat.set {w : World} {b : Nat} (h : Flat w b) (p : Addr) (v : Value) : Flat (w.setCell p v) b := by
  obtain ⟨cs, t, h⟩ := h
  unfold Flat World.setCell
  dsimp only
  by_cases e : p.block = b
  · subst e
    rw [Array.getElem?_modify, if_pos rfl, h]
    exact ⟨_, _, rfl⟩
  · rw [Array.getElem?_modify, if_neg e]
    exact ⟨cs, t, h⟩
/-- The blocks that a call has made. -/
def Between (w : World) (lo hi : Nat) (b : Nat) : Prop := lo ≤ b ∧ b < hi ∧ Flat w b
theorem PdS.between_rd {w : World} {lo : Nat} {ks : List E} {A : Option Addr} (h : PdS w (Between w lo w.heap.size) ks A) : RdS w w.heap.size ks A := h.rd fun _ h => h.2.1
theorem PdS.later {w w' : World} {lo hi : Nat} {ks : List E} {A : Option Addr} (h : PdS w (Between w lo hi) ks A) (hb : Below hi w w') {lo' hi' : Nat} (h1 : lo' ≤ lo) (h2 : hi ≤ hi') : PdS w' (Between w' lo' hi') ks A :=
  h.keep (fun b _ h => hb.cell (p := ⟨b, _, none⟩) h.2.1) (fun _ h => ⟨Nat.le_trans h1 h.1, Nat.lt_of_lt_of_le h.2.1 h2, h.2.2.below hb h.2.1⟩)
/-- A block ahead of all others is written. -/
theorem PdS.set' {w : World} {lo hi : Nat} {ks : List E} {A : Option Addr} (h : PdS w (Between w lo hi) ks A) {g : Nat} (hg : g < lo) (o : Nat) (v : Value) : PdS (w.setCell ⟨g, o, none⟩ v) (Between (w.setCell ⟨g, o, none⟩ v) lo hi) ks A :=
  h.keep (fun b o' h => World.cell?_setCell_other _ _ _ _ (by intro e; injection e with e; have := h.1; omega)) (fun _ h => ⟨h.1, h.2.1, h.2.2.set _ _⟩)
theorem PdS.set {w : World} {g hi : Nat} {ks : List E} {A : Option Addr} (h : PdS w (Between w (g + 1) hi) ks A) (o : Nat) (v : Value) : PdS (w.setCell ⟨g, o, none⟩ v) (Between (w.setCell ⟨g, o, none⟩ v) (g + 1) hi) ks A :=
  h.set' (Nat.lt_succ_self g) o v
theorem PdS.wide {w : World} {lo hi lo' hi' : Nat} {ks : List E} {A : Option Addr} (h : PdS w (Between w lo hi) ks A) (h1 : lo' ≤ lo) (h2 : hi ≤ hi') : PdS w (Between w lo' hi') ks A :=
  h.keep (fun _ _ _ => rfl) (fun _ h => ⟨Nat.le_trans h1 h.1, Nat.lt_of_lt_of_le h.2.1 h2, h.2.2⟩)

mutual
/-- All names and lists are such as memory holds. -/
def SmE : E → Prop
  | .mk _ _ s ks => s.size ≤ maxLen ∧ ks.length ≤ maxLen ∧ SmL ks
def SmL : List E → Prop
  | [] => True
  | k :: ks => SmE k ∧ SmL ks
end
theorem SmL_mem : ∀ {ks : List E} {k : E}, SmL ks → k ∈ ks → SmE k
  | x :: ks, k, h, hk => by
    rw [SmL] at h
    rcases List.mem_cons.1 hk with rfl | hk
    · exact h.1
    · exact SmL_mem h.2 hk
theorem SmL_mk : ∀ {ks : List E}, (∀ k ∈ ks, SmE k) → SmL ks
  | [], _ => by rw [SmL]; trivial
  | x :: ks, h => by rw [SmL]; exact ⟨h x (by simp), SmL_mk fun k hk => h k (by simp [hk])⟩
theorem SmE_mk (e : E) : SmE e ↔ e.name.size ≤ maxLen ∧ e.kids.length ≤ maxLen ∧ SmL e.kids := by cases e; rw [SmE]; rfl
mutual
theorem SmE_of_bulk : ∀ (e : E), bulkE e ≤ 1048576 → SmE e
  | .mk _ _ s ks, h => by
    have h : s.size + bulkL ks ≤ 1048576 := h
    have := sizeL_bulk ks
    have := length_le_sizeL ks
    rw [SmE]; exact ⟨by unfold maxLen; omega, by unfold maxLen; omega, SmL_of_bulk ks (by omega)⟩
theorem SmL_of_bulk : ∀ (ks : List E), bulkL ks ≤ 1048576 → SmL ks
  | [], _ => by rw [SmL]; trivial
  | k :: ks, h => by
    have h : 1 + bulkE k + bulkL ks ≤ 1048576 := h
    rw [SmL]; exact ⟨SmE_of_bulk k (by omega), SmL_of_bulk ks (by omega)⟩
end
theorem bulkL_drop (ks : List E) (i : Nat) : ks.length - i ≤ bulkL (ks.drop i) := by
  have h1 := length_le_sizeL (ks.drop i)
  have h2 := sizeL_bulk (ks.drop i)
  rw [List.length_drop] at h1
  omega
theorem bulkL_rest (ks : List E) (i : Nat) : bulkL (ks.take i) + (ks.length - i) ≤ bulkL ks := by
  have h := bulkL_app (ks.take i) (ks.drop i)
  rw [List.take_append_drop] at h
  have := bulkL_drop ks i
  omega
/-- What szExpr returns. -/
def szR (left : Int) (b : Nat) : Int := if left < b then -1 else left - b
theorem szR_no {b : Nat} (h : 1048576 < b) : szR 1048576 b = -1 := if_pos (by omega)
theorem szR_yes {b : Nat} (h : ¬ 1048576 < b) : szR 1048576 b = 1048576 - b := if_neg (by omega)
end Go.Proofs.YtoepehlndljkoaaDoor
