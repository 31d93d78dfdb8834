/-
  Plain mathematics of statements and programs: their form, how deep they are nested. Nothing of a program stands here.
-/
import Derived.Test.YtkgfamagienfpaaDoorP1
namespace Go.Proofs.YtkgfamagienfpaaDoor

def argN (op : Int) : Nat := if op = 4 then 2 else 1
noncomputable def nameFit (op : Int) (s : ByteArray) : Bool := if op = 1 ∨ op = 2 then nameB s else decide (s.size = 0)
noncomputable def argOk (op : Int) (e : E) : Bool := validE e && (decide (op ≠ 8) || decide (e.op = 13))
noncomputable def argsFit (op : Int) (al : List E) : Bool := decide (al.length = argN op) && al.all (argOk op)
def bodyFit (op : Int) (n : Nat) : Bool := decide (n = 0 ∨ op = 5 ∨ op = 6)
def elseFit (op : Int) (n : Nat) : Bool := decide (n = 0 ∨ op = 5)
/-- What an Op asks of a statement, but for what is in its Body and its Else. -/
noncomputable def restFit (op : Int) (s : ByteArray) (al : List E) (nb ne : Nat) : Bool := nameFit op s && argsFit op al && bodyFit op nb && elseFit op ne
noncomputable def headT (t : St) : Bool := decide (1 ≤ t.op ∧ t.op ≤ 8) && restFit t.op t.name t.args t.body.length t.els.length
/-- A statement that is nested at most so deep. -/
noncomputable def formT : Nat → St → Bool
  | 0, _ => false
  | d + 1, t => headT t && (t.body.all (formT d) && t.els.all (formT d))
theorem formT_succ (d : Nat) (t : St) : formT (d + 1) t = (headT t && (t.body.all (formT d) && t.els.all (formT d))) := rfl
mutual
/-- How deep statements are nested. -/
def nestT : St → Nat
  | .mk _ _ _ b e => 1 + max (nestTL b) (nestTL e)
def nestTL : List St → Nat
  | [] => 0
  | k :: ks => max (nestT k) (nestTL ks)
end
theorem nestT_kids (t : St) : nestT t = 1 + max (nestTL t.body) (nestTL t.els) := by cases t; rfl
theorem nestTL_app : ∀ (a b : List St), nestTL (a ++ b) = max (nestTL a) (nestTL b)
  | [], b => by show nestTL b = max 0 (nestTL b); omega
  | x :: a, b => by show max (nestT x) (nestTL (a ++ b)) = max (max (nestT x) (nestTL a)) (nestTL b); rw [nestTL_app a b]; omega
theorem nestTL_take {ks : List St} {i : Nat} (h : i < ks.length) : nestTL (ks.take (i + 1)) = max (nestTL (ks.take i)) (nestT ks[i]) := by
  rw [List.take_succ_eq_append_getElem h, nestTL_app]; show max _ (max (nestT ks[i]) 0) = _; omega
theorem nestTL_pos {ks : List St} (h : ks ≠ []) : 1 ≤ nestTL ks := by
  cases ks with
  | nil => exact absurd rfl h
  | cons k ks => have := nestT_kids k; show 1 ≤ max (nestT k) (nestTL ks); omega
theorem nestTL_mem : ∀ {ks : List St} {k : St}, k ∈ ks → nestT k ≤ nestTL ks
  | x :: ks, k, h => by
    show nestT k ≤ max (nestT x) (nestTL ks)
    rcases List.mem_cons.1 h with rfl | h
    · omega
    · have := nestTL_mem h; omega
theorem nestTL_take_le (ks : List St) (i : Nat) : nestTL (ks.take i) ≤ nestTL ks := by
  have h := nestTL_app (ks.take i) (ks.drop i)
  rw [List.take_append_drop] at h; omega
mutual
theorem nestT_le : ∀ (t : St), nestT t ≤ sizeT t
  | .mk _ _ _ b e => by have := nestTL_le b; have := nestTL_le e; show 1 + max (nestTL b) (nestTL e) ≤ 1 + sizeTL b + sizeTL e; omega
theorem nestTL_le : ∀ (ks : List St), nestTL ks ≤ sizeTL ks
  | [] => Nat.le_refl _
  | k :: ks => by have := nestT_le k; have := nestTL_le ks; show max (nestT k) (nestTL ks) ≤ sizeT k + sizeTL ks; omega
end
/-- The first i of a list have a property. -/
def allTo {α : Type} (p : α → Bool) (ks : List α) (i : Nat) : Prop := ∀ j, (h : j < ks.length) → j < i → p ks[j] = true
theorem allTo_zero {α : Type} (p : α → Bool) (ks : List α) : allTo p ks 0 := fun j _ hj => absurd hj (by omega)
theorem allTo_succ {α : Type} {p : α → Bool} {ks : List α} {i : Nat} (h : allTo p ks i) (hi : i < ks.length) (hv : p ks[i] = true) : allTo p ks (i + 1) := by
  intro j hj hji
  by_cases e : j = i
  · subst e; exact hv
  · exact h j hj (by omega)
theorem all_of {α : Type} {p : α → Bool} {ks : List α} (h : allTo p ks ks.length) : ks.all p = true := by
  rw [List.all_eq_true]
  intro k hk
  obtain ⟨j, hj, rfl⟩ := List.getElem_of_mem hk
  exact h j hj hj
theorem all_bad {α : Type} {p : α → Bool} {ks : List α} {i : Nat} (hi : i < ks.length) (h : p ks[i] = false) : ks.all p = false := by
  rw [Bool.eq_false_iff]
  intro hall
  have := List.all_eq_true.1 hall _ (List.getElem_mem hi)
  rw [h] at this; cases this
theorem all_get {α : Type} {p : α → Bool} {ks : List α} (h : ks.all p = true) {i : Nat} (hi : i < ks.length) : p ks[i] = true := List.all_eq_true.1 h _ (List.getElem_mem hi)

/-- A function that is one; a program that is one. -/
noncomputable def headF (f : Fu) : Bool := nameB f.name && (decide (f.params.length ≤ 3) && f.params.all nameB)
noncomputable def fnB (f : Fu) : Bool := headF f && f.body.all (formT 4)
def countP : List Fu → Nat
  | [] => 0
  | f :: l => sizeTL f.body + countP l
theorem countP_app : ∀ (a b : List Fu), countP (a ++ b) = countP a + countP b
  | [], b => by show countP b = 0 + countP b; omega
  | x :: a, b => by show sizeTL x.body + countP (a ++ b) = sizeTL x.body + countP a + countP b; rw [countP_app a b]; omega
theorem countP_take {ks : List Fu} {i : Nat} (h : i < ks.length) : countP (ks.take (i + 1)) = countP (ks.take i) + sizeTL ks[i].body := by
  rw [List.take_succ_eq_append_getElem h, countP_app]; show _ + (sizeTL ks[i].body + 0) = _; omega
theorem countP_take_le (ks : List Fu) (i : Nat) : countP (ks.take i) ≤ countP ks := by
  have h := countP_app (ks.take i) (ks.drop i)
  rw [List.take_append_drop] at h; omega
theorem countP_bulk : ∀ (p : List Fu), countP p ≤ bulkFL p
  | [] => Nat.le_refl _
  | f :: l => by have := countP_bulk l; have := sizeTL_bulk f.body; show sizeTL f.body + countP l ≤ 1 + (f.name.size + bulkS f.params + bulkTL f.body) + bulkFL l; omega
def nestP : List Fu → Nat
  | [] => 0
  | f :: l => max (nestTL f.body) (nestP l)
theorem nestP_app : ∀ (a b : List Fu), nestP (a ++ b) = max (nestP a) (nestP b)
  | [], b => by show nestP b = max 0 (nestP b); omega
  | x :: a, b => by show max (nestTL x.body) (nestP (a ++ b)) = max (max (nestTL x.body) (nestP a)) (nestP b); rw [nestP_app a b]; omega
theorem nestP_take {ks : List Fu} {i : Nat} (h : i < ks.length) : nestP (ks.take (i + 1)) = max (nestP (ks.take i)) (nestTL ks[i].body) := by
  rw [List.take_succ_eq_append_getElem h, nestP_app]; show max _ (max (nestTL ks[i].body) 0) = _; omega
theorem nestP_le : ∀ (p : List Fu), nestP p ≤ countP p
  | [] => Nat.le_refl _
  | f :: l => by have := nestP_le l; have := nestTL_le f.body; show max (nestTL f.body) (nestP l) ≤ sizeTL f.body + countP l; omega
noncomputable def progB (p : List Fu) : Bool := decide (1 ≤ p.length ∧ p.length ≤ 4) && (p.all fnB && decide (countP p ≤ 40))
end Go.Proofs.YtkgfamagienfpaaDoor
