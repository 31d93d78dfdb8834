/-
  Plain mathematics of expressions: their parts, how deep they lie, their form. Nothing of a program stands here.
-/
import Derived.Test.YtoepehlndljkoaaDoorMath
namespace Go.Proofs.YtoepehlndljkoaaDoor

/-- An expression. -/
inductive E where
  | mk (op n : Int) (name : ByteArray) (kids : List E)
def E.op : E → Int | .mk o _ _ _ => o
def E.n : E → Int | .mk _ n _ _ => n
def E.name : E → ByteArray | .mk _ _ s _ => s
def E.kids : E → List E | .mk _ _ _ ks => ks
theorem E.eta (e : E) : E.mk e.op e.n e.name e.kids = e := by cases e; rfl
theorem E.ext {a b : E} (h1 : a.op = b.op) (h2 : a.n = b.n) (h3 : a.name = b.name) (h4 : a.kids = b.kids) : a = b := by
  rw [← E.eta a, ← E.eta b, h1, h2, h3, h4]
instance : Inhabited E := ⟨.mk 0 0 ⟨#[]⟩ []⟩
/-- The expression that is nothing. -/
def E.none : E := .mk 0 0 ⟨#[]⟩ []
mutual
/-- How many parts an expression has. -/
def sizeE : E → Nat
  | .mk _ _ _ ks => 1 + sizeL ks
def sizeL : List E → Nat
  | [] => 0
  | k :: ks => sizeE k + sizeL ks
end
mutual
/-- How deep an expression is. -/
def deepE : E → Nat
  | .mk _ _ _ ks => deepL ks + 1
def deepL : List E → Nat
  | [] => 0
  | k :: ks => max (deepE k) (deepL ks)
end
theorem sizeE_kids (e : E) : sizeE e = 1 + sizeL e.kids := by cases e; rfl
theorem sizeE_pos (e : E) : 0 < sizeE e := by rw [sizeE_kids]; omega
theorem deepE_kids (e : E) : deepE e = deepL e.kids + 1 := by cases e; rfl
theorem sizeL_mem : ∀ {ks : List E} {k : E}, k ∈ ks → sizeE k ≤ sizeL ks
  | x :: ks, k, h => by
    show sizeE k ≤ sizeE x + sizeL ks
    rcases List.mem_cons.1 h with rfl | h
    · omega
    · have := sizeL_mem h; omega
theorem sizeL_get {ks : List E} {i : Nat} (h : i < ks.length) : sizeE ks[i] ≤ sizeL ks := sizeL_mem (List.getElem_mem h)
theorem deepL_mem : ∀ {ks : List E} {k : E}, k ∈ ks → deepE k ≤ deepL ks
  | x :: ks, k, h => by
    show deepE k ≤ max (deepE x) (deepL ks)
    rcases List.mem_cons.1 h with rfl | h
    · omega
    · have := deepL_mem h; omega
theorem sizeL_app : ∀ (a b : List E), sizeL (a ++ b) = sizeL a + sizeL b
  | [], b => by show sizeL b = 0 + sizeL b; omega
  | x :: a, b => by show sizeE x + sizeL (a ++ b) = sizeE x + sizeL a + sizeL b; rw [sizeL_app a b]; omega
theorem deepL_app : ∀ (a b : List E), deepL (a ++ b) = max (deepL a) (deepL b)
  | [], b => by show deepL b = max 0 (deepL b); omega
  | x :: a, b => by show max (deepE x) (deepL (a ++ b)) = max (max (deepE x) (deepL a)) (deepL b); rw [deepL_app a b]; omega
theorem sizeL_one (e : E) : sizeL [e] = sizeE e := rfl
theorem deepL_one (e : E) : deepL [e] = deepE e := by show max (deepE e) 0 = _; omega
theorem sizeL_take {ks : List E} {i : Nat} (h : i < ks.length) : sizeL (ks.take (i + 1)) = sizeL (ks.take i) + sizeE ks[i] := by
  rw [List.take_succ_eq_append_getElem h, sizeL_app, sizeL_one]
theorem deepL_take {ks : List E} {i : Nat} (h : i < ks.length) : deepL (ks.take (i + 1)) = max (deepL (ks.take i)) (deepE ks[i]) := by
  rw [List.take_succ_eq_append_getElem h, deepL_app, deepL_one]
theorem sizeL_take_le (ks : List E) (i : Nat) : sizeL (ks.take i) ≤ sizeL ks := by
  have h := sizeL_app (ks.take i) (ks.drop i)
  rw [List.take_append_drop] at h; omega
theorem deepL_take_le (ks : List E) (i : Nat) : deepL (ks.take i) ≤ deepL ks := by
  have h := deepL_app (ks.take i) (ks.drop i)
  rw [List.take_append_drop] at h; omega
theorem length_le_sizeL : ∀ (ks : List E), ks.length ≤ sizeL ks
  | [] => Nat.le_refl _
  | k :: ks => by have := length_le_sizeL ks; have := sizeE_pos k; show ks.length + 1 ≤ sizeE k + sizeL ks; omega
mutual
theorem deepE_le : ∀ (e : E), deepE e ≤ sizeE e
  | .mk _ _ _ ks => by have := deepL_le ks; show deepL ks + 1 ≤ 1 + sizeL ks; omega
theorem deepL_le : ∀ (ks : List E), deepL ks ≤ sizeL ks
  | [] => Nat.le_refl _
  | k :: ks => by have := deepE_le k; have := deepL_le ks; show max (deepE k) (deepL ks) ≤ sizeE k + sizeL ks; omega
end
/-- Induction over expressions. -/
theorem E.ind {P : E → Prop} (h : ∀ e : E, (∀ k ∈ e.kids, P k) → P e) : ∀ e, P e := by
  have main : ∀ N e, sizeE e ≤ N → P e := by
    intro N
    induction N with
    | zero => intro e he; have := sizeE_pos e; omega
    | succ N ih =>
      intro e he
      refine h e (fun k hk => ih k ?_)
      have := sizeL_mem hk
      rw [sizeE_kids] at he
      omega
  exact fun e => main _ e (Nat.le_refl _)

/-- What an op asks of an expression, but for what is in its Kids. -/
noncomputable def fitB (op n : Int) (s : ByteArray) (len : Nat) : Bool :=
  if op = 1 then decide (0 ≤ n ∧ n ≤ 255 ∧ s.size = 0 ∧ len = 0)
  else if op = 2 then decide (n = 0 ∧ len = 0) && nameB s
  else if op = 13 then decide (n = 0 ∧ len ≤ 3) && nameB s
  else if op = 11 ∨ op = 12 then decide (n = 0 ∧ s.size = 0 ∧ len = 1)
  else if 3 ≤ op ∧ op ≤ 10 then decide (n = 0 ∧ s.size = 0 ∧ len = 2)
  else false
/-- All parts fit, and it is at most so deep. -/
noncomputable def formE : Nat → E → Bool
  | 0, _ => false
  | d + 1, e => fitB e.op e.n e.name e.kids.length && e.kids.all (formE d)
/-- It is an expression. -/
noncomputable def validE (e : E) : Bool := formE 6 e && decide (sizeE e ≤ 30)
theorem formE_succ (d : Nat) (e : E) : formE (d + 1) e = (fitB e.op e.n e.name e.kids.length && e.kids.all (formE d)) := rfl
theorem formE_fit {d : Nat} {e : E} (h : formE d e = true) : fitB e.op e.n e.name e.kids.length = true := by
  cases d with
  | zero => cases h
  | succ d => rw [formE_succ, Bool.and_eq_true] at h; exact h.1
theorem formE_kid {d : Nat} {e k : E} (h : formE (d + 1) e = true) (hk : k ∈ e.kids) : formE d k = true := by
  rw [formE_succ, Bool.and_eq_true] at h
  exact List.all_eq_true.1 h.2 k hk
theorem formE_unfit {d : Nat} {e : E} (h : fitB e.op e.n e.name e.kids.length = false) : formE d e = false := by
  cases d with
  | zero => rfl
  | succ d => rw [formE_succ, h, Bool.false_and]
/-- The first i Kids have the form. -/
def kidsTo (d : Nat) (ks : List E) (i : Nat) : Prop := ∀ j, (h : j < ks.length) → j < i → formE d ks[j] = true
theorem kidsTo_succ {d : Nat} {ks : List E} {i : Nat} (h : kidsTo d ks i) (hi : i < ks.length) (hv : formE d ks[i] = true) : kidsTo d ks (i + 1) := by
  intro j hj hji
  by_cases e : j = i
  · subst e; exact hv
  · exact h j hj (by omega)
theorem kidsTo_zero (d : Nat) (ks : List E) : kidsTo d ks 0 := fun j _ hj => absurd hj (by omega)
theorem formE_yes {d : Nat} {e : E} (hf : fitB e.op e.n e.name e.kids.length = true) (h : kidsTo d e.kids e.kids.length) : formE (d + 1) e = true := by
  rw [formE_succ, hf, Bool.true_and, List.all_eq_true]
  intro k hk
  obtain ⟨j, hj, rfl⟩ := List.getElem_of_mem hk
  exact h j hj hj
theorem formE_bad {d : Nat} {e : E} {i : Nat} (hi : i < e.kids.length) (h : formE d e.kids[i] = false) : formE (d + 1) e = false := by
  rw [formE_succ, Bool.and_eq_false_iff]
  right
  rw [Bool.eq_false_iff]
  intro hall
  have := List.all_eq_true.1 hall _ (List.getElem_mem hi)
  rw [h] at this; cases this
theorem fitB_len {op n : Int} {s : ByteArray} {len : Nat} (h : fitB op n s len = true) : len ≤ 3 := by
  unfold fitB at h
  split at h
  · simp at h; omega
  split at h
  · simp at h; omega
  split at h
  · simp at h; omega
  split at h
  · simp at h; omega
  split at h
  · simp at h; omega
  · cases h
theorem deep_of_form : ∀ (d : Nat) (e : E), formE d e = true → deepE e ≤ d
  | 0, e, h => by cases h
  | d + 1, e, h => by
    rw [deepE_kids]
    have : ∀ ks : List E, (∀ k ∈ ks, formE d k = true) → deepL ks ≤ d := by
      intro ks
      induction ks with
      | nil => intro _; exact Nat.zero_le _
      | cons k ks ih =>
        intro h
        have h1 := deep_of_form d k (h k (List.mem_cons_self ..))
        have h2 := ih (fun x hx => h x (List.mem_cons_of_mem _ hx))
        show max (deepE k) (deepL ks) ≤ d
        omega
    have := this e.kids (fun k hk => formE_kid h hk)
    omega
theorem form_more : ∀ (d : Nat) (e : E), formE d e = true → formE (d + 1) e = true
  | 0, e, h => by cases h
  | d + 1, e, h => by
    rw [formE_succ, Bool.and_eq_true]
    exact ⟨formE_fit h, List.all_eq_true.2 fun k hk => form_more d k (formE_kid h hk)⟩
theorem form_mono {d d' : Nat} {e : E} (hd : d ≤ d') (h : formE d e = true) : formE d' e = true := by
  induction hd with
  | refl => exact h
  | step _ ih => exact form_more _ _ ih
/-- The form, however deep, and the depth are apart. -/
theorem form_deep : ∀ (d d' : Nat) (e : E), formE d e = true → deepE e ≤ d' → formE d' e = true
  | 0, _, e, h, _ => by cases h
  | d + 1, 0, e, _, h => by rw [deepE_kids] at h; omega
  | d + 1, d' + 1, e, h, hd => by
    rw [deepE_kids] at hd
    rw [formE_succ, Bool.and_eq_true]
    refine ⟨formE_fit h, List.all_eq_true.2 fun k hk => form_deep d d' k (formE_kid h hk) ?_⟩
    have := deepL_mem hk
    omega
theorem validE_form {e : E} (h : validE e = true) : formE 6 e = true := by unfold validE at h; rw [Bool.and_eq_true] at h; exact h.1
theorem validE_size {e : E} (h : validE e = true) : sizeE e ≤ 30 := by unfold validE at h; rw [Bool.and_eq_true, decide_eq_true_eq] at h; exact h.2
theorem validE_deep {e : E} (h : validE e = true) : deepE e ≤ 6 := deep_of_form 6 e (validE_form h)
end Go.Proofs.YtoepehlndljkoaaDoor
