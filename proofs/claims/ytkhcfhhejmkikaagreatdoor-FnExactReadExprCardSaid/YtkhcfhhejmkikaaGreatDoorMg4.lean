/-
  Plain mathematics of reading back: an expression is read from its words. Nothing of a program stands here.
-/
import Derived.Test.YtkhcfhhejmkikaaGreatDoorMg3
import Derived.Lib.ItoaNum
namespace Go.Proofs.YtkhcfhhejmkikaaGreatDoor
open Go.RowKit

theorem cutRes_inv {s : ByteArray} {ws : List (Int × ByteArray)} (h : cutRes s = (ws, true)) : s.size ≤ 3000 ∧ cutF s 0 = some ws ∧ ws.length ≤ 600 := by
  unfold cutRes at h
  split at h
  · simp at h
  · split at h
    · rename_i ws' hc
      split at h
      · rename_i hl
        injection h with h1 h2
        subst h1
        exact ⟨by omega, hc, hl⟩
      · simp at h
    · simp at h
theorem cutRes_off {s : ByteArray} {ws : List (Int × ByteArray)} (h : cutRes s = (ws, false)) : ws = [] ∧ (s.size ≤ 3000 → ∀ us, cutF s 0 = some us → 600 < us.length) := by
  unfold cutRes at h
  split at h
  · injection h with h1 h2
    exact ⟨h1.symm, fun h' => by omega⟩
  · split at h
    · rename_i ws' hc
      split at h
      · simp at h
      · rename_i hl
        injection h with h1 h2
        exact ⟨h1.symm, fun _ us hu => by rw [hc] at hu; injection hu with hu; subst hu; omega⟩
    · rename_i hc
      injection h with h1 h2
      exact ⟨h1.symm, fun _ us hu => by rw [hc] at hu; cases hu⟩

theorem takeWhile_all (p : UInt8 → Bool) : ∀ l : List UInt8, (∀ x ∈ l, p x = true) → l.takeWhile p = l ∧ l.dropWhile p = []
  | [], _ => ⟨rfl, rfl⟩
  | a :: r, h => by
    have ih := takeWhile_all p r (fun x hx => h x (List.mem_cons_of_mem _ hx))
    have ha := h a (List.mem_cons_self ..)
    rw [List.takeWhile_cons, List.dropWhile_cons, if_pos ha, if_pos ha, ih.1, ih.2]
    exact ⟨rfl, rfl⟩
theorem cutL_run {t : ByteArray} {b : UInt8} {r : List UInt8} {c z : Int} (ht : t.data.toList = b :: r) (hc : c ≠ 4 ∧ c ≠ 0) (h0 : cls b.toNat = c) (hr : r = [] ∨ (c < 3 ∧ ∀ x ∈ r, cls x.toNat = c))
    (hz : wordKind t c = z) (hv : validB z t = true) : cutL t.data.toList = some [(z, t)] := by
  have hp : ∀ x ∈ r, goCls c x = true := by
    intro x hx
    rcases hr with rfl | ⟨h3, hr⟩
    · cases hx
    · unfold goCls
      rw [hr x hx, decide_eq_true h3]
      simp
  have hw := takeWhile_all (goCls c) r hp
  have ht' : (⟨(b :: r).toArray⟩ : ByteArray) = t := by rw [← ht]
  rw [ht, cutL_cons, h0, hw.1, hw.2, ht', hz, if_neg hc.1, if_pos ⟨hc.2, hv⟩, cutL_nil]
  rfl
theorem nonempty_cons {t : ByteArray} (h : 0 < t.size) : ∃ b r, t.data.toList = b :: r ∧ ∀ (h0 : 0 < t.size), t[0] = b := by
  have hl := len_list t
  cases hd : t.data.toList with
  | nil => rw [hd, List.length_nil] at hl; omega
  | cons b r =>
    refine ⟨b, r, rfl, fun h0 => ?_⟩
    have e : t[0] = t.data.toList[0]'(by rw [hl]; exact h0) := rfl
    rw [e]
    simp [hd]
theorem key_letters : ∀ k, k < 9 → ∀ x ∈ (keyB k).data.toList, cls x.toNat = 1 := by decide +kernel
theorem isDig_cls {x : UInt8} (h : isDig x = true) : cls x.toNat = 2 := by
  unfold isDig at h
  simp only [decide_eq_true_eq] at h
  have h1 : 48 ≤ x.toNat := by simpa using h.1
  have h2 : x.toNat ≤ 57 := by simpa using h.2
  exact cls_digit h1 h2
open Classical in
theorem cutL_one {z : Int} {t : ByteArray} (h : validB z t = true) : cutL t.data.toList = some [(z, t)] := by
  have hv := h
  have nokey : ∀ {b : UInt8} {r : List UInt8}, t.data.toList = b :: r → cls b.toNat ≠ 1 → isKeyB t = false := by
    intro b r ht hb
    rw [Bool.eq_false_iff]
    intro hk
    obtain ⟨h0, hc⟩ := key_letter hk
    obtain ⟨b', r', ht', hg⟩ := nonempty_cons h0
    rw [ht] at ht'
    injection ht' with e1 e2
    rw [hg h0, ← e1] at hc
    exact hb hc
  unfold validB at h
  split at h
  · subst_vars
    unfold nameB at h
    simp only [Bool.and_eq_true, decide_eq_true_eq, Bool.not_eq_true'] at h
    obtain ⟨⟨ha, _⟩, hk⟩ := h
    unfold allB at ha
    replace ha := of_decide_eq_true ha
    obtain ⟨b, r, ht, hg⟩ := nonempty_cons ha.1
    have hall : ∀ x ∈ t.data.toList, cls x.toNat = 1 := by
      intro x hx
      obtain ⟨j, hj, rfl⟩ := mem_iff_get.1 hx
      exact ha.2 j hj hj
    rw [ht] at hall
    exact cutL_run ht ⟨by decide, by decide⟩ (hall b (List.mem_cons_self ..)) (.inr ⟨by decide, fun x hx => hall x (List.mem_cons_of_mem _ hx)⟩) (by unfold wordKind; rw [hk]; rfl) hv
  · split at h
    · subst_vars
      rw [decide_eq_true_eq] at h
      unfold numB at h
      split at h
      · rename_i hc
        have hcan := hc.1
        unfold canon at hcan
        simp only [Bool.and_eq_true] at hcan
        have hall : ∀ x ∈ t.data.toList, cls x.toNat = 2 := fun x hx => isDig_cls (List.all_eq_true.1 hcan.1.2 x hx)
        have h0 : 0 < t.size := by
          rw [← len_list]
          cases hd : t.data.toList with
          | nil => rw [hd] at hcan; simp at hcan
          | cons _ _ => simp
        obtain ⟨b, r, ht, hg⟩ := nonempty_cons h0
        rw [ht] at hall
        have hb := hall b (List.mem_cons_self ..)
        exact cutL_run ht ⟨by decide, by decide⟩ hb (.inr ⟨by decide, fun x hx => hall x (List.mem_cons_of_mem _ hx)⟩) (by unfold wordKind; rw [nokey ht (by omega)]; rfl) hv
      · omega
    · split at h
      · subst_vars
        unfold signB at h
        split at h
        · rename_i h1
          rw [beq_iff_eq] at h
          obtain ⟨b, r, ht, hg⟩ := nonempty_cons (t := t) (by omega)
          rw [hg] at h
          have hr : r = [] := by
            have := len_list t
            rw [ht, List.length_cons] at this
            exact List.eq_nil_of_length_eq_zero (by omega)
          exact cutL_run ht ⟨by decide, by decide⟩ h (.inl hr) (by unfold wordKind; rw [nokey ht (by omega)]; rfl) hv
        · cases h
      · split at h
        · subst_vars
          obtain ⟨h0, _⟩ := key_letter h
          obtain ⟨b, r, ht, hg⟩ := nonempty_cons h0
          have hall : ∀ x ∈ t.data.toList, cls x.toNat = 1 := by
            obtain ⟨k, hk, rfl⟩ := (isKeyB_iff t).1 h
            exact key_letters k hk
          rw [ht] at hall
          exact cutL_run ht ⟨by decide, by decide⟩ (hall b (List.mem_cons_self ..)) (.inr ⟨by decide, fun x hx => hall x (List.mem_cons_of_mem _ hx)⟩) (by unfold wordKind; rw [h]; rfl) hv
        · cases h

theorem cutL_join {ws : List (Int × ByteArray)} (hv : ∀ x ∈ ws, validB x.1 x.2 = true) : ∀ k, k ≤ ws.length → cutL (joinB (ws.take k)) = some (ws.take k)
  | 0, _ => by simp [joinB_nil, cutL_nil]
  | k + 1, hk => by
    have h1 := cutL_one (hv _ (List.getElem_mem (show k < ws.length by omega)))
    by_cases h0 : k = 0
    · subst h0
      rw [joinB_first (by omega), h1, List.take_succ_eq_append_getElem (by omega)]
      simp
    · rw [joinB_next (by omega) (by omega), cutL_two _ _ (Nat.le_refl _) 32 _ (by decide), cutL_join hv k (by omega), h1, List.take_succ_eq_append_getElem (by omega)]
      rfl
/-- How long words are with a blank behind each. -/
def totalW (ws : List (Int × ByteArray)) : Nat := (ws.map (fun x => x.2.size + 1)).sum
theorem totalW_cons (x : Int × ByteArray) (ws : List (Int × ByteArray)) : totalW (x :: ws) = x.2.size + 1 + totalW ws := by simp [totalW]
theorem totalW_snoc (x : Int × ByteArray) (ws : List (Int × ByteArray)) : totalW (ws ++ [x]) = totalW ws + (x.2.size + 1) := by simp [totalW]
theorem cutL_total : ∀ (n : Nat) (l : List UInt8) (ws : List (Int × ByteArray)), l.length ≤ n → cutL l = some ws → totalW ws ≤ 2 * l.length := by
  intro n
  induction n with
  | zero =>
    intro l ws hl h
    have : l = [] := List.eq_nil_of_length_eq_zero (by omega)
    subst this
    rw [cutL_nil] at h
    injection h with h
    subst h
    simp [totalW]
  | succ n ih =>
    intro l ws hl h
    cases l with
    | nil =>
      rw [cutL_nil] at h
      injection h with h
      subst h
      simp [totalW]
    | cons b r =>
      rw [List.length_cons] at hl ⊢
      rw [cutL_cons] at h
      split at h
      · have := ih r ws (by omega) h
        omega
      · split at h
        · have hd := dropWhile_le (goCls (cls b.toNat)) r
          have hs : (r.takeWhile (goCls (cls b.toNat))).length + (r.dropWhile (goCls (cls b.toNat))).length = r.length := by
            rw [← List.length_append, List.takeWhile_append_dropWhile]
          rw [Option.map_eq_some_iff] at h
          obtain ⟨us, hu, rfl⟩ := h
          have := ih _ us (by omega) hu
          rw [totalW_cons]
          show (b :: r.takeWhile (goCls (cls b.toNat))).toArray.size + 1 + totalW us ≤ _
          rw [List.size_toArray, List.length_cons]
          omega
        · cases h
theorem joinB_total {ws : List (Int × ByteArray)} : ∀ k, k ≤ ws.length → (joinB (ws.take k)).length ≤ totalW (ws.take k)
  | 0, _ => by simp [joinB_nil]
  | k + 1, hk => by
    have ih := joinB_total k (show k ≤ ws.length by omega)
    have e := len_list (ws[k]'(by omega)).2
    rw [List.take_succ_eq_append_getElem (by omega), totalW_snoc]
    rw [← List.take_succ_eq_append_getElem (by omega)]
    by_cases h0 : k = 0
    · subst h0
      rw [joinB_first (by omega), e]
      omega
    · rw [joinB_next (by omega) (by omega), List.length_append, List.length_cons, e]
      omega
theorem plain_yes {s : ByteArray} {ws : List (Int × ByteArray)} (h : cutRes s = (ws, true)) :
    ∃ x, plainF s = (x, true) ∧ cutRes x = (ws, true) ∧ plainF x = (x, true) ∧ x.size ≤ 2 * s.size ∧ x.size ≤ 3000 := by
  obtain ⟨_, hc, hl⟩ := cutRes_inv h
  have hv : ∀ x ∈ ws, validB x.1 x.2 = true := by have := cutRes_valid s; rw [h] at this; exact this
  have hvt : validTo ws ws.length := fun j hj _ => hv _ (List.getElem_mem hj)
  have hj := joinF_yes hl hvt
  have ht : ws.take ws.length = ws := List.take_of_length_le (Nat.le_refl _)
  have hsz : (⟨(joinB ws).toArray⟩ : ByteArray).size = (joinB ws).length := by show (joinB ws).toArray.size = _; simp
  have h5 := joinB_len ws.length (Nat.le_refl _) hvt
  have hto := joinB_total (ws := ws) ws.length (Nat.le_refl _)
  have hcl := cutL_join hv ws.length (Nat.le_refl _)
  rw [ht] at h5 hto hcl
  have h2 := cutL_total _ _ ws (Nat.le_refl _) (by rw [← cut_list]; exact hc)
  rw [len_list] at h2
  have hcx : cutRes ⟨(joinB ws).toArray⟩ = (ws, true) := cutRes_yes (by rw [hsz]; omega) (by rw [cut_list]; simpa using hcl) hl
  refine ⟨⟨(joinB ws).toArray⟩, ?_, hcx, ?_, by rw [hsz]; omega, by rw [hsz]; omega⟩
  · unfold plainF; rw [h]; exact hj
  · unfold plainF; rw [hcx]; exact hj
theorem plain_no {s : ByteArray} {ws : List (Int × ByteArray)} (h : cutRes s = (ws, false)) : plainF s = (⟨#[]⟩, false) := by
  unfold plainF; rw [h]; rfl
end Go.Proofs.YtkhcfhhejmkikaaGreatDoor

namespace Go.Proofs.YtkhcfhhejmkikaaGreatDoor

/-- An expression. -/
inductive E where
  | mk (op n : Int) (name : ByteArray) (kids : List E)
def E.op : E → Int | .mk o _ _ _ => o
def E.n : E → Int | .mk _ n _ _ => n
def E.name : E → ByteArray | .mk _ _ s _ => s
def E.kids : E → List E | .mk _ _ _ ks => ks
theorem E.eta (e : E) : E.mk e.op e.n e.name e.kids = e := by cases e; rfl
theorem E.ext {a b : E} (h1 : a.op = b.op) (h2 : a.n = b.n) (h3 : a.name = b.name) (h4 : a.kids = b.kids) : a = b := by
  rw [← E.eta a, ← E.eta b, h1, h2, h3, h4]
instance : Inhabited E := ⟨.mk 0 0 ⟨#[]⟩ []⟩
/-- The expression that is nothing. -/
def E.none : E := .mk 0 0 ⟨#[]⟩ []
mutual
/-- How many parts an expression has. -/
def sizeE : E → Nat
  | .mk _ _ _ ks => 1 + sizeL ks
def sizeL : List E → Nat
  | [] => 0
  | k :: ks => sizeE k + sizeL ks
end
mutual
/-- How deep an expression is. -/
def deepE : E → Nat
  | .mk _ _ _ ks => deepL ks + 1
def deepL : List E → Nat
  | [] => 0
  | k :: ks => max (deepE k) (deepL ks)
end
theorem sizeE_kids (e : E) : sizeE e = 1 + sizeL e.kids := by cases e; rfl
theorem sizeE_pos (e : E) : 0 < sizeE e := by rw [sizeE_kids]; omega
theorem deepE_kids (e : E) : deepE e = deepL e.kids + 1 := by cases e; rfl
theorem sizeL_mem : ∀ {ks : List E} {k : E}, k ∈ ks → sizeE k ≤ sizeL ks
  | x :: ks, k, h => by
    show sizeE k ≤ sizeE x + sizeL ks
    rcases List.mem_cons.1 h with rfl | h
    · omega
    · have := sizeL_mem h; omega
theorem sizeL_get {ks : List E} {i : Nat} (h : i < ks.length) : sizeE ks[i] ≤ sizeL ks := sizeL_mem (List.getElem_mem h)
theorem deepL_mem : ∀ {ks : List E} {k : E}, k ∈ ks → deepE k ≤ deepL ks
  | x :: ks, k, h => by
    show deepE k ≤ max (deepE x) (deepL ks)
    rcases List.mem_cons.1 h with rfl | h
    · omega
    · have := deepL_mem h; omega
theorem sizeL_app : ∀ (a b : List E), sizeL (a ++ b) = sizeL a + sizeL b
  | [], b => by show sizeL b = 0 + sizeL b; omega
  | x :: a, b => by show sizeE x + sizeL (a ++ b) = sizeE x + sizeL a + sizeL b; rw [sizeL_app a b]; omega
theorem deepL_app : ∀ (a b : List E), deepL (a ++ b) = max (deepL a) (deepL b)
  | [], b => by show deepL b = max 0 (deepL b); omega
  | x :: a, b => by show max (deepE x) (deepL (a ++ b)) = max (max (deepE x) (deepL a)) (deepL b); rw [deepL_app a b]; omega
theorem sizeL_one (e : E) : sizeL [e] = sizeE e := rfl
theorem deepL_one (e : E) : deepL [e] = deepE e := by show max (deepE e) 0 = _; omega
theorem sizeL_take {ks : List E} {i : Nat} (h : i < ks.length) : sizeL (ks.take (i + 1)) = sizeL (ks.take i) + sizeE ks[i] := by
  rw [List.take_succ_eq_append_getElem h, sizeL_app, sizeL_one]
theorem deepL_take {ks : List E} {i : Nat} (h : i < ks.length) : deepL (ks.take (i + 1)) = max (deepL (ks.take i)) (deepE ks[i]) := by
  rw [List.take_succ_eq_append_getElem h, deepL_app, deepL_one]
theorem sizeL_take_le (ks : List E) (i : Nat) : sizeL (ks.take i) ≤ sizeL ks := by
  have h := sizeL_app (ks.take i) (ks.drop i)
  rw [List.take_append_drop] at h; omega
theorem deepL_take_le (ks : List E) (i : Nat) : deepL (ks.take i) ≤ deepL ks := by
  have h := deepL_app (ks.take i) (ks.drop i)
  rw [List.take_append_drop] at h; omega
theorem length_le_sizeL : ∀ (ks : List E), ks.length ≤ sizeL ks
  | [] => Nat.le_refl _
  | k :: ks => by have := length_le_sizeL ks; have := sizeE_pos k; show ks.length + 1 ≤ sizeE k + sizeL ks; omega
mutual
theorem deepE_le : ∀ (e : E), deepE e ≤ sizeE e
  | .mk _ _ _ ks => by have := deepL_le ks; show deepL ks + 1 ≤ 1 + sizeL ks; omega
theorem deepL_le : ∀ (ks : List E), deepL ks ≤ sizeL ks
  | [] => Nat.le_refl _
  | k :: ks => by have := deepE_le k; have := deepL_le ks; show max (deepE k) (deepL ks) ≤ sizeE k + sizeL ks; omega
end
/-- Induction over expressions. -/
theorem E.ind {P : E → Prop} (h : ∀ e : E, (∀ k ∈ e.kids, P k) → P e) : ∀ e, P e := by
  have main : ∀ N e, sizeE e ≤ N → P e := by
    intro N
    induction N with
    | zero => intro e he; have := sizeE_pos e; omega
    | succ N ih =>
      intro e he
      refine h e (fun k hk => ih k ?_)
      have := sizeL_mem hk
      rw [sizeE_kids] at he
      omega
  exact fun e => main _ e (Nat.le_refl _)

/-- What an op asks of an expression, but for what is in its Kids. -/
noncomputable def fitB (op n : Int) (s : ByteArray) (len : Nat) : Bool :=
  if op = 1 then decide (0 ≤ n ∧ n ≤ 255 ∧ s.size = 0 ∧ len = 0)
  else if op = 2 then decide (n = 0 ∧ len = 0) && nameB s
  else if op = 13 then decide (n = 0 ∧ len ≤ 3) && nameB s
  else if op = 11 ∨ op = 12 then decide (n = 0 ∧ s.size = 0 ∧ len = 1)
  else if 3 ≤ op ∧ op ≤ 10 then decide (n = 0 ∧ s.size = 0 ∧ len = 2)
  else false
/-- All parts fit, and it is at most so deep. -/
noncomputable def formE : Nat → E → Bool
  | 0, _ => false
  | d + 1, e => fitB e.op e.n e.name e.kids.length && e.kids.all (formE d)
/-- It is an expression. -/
noncomputable def validE (e : E) : Bool := formE 6 e && decide (sizeE e ≤ 30)
theorem formE_succ (d : Nat) (e : E) : formE (d + 1) e = (fitB e.op e.n e.name e.kids.length && e.kids.all (formE d)) := rfl
theorem formE_fit {d : Nat} {e : E} (h : formE d e = true) : fitB e.op e.n e.name e.kids.length = true := by
  cases d with
  | zero => cases h
  | succ d => rw [formE_succ, Bool.and_eq_true] at h; exact h.1
theorem formE_kid {d : Nat} {e k : E} (h : formE (d + 1) e = true) (hk : k ∈ e.kids) : formE d k = true := by
  rw [formE_succ, Bool.and_eq_true] at h
  exact List.all_eq_true.1 h.2 k hk
theorem formE_unfit {d : Nat} {e : E} (h : fitB e.op e.n e.name e.kids.length = false) : formE d e = false := by
  cases d with
  | zero => rfl
  | succ d => rw [formE_succ, h, Bool.false_and]
/-- The first i Kids have the form. -/
def kidsTo (d : Nat) (ks : List E) (i : Nat) : Prop := ∀ j, (h : j < ks.length) → j < i → formE d ks[j] = true
theorem kidsTo_succ {d : Nat} {ks : List E} {i : Nat} (h : kidsTo d ks i) (hi : i < ks.length) (hv : formE d ks[i] = true) : kidsTo d ks (i + 1) := by
  intro j hj hji
  by_cases e : j = i
  · subst e; exact hv
  · exact h j hj (by omega)
theorem kidsTo_zero (d : Nat) (ks : List E) : kidsTo d ks 0 := fun j _ hj => absurd hj (by omega)
theorem formE_yes {d : Nat} {e : E} (hf : fitB e.op e.n e.name e.kids.length = true) (h : kidsTo d e.kids e.kids.length) : formE (d + 1) e = true := by
  rw [formE_succ, hf, Bool.true_and, List.all_eq_true]
  intro k hk
  obtain ⟨j, hj, rfl⟩ := List.getElem_of_mem hk
  exact h j hj hj
theorem formE_bad {d : Nat} {e : E} {i : Nat} (hi : i < e.kids.length) (h : formE d e.kids[i] = false) : formE (d + 1) e = false := by
  rw [formE_succ, Bool.and_eq_false_iff]
  right
  rw [Bool.eq_false_iff]
  intro hall
  have := List.all_eq_true.1 hall _ (List.getElem_mem hi)
  rw [h] at this; cases this
theorem fitB_len {op n : Int} {s : ByteArray} {len : Nat} (h : fitB op n s len = true) : len ≤ 3 := by
  unfold fitB at h
  split at h
  · simp at h; omega
  split at h
  · simp at h; omega
  split at h
  · simp at h; omega
  split at h
  · simp at h; omega
  split at h
  · simp at h; omega
  · cases h
theorem deep_of_form : ∀ (d : Nat) (e : E), formE d e = true → deepE e ≤ d
  | 0, e, h => by cases h
  | d + 1, e, h => by
    rw [deepE_kids]
    have : ∀ ks : List E, (∀ k ∈ ks, formE d k = true) → deepL ks ≤ d := by
      intro ks
      induction ks with
      | nil => intro _; exact Nat.zero_le _
      | cons k ks ih =>
        intro h
        have h1 := deep_of_form d k (h k (List.mem_cons_self ..))
        have h2 := ih (fun x hx => h x (List.mem_cons_of_mem _ hx))
        show max (deepE k) (deepL ks) ≤ d
        omega
    have := this e.kids (fun k hk => formE_kid h hk)
    omega
theorem form_more : ∀ (d : Nat) (e : E), formE d e = true → formE (d + 1) e = true
  | 0, e, h => by cases h
  | d + 1, e, h => by
    rw [formE_succ, Bool.and_eq_true]
    exact ⟨formE_fit h, List.all_eq_true.2 fun k hk => form_more d k (formE_kid h hk)⟩
theorem form_mono {d d' : Nat} {e : E} (hd : d ≤ d') (h : formE d e = true) : formE d' e = true := by
  induction hd with
  | refl => exact h
  | step _ ih => exact form_more _ _ ih
/-- The form, however deep, and the depth are apart. -/
theorem form_deep : ∀ (d d' : Nat) (e : E), formE d e = true → deepE e ≤ d' → formE d' e = true
  | 0, _, e, h, _ => by cases h
  | d + 1, 0, e, _, h => by rw [deepE_kids] at h; omega
  | d + 1, d' + 1, e, h, hd => by
    rw [deepE_kids] at hd
    rw [formE_succ, Bool.and_eq_true]
    refine ⟨formE_fit h, List.all_eq_true.2 fun k hk => form_deep d d' k (formE_kid h hk) ?_⟩
    have := deepL_mem hk
    omega
theorem validE_form {e : E} (h : validE e = true) : formE 6 e = true := by unfold validE at h; rw [Bool.and_eq_true] at h; exact h.1
theorem validE_size {e : E} (h : validE e = true) : sizeE e ≤ 30 := by unfold validE at h; rw [Bool.and_eq_true, decide_eq_true_eq] at h; exact h.2
theorem validE_deep {e : E} (h : validE e = true) : deepE e ≤ 6 := deep_of_form 6 e (validE_form h)
end Go.Proofs.YtkhcfhhejmkikaaGreatDoor

namespace Go.Proofs.YtkhcfhhejmkikaaGreatDoor

/-- A word: its kind and its text. -/
abbrev W := Int × ByteArray
/-- The level of an op. -/
def lvl (op : Int) : Nat := if op = 10 then 1 else if op = 8 ∨ op = 9 then 2 else if op = 3 ∨ op = 4 then 3 else if op = 5 ∨ op = 6 ∨ op = 7 then 4 else if op = 11 ∨ op = 12 then 5 else 6
/-- The byte of an op's sign. -/
def sgnN (op : Int) : UInt8 := [43, 45, 42, 47, 37, 60, 61, 38, 33, 64].getD (op - 3).toNat 0
def sgnS (op : Int) : ByteArray := ⟨#[sgnN op]⟩
def lpS : ByteArray := ⟨#[40]⟩
def rpS : ByteArray := ⟨#[41]⟩
def cmS : ByteArray := ⟨#[44]⟩
def decS (n : Nat) : ByteArray := ⟨(Lib.decDigits n).toArray⟩
/-- The level that a Kid must have at least. -/
def needOf (op : Int) (i : Nat) : Nat := if op = 13 then 1 else if op = 11 ∨ op = 12 then 5 else lvl op + i
/-- Lists with commas between. -/
def commas : List (List W) → List W
  | [] => []
  | [p] => p
  | p :: q :: r => p ++ (3, cmS) :: commas (q :: r)
/-- The words of an expression, out of its Kids' words. -/
def bodyW (op n : Int) (s : ByteArray) (parts : List (List W)) : List W :=
  if op = 1 then [(2, decS n.toNat)] else if op = 2 then [(1, s)] else if op = 13 then (1, s) :: (3, lpS) :: (commas parts ++ [(3, rpS)])
  else match parts with
    | [p] => (3, sgnS op) :: p
    | [p, q] => p ++ (3, sgnS op) :: q
    | _ => []
/-- Words with brackets around, if they are needed. -/
def needW (b : Bool) (l : List W) : List W := if b = true then (3, lpS) :: (l ++ [(3, rpS)]) else l
mutual
/-- The words of an expression that stands where a level is needed. -/
def wE : E → Nat → List W
  | .mk op n s ks, need => needW (decide (lvl op < need)) (bodyW op n s (wL op 0 ks))
def wL (op : Int) : Nat → List E → List (List W)
  | _, [] => []
  | i, k :: ks => wE k (needOf op i) :: wL op (i + 1) ks
end
theorem wE_eq (e : E) (need : Nat) : wE e need = needW (decide (lvl e.op < need)) (bodyW e.op e.n e.name (wL e.op 0 e.kids)) := by cases e; rfl
theorem wL_length (op : Int) : ∀ (i : Nat) (ks : List E), (wL op i ks).length = ks.length
  | _, [] => rfl
  | i, k :: ks => by show (wL op (i + 1) ks).length + 1 = ks.length + 1; rw [wL_length op (i + 1) ks]
theorem wL_get (op : Int) : ∀ (i : Nat) (ks : List E) (j : Nat) (h : j < ks.length) (h' : j < (wL op i ks).length), (wL op i ks)[j] = wE ks[j] (needOf op (i + j))
  | _, [], j, h, _ => absurd h (by simp)
  | i, k :: ks, 0, _, _ => rfl
  | i, k :: ks, j + 1, h, h' => by
    have ih := wL_get op (i + 1) ks j (by simpa using h) (by rw [wL_length]; simpa using h)
    have e : i + 1 + j = i + (j + 1) := by omega
    rw [e] at ih
    exact ih
theorem wL_app (op : Int) : ∀ (i : Nat) (a b : List E), wL op i (a ++ b) = wL op i a ++ wL op (i + a.length) b
  | i, [], b => rfl
  | i, k :: a, b => by
    show wE k (needOf op i) :: wL op (i + 1) (a ++ b) = wE k (needOf op i) :: (wL op (i + 1) a ++ wL op (i + (a.length + 1)) b)
    rw [wL_app op (i + 1) a b]
    have e : i + 1 + a.length = i + (a.length + 1) := by omega
    rw [e]
theorem commas_snoc : ∀ (l : List (List W)) (p : List W), l ≠ [] → commas (l ++ [p]) = commas l ++ (3, cmS) :: p
  | [], _, h => absurd rfl h
  | [x], p, _ => rfl
  | x :: y :: r, p, _ => by
    have ih := commas_snoc (y :: r) p (by simp)
    show x ++ (3, cmS) :: commas (y :: r ++ [p]) = (x ++ (3, cmS) :: commas (y :: r)) ++ (3, cmS) :: p
    rw [ih]; simp
/-- The words of the first i Kids of a call, with commas between. -/
def callTo (ks : List E) (i : Nat) : List W := commas (wL 13 0 (ks.take i))
theorem callTo_zero (ks : List E) : callTo ks 0 = [] := by unfold callTo; rw [List.take_zero]; rfl
theorem callTo_first {ks : List E} (h : 0 < ks.length) : callTo ks 1 = wE ks[0] 1 := by
  unfold callTo
  rw [List.take_succ_eq_append_getElem h]
  rfl
theorem callTo_next {ks : List E} {i : Nat} (h : i < ks.length) (h0 : 0 < i) : callTo ks (i + 1) = callTo ks i ++ (3, cmS) :: wE ks[i] 1 := by
  unfold callTo
  rw [List.take_succ_eq_append_getElem h, wL_app]
  have e : wL 13 (0 + (ks.take i).length) [ks[i]] = [wE ks[i] 1] := by
    show [wE ks[i] (needOf 13 _)] = _
    rfl
  rw [e, commas_snoc _ _ (by
    intro hn
    have := congrArg List.length hn
    rw [wL_length, List.length_take, List.length_nil] at this
    omega)]
theorem callTo_end (ks : List E) : callTo ks ks.length = commas (wL 13 0 ks) := by unfold callTo; rw [List.take_length]

theorem body_num (n : Int) (s : ByteArray) (p : List (List W)) : bodyW 1 n s p = [(2, decS n.toNat)] := rfl
theorem body_var (n : Int) (s : ByteArray) (p : List (List W)) : bodyW 2 n s p = [(1, s)] := rfl
theorem body_call (n : Int) (s : ByteArray) (p : List (List W)) : bodyW 13 n s p = (1, s) :: (3, lpS) :: (commas p ++ [(3, rpS)]) := rfl
theorem body_un {op : Int} (h : op = 11 ∨ op = 12) (n : Int) (s : ByteArray) (p : List W) : bodyW op n s [p] = (3, sgnS op) :: p := by
  rcases h with rfl | rfl <;> rfl
theorem body_bin {op : Int} (h : 3 ≤ op ∧ op ≤ 10) (n : Int) (s : ByteArray) (p q : List W) : bodyW op n s [p, q] = p ++ (3, sgnS op) :: q := by
  unfold bodyW
  rw [if_neg (by omega), if_neg (by omega), if_neg (by omega)]

/-- Does a text stand next? -/
def isT (ws : List W) (t : ByteArray) : Bool := match ws with
  | [] => false
  | w :: _ => decide (w.2 = t)
/-- The op of a level that stands next, with two Kids. -/
def opAt (l : Nat) (ws : List W) : Option Int := [3, 4, 5, 6, 7, 8, 9, 10].find? fun op => decide (lvl op = l) && isT ws (sgnS op)
/-- The op that stands next, ahead of one Kid. -/
def aheadAt (ws : List W) : Option Int := [11, 12].find? fun op => isT ws (sgnS op)
def unE (op : Int) (x : E) : E := .mk op 0 ⟨#[]⟩ [x]
def binE (op : Int) (x y : E) : E := .mk op 0 ⟨#[]⟩ [x, y]
def numE (n : Int) : E := .mk 1 n ⟨#[]⟩ []
def varE (s : ByteArray) : E := .mk 2 0 s []
def callE (s : ByteArray) (ks : List E) : E := .mk 13 0 s ks
/-- The number of a word of digits. -/
def numW (s : ByteArray) : Int := ((s.data.toList.foldl (fun a b => a * 10 + (b.toNat - 48)) 0 : Nat) : Int)
mutual
/-- Reads an expression of a level. -/
def rdL (nm : ByteArray → Int) : Nat → Nat → List W → Option (E × List W)
  | 0, _, _ => none
  | m + 1, l, ws => if 4 < l then rdT nm m ws else (rdL nm m (l + 1) ws).bind fun p => rdO nm m l p.1 p.2
/-- Goes on with ops of a level. -/
def rdO (nm : ByteArray → Int) : Nat → Nat → E → List W → Option (E × List W)
  | 0, _, _, _ => none
  | m + 1, l, x, ws => match opAt l ws with
    | none => some (x, ws)
    | some op => (rdL nm m (l + 1) ws.tail).bind fun p => rdO nm m l (binE op x p.1) p.2
/-- Reads an expression of the level 5 or 6. -/
def rdT (nm : ByteArray → Int) : Nat → List W → Option (E × List W)
  | 0, _ => none
  | m + 1, ws => match aheadAt ws with
    | some op => (rdT nm m ws.tail).bind fun p => some (unE op p.1, p.2)
    | none => rdW nm m ws
/-- Reads an expression of the level 6. -/
def rdW (nm : ByteArray → Int) : Nat → List W → Option (E × List W)
  | 0, _ => none
  | _ + 1, [] => none
  | m + 1, w :: r =>
      if w.2 = lpS then (rdL nm m 1 r).bind fun p => if isT p.2 rpS = true then some (p.1, p.2.tail) else none
      else if w.1 = 2 then some (numE (nm w.2), r)
      else if w.1 = 1 then (if isT r lpS = true then (rdC nm m r.tail).bind fun p => some (callE w.2 p.1, p.2) else some (varE w.2, r))
      else none
/-- Reads the Kids of a call, and the bracket behind them. -/
def rdC (nm : ByteArray → Int) : Nat → List W → Option (List E × List W)
  | 0, _ => none
  | m + 1, ws => if isT ws rpS = true then some ([], ws.tail) else rdK nm m [] ws
def rdK (nm : ByteArray → Int) : Nat → List E → List W → Option (List E × List W)
  | 0, _, _ => none
  | m + 1, acc, ws => (rdL nm m 1 ws).bind fun p =>
      if isT p.2 rpS = true then some (acc ++ [p.1], p.2.tail)
      else if isT p.2 cmS = true then rdK nm m (acc ++ [p.1]) p.2.tail else none
end
end Go.Proofs.YtkhcfhhejmkikaaGreatDoor

namespace Go.Proofs.YtkhcfhhejmkikaaGreatDoor

theorem isT_cons {ws : List W} {t : ByteArray} (h : isT ws t = true) : ∃ w r, ws = w :: r ∧ w.2 = t := by
  cases ws with
  | nil => cases h
  | cons w r => exact ⟨w, r, rfl, by simpa [isT] using h⟩
theorem find8 {p : Int → Bool} {op : Int} (h : ([3, 4, 5, 6, 7, 8, 9, 10] : List Int).find? p = some op) : p op = true ∧ 3 ≤ op ∧ op ≤ 10 := by
  have h1 := List.find?_some h
  have h2 := List.mem_of_find?_eq_some h
  simp only [List.mem_cons, List.not_mem_nil, or_false] at h2
  exact ⟨h1, by omega, by omega⟩
theorem opAt_some {l : Nat} {ws : List W} {op : Int} (h : opAt l ws = some op) : 3 ≤ op ∧ op ≤ 10 ∧ lvl op = l ∧ isT ws (sgnS op) = true := by
  unfold opAt at h
  obtain ⟨h1, h2, h3⟩ := find8 h
  rw [Bool.and_eq_true, decide_eq_true_eq] at h1
  exact ⟨h2, h3, h1.1, h1.2⟩
theorem aheadAt_some {ws : List W} {op : Int} (h : aheadAt ws = some op) : (op = 11 ∨ op = 12) ∧ isT ws (sgnS op) = true := by
  unfold aheadAt at h
  have h1 := List.find?_some h
  have h2 := List.mem_of_find?_eq_some h
  simp only [List.mem_cons, List.not_mem_nil, or_false] at h2
  exact ⟨h2, h1⟩

theorem lvl_bd (op : Int) : 1 ≤ lvl op ∧ lvl op ≤ 6 := by unfold lvl; constructor <;> (repeat' split) <;> omega
theorem needW_length (b : Bool) (l : List W) : l.length ≤ (needW b l).length := by
  unfold needW; split
  · simp; omega
  · exact Nat.le_refl _
theorem needW_length' (b : Bool) (l : List W) : (needW b l).length ≤ l.length + 2 := by
  unfold needW; split
  · simp
  · omega
/-- Where less is needed, no more words are. -/
theorem wE_less (e : E) {l l' : Nat} (h : l ≤ l') : (wE e l).length ≤ (wE e l').length := by
  rw [wE_eq, wE_eq]
  by_cases h1 : lvl e.op < l
  · rw [decide_eq_true h1, decide_eq_true (show lvl e.op < l' by omega)]; exact Nat.le_refl _
  · rw [decide_eq_false h1]; exact needW_length _ _
theorem wE_two (e : E) (l l' : Nat) : (wE e l).length ≤ (wE e l').length + 2 := by
  rw [wE_eq, wE_eq]
  have := needW_length' (decide (lvl e.op < l)) (bodyW e.op e.n e.name (wL e.op 0 e.kids))
  have := needW_length (decide (lvl e.op < l')) (bodyW e.op e.n e.name (wL e.op 0 e.kids))
  omega
theorem wE_bare (e : E) {l : Nat} (h : l ≤ lvl e.op) : wE e l = bodyW e.op e.n e.name (wL e.op 0 e.kids) := by
  rw [wE_eq, decide_eq_false (by omega)]; rfl
theorem wE_bin {op : Int} (h : 3 ≤ op ∧ op ≤ 10) (x y : E) {l : Nat} (hl : l ≤ lvl op) : wE (binE op x y) l = wE x (lvl op) ++ (3, sgnS op) :: wE y (lvl op + 1) := by
  rw [wE_bare _ (show l ≤ lvl (binE op x y).op from hl)]
  show bodyW op 0 ⟨#[]⟩ [wE x (needOf op 0), wE y (needOf op 1)] = _
  have e0 : needOf op 0 = lvl op := by unfold needOf; rw [if_neg (by omega), if_neg (by omega)]; rfl
  have e1 : needOf op 1 = lvl op + 1 := by unfold needOf; rw [if_neg (by omega), if_neg (by omega)]
  rw [body_bin h, e0, e1]
theorem lvl_un {op : Int} (h : op = 11 ∨ op = 12) : lvl op = 5 := by rcases h with rfl | rfl <;> rfl
theorem wE_un {op : Int} (h : op = 11 ∨ op = 12) (x : E) {l : Nat} (hl : l ≤ 5) : wE (unE op x) l = (3, sgnS op) :: wE x 5 := by
  rw [wE_bare _ (show l ≤ lvl (unE op x).op by show l ≤ lvl op; rw [lvl_un h]; exact hl)]
  show bodyW op 0 ⟨#[]⟩ [wE x (needOf op 0)] = _
  have e0 : needOf op 0 = 5 := by unfold needOf; rw [if_neg (by omega), if_pos h]
  rw [body_un h, e0]
theorem wE_num (n : Int) {l : Nat} (hl : l ≤ 6) : wE (numE n) l = [(2, decS n.toNat)] := wE_bare _ hl
theorem wE_var (s : ByteArray) {l : Nat} (hl : l ≤ 6) : wE (varE s) l = [(1, s)] := wE_bare _ hl
theorem wE_call (s : ByteArray) (ks : List E) {l : Nat} (hl : l ≤ 6) : wE (callE s ks) l = (1, s) :: (3, lpS) :: (commas (wL 13 0 ks) ++ [(3, rpS)]) := wE_bare _ hl
theorem sizeE_bin (op : Int) (x y : E) : sizeE (binE op x y) = 1 + (sizeE x + sizeE y) := by show 1 + (sizeE x + (sizeE y + 0)) = _; omega
theorem sizeE_un (op : Int) (x : E) : sizeE (unE op x) = 1 + sizeE x := by show 1 + (sizeE x + 0) = _; omega
theorem sizeE_call (s : ByteArray) (ks : List E) : sizeE (callE s ks) = 1 + sizeL ks := rfl
/-- The words of Kids read so far. -/
theorem commas_len (acc : List E) (e : E) : (commas (wL 13 0 (acc ++ [e]))).length ≤ (commas (wL 13 0 acc)).length + (if acc = [] then 0 else 1) + (wE e 1).length := by
  rw [wL_app]
  have e1 : wL 13 (0 + acc.length) [e] = [wE e 1] := by show [wE e (needOf 13 _)] = _; rfl
  rw [e1]
  by_cases h : acc = []
  · subst h; rw [if_pos rfl]; show (wE e 1).length ≤ 0 + 0 + _; omega
  · rw [if_neg h, commas_snoc _ _ (by
      intro hn
      have := congrArg List.length hn
      rw [wL_length, List.length_nil, List.length_eq_zero_iff] at this
      exact h this), List.length_append, List.length_cons]
    omega

/-- What reading leaves, and what it makes. -/
def Less (l : Nat) (e : E) (r ws : List W) : Prop := r <:+ ws ∧ r.length < ws.length ∧ sizeE e + r.length ≤ ws.length ∧ (wE e l).length + r.length ≤ ws.length
theorem Less.level {l l' : Nat} {e : E} {r ws : List W} (h : Less l e r ws) (hl : l' ≤ l) : Less l' e r ws := ⟨h.1, h.2.1, h.2.2.1, by have := wE_less e hl; have := h.2.2.2; omega⟩
structure RdLess (nm : ByteArray → Int) (m : Nat) : Prop where
  L : ∀ l ws e r, l ≤ 5 → rdL nm m l ws = some (e, r) → Less l e r ws
  O : ∀ l x ws e r, l ≤ 4 → rdO nm m l x ws = some (e, r) → r <:+ ws ∧ sizeE e + r.length ≤ sizeE x + ws.length ∧ (wE e l).length + r.length ≤ (wE x l).length + ws.length
  T : ∀ ws e r, rdT nm m ws = some (e, r) → Less 5 e r ws
  W : ∀ ws e r, rdW nm m ws = some (e, r) → Less 6 e r ws
  C : ∀ ws ks r, rdC nm m ws = some (ks, r) → r <:+ ws ∧ r.length < ws.length ∧ sizeL ks + r.length + 1 ≤ ws.length ∧ (commas (wL 13 0 ks)).length + 1 + r.length ≤ ws.length
  K : ∀ acc ws ks r, rdK nm m acc ws = some (ks, r) → r <:+ ws ∧ r.length < ws.length ∧ sizeL ks + r.length + 1 ≤ sizeL acc + ws.length ∧ (commas (wL 13 0 ks)).length + 1 + r.length ≤ (commas (wL 13 0 acc)).length + (if acc = [] then 0 else 1) + ws.length
theorem rd_less (nm : ByteArray → Int) : ∀ m, RdLess nm m
  | 0 => ⟨fun _ _ _ _ _ h => (by cases h), fun _ _ _ _ _ _ h => (by cases h), fun _ _ _ h => (by cases h), fun _ _ _ h => (by cases h), fun _ _ _ h => (by cases h), fun _ _ _ _ h => (by cases h)⟩
  | m + 1 => by
    have ih := rd_less nm m
    refine ⟨?_, ?_, ?_, ?_, ?_, ?_⟩
    · intro l ws e r hl h
      have h' : (if 4 < l then rdT nm m ws else (rdL nm m (l + 1) ws).bind fun p => rdO nm m l p.1 p.2) = some (e, r) := h
      split at h'
      · exact (ih.T _ _ _ h').level hl
      · rw [Option.bind_eq_some_iff] at h'
        obtain ⟨⟨x, r1⟩, h1, h2⟩ := h'
        have a := ih.L _ _ _ _ (by omega) h1
        have b := ih.O _ _ _ _ _ (by omega) h2
        have c := wE_less x (show l ≤ l + 1 by omega)
        obtain ⟨a1, a2, a3, a4⟩ := a
        obtain ⟨b1, b2, b3⟩ := b
        have b4 := b1.length_le
        dsimp only at b1 b2 b3 b4
        exact ⟨b1.trans a1, by omega, by omega, by omega⟩
    · intro l x ws e r hl h
      have h' : (match opAt l ws with
        | none => some (x, ws)
        | some op => (rdL nm m (l + 1) ws.tail).bind fun p => rdO nm m l (binE op x p.1) p.2) = some (e, r) := h
      split at h'
      · injection h' with h'; injection h' with h1 h2; subst h1; subst h2
        exact ⟨List.suffix_refl _, by omega, by omega⟩
      · rename_i op hop
        obtain ⟨o1, o2, o3, o4⟩ := opAt_some hop
        obtain ⟨w, ws', rfl, ow⟩ := isT_cons o4
        rw [Option.bind_eq_some_iff] at h'
        obtain ⟨⟨y, r1⟩, h1, h2⟩ := h'
        obtain ⟨a1, a2, a3, a4⟩ := ih.L _ _ _ _ (by omega) h1
        obtain ⟨b1, b2, b3⟩ := ih.O _ _ _ _ _ hl h2
        have b4 := b1.length_le
        dsimp only [List.tail_cons] at a1 a2 a3 a4 b1 b2 b3 b4
        rw [sizeE_bin] at b2
        rw [wE_bin ⟨o1, o2⟩ _ _ (by omega), o3, List.length_append, List.length_cons] at b3
        refine ⟨(b1.trans a1).trans (List.suffix_cons _ _), ?_, ?_⟩ <;> rw [List.length_cons] <;> omega
    · intro ws e r h
      have h' : (match aheadAt ws with
        | some op => (rdT nm m ws.tail).bind fun p => some (unE op p.1, p.2)
        | none => rdW nm m ws) = some (e, r) := h
      split at h'
      · rename_i op hop
        obtain ⟨o1, o4⟩ := aheadAt_some hop
        obtain ⟨w, ws', rfl, ow⟩ := isT_cons o4
        rw [Option.bind_eq_some_iff] at h'
        obtain ⟨⟨x, r1⟩, h1, h2⟩ := h'
        injection h2 with h2; injection h2 with h2 h3; subst h2; subst h3
        obtain ⟨a1, a2, a3, a4⟩ := ih.T _ _ _ h1
        dsimp only [List.tail_cons] at a1 a2 a3 a4 ⊢
        refine ⟨a1.trans (List.suffix_cons _ _), ?_, ?_, ?_⟩
        · rw [List.length_cons]; omega
        · rw [sizeE_un, List.length_cons]; omega
        · rw [wE_un o1 _ (Nat.le_refl _), List.length_cons, List.length_cons]; omega
      · exact (ih.W _ _ _ h').level (by omega)
    · intro ws e r h
      cases ws with
      | nil => cases h
      | cons w ws =>
        have h' : (if w.2 = lpS then (rdL nm m 1 ws).bind fun p => if isT p.2 rpS = true then some (p.1, p.2.tail) else none
          else if w.1 = 2 then some (numE (nm w.2), ws)
          else if w.1 = 1 then (if isT ws lpS = true then (rdC nm m ws.tail).bind fun p => some (callE w.2 p.1, p.2) else some (varE w.2, ws))
          else none) = some (e, r) := h
        split at h'
        · rw [Option.bind_eq_some_iff] at h'
          obtain ⟨⟨x, r1⟩, h1, h2⟩ := h'
          obtain ⟨a1, a2, a3, a4⟩ := ih.L _ _ _ _ (by omega) h1
          dsimp only at h2 a1 a2 a3 a4
          split at h2
          · rename_i ht
            obtain ⟨w2, r2, rfl, _⟩ := isT_cons ht
            injection h2 with h2; injection h2 with h2 h3; subst h2; subst h3
            have c := wE_two x 6 1
            rw [List.length_cons] at a2 a3 a4
            dsimp only [List.tail_cons]
            refine ⟨((List.suffix_cons _ _).trans a1).trans (List.suffix_cons _ _), ?_, ?_, ?_⟩ <;> rw [List.length_cons] <;> omega
          · cases h2
        · split at h'
          · injection h' with h'; injection h' with h1 h2; subst h1; subst h2
            refine ⟨List.suffix_cons _ _, ?_, ?_, ?_⟩
            · rw [List.length_cons]; omega
            · rw [List.length_cons]; show 1 + 0 + _ ≤ _; omega
            · rw [wE_num _ (Nat.le_refl _), List.length_cons, List.length_cons]; simp; omega
          · split at h'
            · split at h'
              · rename_i ht
                obtain ⟨w2, r2, rfl, _⟩ := isT_cons ht
                rw [Option.bind_eq_some_iff] at h'
                obtain ⟨⟨ks, r1⟩, h1, h2⟩ := h'
                injection h2 with h2; injection h2 with h2 h3; subst h2; subst h3
                obtain ⟨a1, a2, a3, a4⟩ := ih.C _ _ _ h1
                dsimp only [List.tail_cons] at a1 a2 a3 a4 ⊢
                refine ⟨(a1.trans (List.suffix_cons _ _)).trans (List.suffix_cons _ _), ?_, ?_, ?_⟩
                · simp only [List.length_cons]; omega
                · rw [sizeE_call]; simp only [List.length_cons]; omega
                · rw [wE_call _ _ (Nat.le_refl _)]; simp only [List.length_cons, List.length_append, List.length_nil]; omega
              · injection h' with h'; injection h' with h1 h2; subst h1; subst h2
                refine ⟨List.suffix_cons _ _, ?_, ?_, ?_⟩
                · rw [List.length_cons]; omega
                · rw [List.length_cons]; show 1 + 0 + _ ≤ _; omega
                · rw [wE_var _ (Nat.le_refl _), List.length_cons, List.length_cons]; simp; omega
            · cases h'
    · intro ws ks r h
      have h' : (if isT ws rpS = true then some ([], ws.tail) else rdK nm m [] ws) = some (ks, r) := h
      split at h'
      · rename_i ht
        obtain ⟨w2, r2, rfl, _⟩ := isT_cons ht
        injection h' with h'; injection h' with h1 h2; subst h1; subst h2
        dsimp only [List.tail_cons]
        refine ⟨List.suffix_cons _ _, ?_, ?_, ?_⟩
        · rw [List.length_cons]; omega
        · rw [List.length_cons]; show 0 + _ + 1 ≤ _; omega
        · rw [List.length_cons]; show 0 + 1 + _ ≤ _; omega
      · obtain ⟨a1, a2, a3, a4⟩ := ih.K _ _ _ _ h'
        rw [if_pos rfl] at a4
        have e0 : (commas (wL 13 0 [])).length = 0 := rfl
        have e1 : sizeL [] = 0 := rfl
        exact ⟨a1, a2, by omega, by omega⟩
    · intro acc ws ks r h
      have h' : ((rdL nm m 1 ws).bind fun p =>
        if isT p.2 rpS = true then some (acc ++ [p.1], p.2.tail)
        else if isT p.2 cmS = true then rdK nm m (acc ++ [p.1]) p.2.tail else none) = some (ks, r) := h
      rw [Option.bind_eq_some_iff] at h'
      obtain ⟨⟨x, r1⟩, h1, h2⟩ := h'
      obtain ⟨a1, a2, a3, a4⟩ := ih.L _ _ _ _ (by omega) h1
      have c := commas_len acc x
      dsimp only at h2 a1 a2 a3 a4
      split at h2
      · rename_i ht
        obtain ⟨w2, r2, rfl, _⟩ := isT_cons ht
        injection h2 with h2; injection h2 with h2 h3; subst h2; subst h3
        dsimp only [List.tail_cons] at a1 a2 a3 a4 ⊢
        rw [List.length_cons] at a2 a3 a4
        refine ⟨(List.suffix_cons _ _).trans a1, by omega, ?_, ?_⟩
        · rw [sizeL_app, sizeL_one]; omega
        · omega
      · split at h2
        · rename_i ht
          obtain ⟨w2, r2, rfl, _⟩ := isT_cons ht
          obtain ⟨b1, b2, b3, b4⟩ := ih.K _ _ _ _ h2
          dsimp only [List.tail_cons] at a1 a2 a3 a4 b1 b2 b3 b4
          rw [List.length_cons] at a2 a3 a4
          rw [sizeL_app, sizeL_one] at b3
          rw [if_neg (by simp)] at b4
          refine ⟨(b1.trans (List.suffix_cons _ _)).trans a1, by omega, by omega, by omega⟩
        · cases h2
end Go.Proofs.YtkhcfhhejmkikaaGreatDoor

namespace Go.Proofs.YtkhcfhhejmkikaaGreatDoor

theorem size_zero {s : ByteArray} (h : s.size = 0) : s = ⟨#[]⟩ := by
  cases s with | mk d => 
  have : d.size = 0 := h
  rw [Array.size_eq_zero_iff] at this
  rw [this]
theorem fitB_cases {op n : Int} {s : ByteArray} {len : Nat} (h : fitB op n s len = true) :
    (op = 1 ∧ (0 ≤ n ∧ n ≤ 255) ∧ s = ⟨#[]⟩ ∧ len = 0) ∨ (op = 2 ∧ n = 0 ∧ len = 0 ∧ nameB s = true) ∨ (op = 13 ∧ n = 0 ∧ len ≤ 3 ∧ nameB s = true) ∨
    ((op = 11 ∨ op = 12) ∧ n = 0 ∧ s = ⟨#[]⟩ ∧ len = 1) ∨ ((3 ≤ op ∧ op ≤ 10) ∧ n = 0 ∧ s = ⟨#[]⟩ ∧ len = 2) := by
  unfold fitB at h
  split at h
  · rw [decide_eq_true_eq] at h; exact .inl ⟨by assumption, ⟨h.1, h.2.1⟩, size_zero h.2.2.1, h.2.2.2⟩
  split at h
  · rw [Bool.and_eq_true, decide_eq_true_eq] at h; exact .inr (.inl ⟨by assumption, h.1.1, h.1.2, h.2⟩)
  split at h
  · rw [Bool.and_eq_true, decide_eq_true_eq] at h; exact .inr (.inr (.inl ⟨by assumption, h.1.1, h.1.2, h.2⟩))
  split at h
  · rw [decide_eq_true_eq] at h; exact .inr (.inr (.inr (.inl ⟨by assumption, h.1, size_zero h.2.1, h.2.2⟩)))
  split at h
  · rw [decide_eq_true_eq] at h; exact .inr (.inr (.inr (.inr ⟨by assumption, h.1, size_zero h.2.1, h.2.2⟩)))
  · cases h
theorem kids_one {ks : List E} (h : ks.length = 1) : ∃ x, ks = [x] := by
  match ks, h with
  | [x], _ => exact ⟨x, rfl⟩
theorem kids_two {ks : List E} (h : ks.length = 2) : ∃ x y, ks = [x, y] := by
  match ks, h with
  | [x, y], _ => exact ⟨x, y, rfl⟩
/-- The forms of an expression. -/
theorem form_cases {d : Nat} {e : E} (h : formE (d + 1) e = true) :
    (∃ n, e = numE n ∧ 0 ≤ n ∧ n ≤ 255) ∨ (∃ s, e = varE s ∧ nameB s = true) ∨ (∃ s ks, e = callE s ks ∧ nameB s = true ∧ ks.length ≤ 3 ∧ ∀ k ∈ ks, formE d k = true) ∨
    (∃ op x, e = unE op x ∧ (op = 11 ∨ op = 12) ∧ formE d x = true) ∨ (∃ op x y, e = binE op x y ∧ (3 ≤ op ∧ op ≤ 10) ∧ formE d x = true ∧ formE d y = true) := by
  have hk := fun k hk => formE_kid (k := k) h hk
  have hf := fitB_cases (formE_fit h)
  obtain ⟨op, n, s, ks⟩ := e
  dsimp only [E.op, E.n, E.name, E.kids] at hf hk
  rcases hf with ⟨rfl, hn, rfl, hl⟩ | ⟨rfl, rfl, hl, hn⟩ | ⟨rfl, rfl, hl, hn⟩ | ⟨ho, rfl, rfl, hl⟩ | ⟨ho, rfl, rfl, hl⟩
  · rw [List.length_eq_zero_iff] at hl; subst hl; exact .inl ⟨n, rfl, hn.1, hn.2⟩
  · rw [List.length_eq_zero_iff] at hl; subst hl; exact .inr (.inl ⟨s, rfl, hn⟩)
  · exact .inr (.inr (.inl ⟨s, ks, rfl, hn, hl, hk⟩))
  · obtain ⟨x, rfl⟩ := kids_one hl
    exact .inr (.inr (.inr (.inl ⟨op, x, rfl, ho, hk x (by simp)⟩)))
  · obtain ⟨x, y, rfl⟩ := kids_two hl
    exact .inr (.inr (.inr (.inr ⟨op, x, y, rfl, ho, hk x (by simp), hk y (by simp)⟩)))

/-- A text that is no sign. -/
def plainT (s : ByteArray) : Prop := ∀ b : UInt8, cls b.toNat = 3 → s ≠ ⟨#[b]⟩
open Classical in
theorem name_plain {s : ByteArray} (h : nameB s = true) : plainT s := by
  rintro b hb rfl
  unfold nameB at h
  simp only [Bool.and_eq_true] at h
  have ha := h.1.1
  unfold allB at ha
  rw [decide_eq_true_eq] at ha
  have := ha.2 0 (Nat.zero_lt_one) (Nat.zero_lt_one)
  have e : (⟨#[b]⟩ : ByteArray)[0]'(Nat.zero_lt_one) = b := rfl
  rw [e] at this
  omega
theorem decDigits_digit : ∀ n : Nat, ∃ l b, Lib.decDigits n = l ++ [b] ∧ cls b.toNat = 2 := by
  intro n
  have hd : ∀ k < 10, cls (UInt8.ofNat (48 + k)).toNat = 2 := by decide
  by_cases h : n < 10
  · refine ⟨[], UInt8.ofNat (48 + n % 10), ?_, hd _ (by omega)⟩
    rw [Lib.decDigits_one h, Nat.mod_eq_of_lt h]; rfl
  · refine ⟨Lib.decDigits (n / 10), UInt8.ofNat (48 + n % 10), ?_, hd _ (by omega)⟩
    rw [Lib.decDigits, dif_neg h]
theorem dec_plain (n : Nat) : plainT (decS n) := by
  intro b hb he
  obtain ⟨l, c, hl, hc⟩ := decDigits_digit n
  unfold decS at he
  have := congrArg (fun s : ByteArray => s.data.toList) he
  dsimp only at this
  rw [hl] at this
  have hlen := congrArg List.length this
  simp at hlen
  subst hlen
  simp at this
  rw [this] at hc
  omega
theorem sgn_cls {op : Int} (h : 3 ≤ op ∧ op ≤ 12) : cls (sgnN op).toNat = 3 := by
  have : op = 3 ∨ op = 4 ∨ op = 5 ∨ op = 6 ∨ op = 7 ∨ op = 8 ∨ op = 9 ∨ op = 10 ∨ op = 11 ∨ op = 12 := by omega
  rcases this with rfl | rfl | rfl | rfl | rfl | rfl | rfl | rfl | rfl | rfl <;> decide
theorem sgnS_inj {a b : Int} (ha : 3 ≤ a ∧ a ≤ 12) (hb : 3 ≤ b ∧ b ≤ 12) (h : sgnS a = sgnS b) : a = b := by
  have h' : sgnN a = sgnN b := by unfold sgnS at h; injection h with h; simpa using h
  have h1 : a = 3 ∨ a = 4 ∨ a = 5 ∨ a = 6 ∨ a = 7 ∨ a = 8 ∨ a = 9 ∨ a = 10 ∨ a = 11 ∨ a = 12 := by omega
  have h2 : b = 3 ∨ b = 4 ∨ b = 5 ∨ b = 6 ∨ b = 7 ∨ b = 8 ∨ b = 9 ∨ b = 10 ∨ b = 11 ∨ b = 12 := by omega
  rcases h1 with rfl | rfl | rfl | rfl | rfl | rfl | rfl | rfl | rfl | rfl <;> rcases h2 with rfl | rfl | rfl | rfl | rfl | rfl | rfl | rfl | rfl | rfl <;> first | rfl | (exfalso; revert h'; decide)
theorem sgn_ne_br {op : Int} (h : 3 ≤ op ∧ op ≤ 12) : sgnS op ≠ lpS ∧ sgnS op ≠ rpS ∧ sgnS op ≠ cmS := by
  have : op = 3 ∨ op = 4 ∨ op = 5 ∨ op = 6 ∨ op = 7 ∨ op = 8 ∨ op = 9 ∨ op = 10 ∨ op = 11 ∨ op = 12 := by omega
  rcases this with rfl | rfl | rfl | rfl | rfl | rfl | rfl | rfl | rfl | rfl <;> decide
theorem isT_no {w : W} {r : List W} {t : ByteArray} (h : w.2 ≠ t) : isT (w :: r) t = false := by show decide (w.2 = t) = false; exact decide_eq_false h
theorem isT_yes {w : W} {r : List W} {t : ByteArray} (h : w.2 = t) : isT (w :: r) t = true := by show decide (w.2 = t) = true; exact decide_eq_true h
theorem opAt_none {l : Nat} {ws : List W} (h : ∀ op, 3 ≤ op → op ≤ 10 → lvl op = l → isT ws (sgnS op) = false) : opAt l ws = none := by
  unfold opAt
  rw [List.find?_eq_none]
  intro op hop
  simp only [List.mem_cons, List.not_mem_nil, or_false] at hop
  by_cases hl : lvl op = l
  · rw [h op (by omega) (by omega) hl]; simp
  · rw [decide_eq_false hl]; simp
theorem opAt_sgn {op : Int} (h : 3 ≤ op ∧ op ≤ 10) (r : List W) (l : Nat) : opAt l ((3, sgnS op) :: r) = if lvl op = l then some op else none := by
  split
  · rename_i hl
    cases hf : opAt l ((3, sgnS op) :: r) with
    | some o =>
      obtain ⟨a, b, c, d⟩ := opAt_some hf
      have : sgnS op = sgnS o := by simpa [isT] using d
      rw [sgnS_inj (by omega) (by omega) this]
    | none =>
      unfold opAt at hf
      rw [List.find?_eq_none] at hf
      have := hf op (by simp only [List.mem_cons, List.not_mem_nil, or_false]; omega)
      rw [decide_eq_true hl, isT_yes rfl] at this
      simp at this
  · rename_i hl
    refine opAt_none fun o h1 h2 h3 => isT_no ?_
    intro e
    have := sgnS_inj (by omega) (by omega) e
    subst this
    exact hl h3
theorem aheadAt_none {ws : List W} (h : ∀ op, op = 11 ∨ op = 12 → isT ws (sgnS op) = false) : aheadAt ws = none := by
  unfold aheadAt
  rw [List.find?_eq_none]
  intro op hop
  simp only [List.mem_cons, List.not_mem_nil, or_false] at hop
  rw [h op hop]; simp
theorem aheadAt_plain {k : Int} {s : ByteArray} {r : List W} (h : plainT s) : aheadAt ((k, s) :: r) = none :=
  aheadAt_none fun op ho => isT_no (h (sgnN op) (sgn_cls (by omega)))
theorem aheadAt_lp {k : Int} {r : List W} : aheadAt ((k, lpS) :: r) = none :=
  aheadAt_none fun op ho => isT_no (fun e => (sgn_ne_br (op := op) (by omega)).1 e.symm)
theorem aheadAt_sgn {op : Int} (h : op = 11 ∨ op = 12) (r : List W) : aheadAt ((3, sgnS op) :: r) = some op := by
  cases hf : aheadAt ((3, sgnS op) :: r) with
  | some o =>
    obtain ⟨a, d⟩ := aheadAt_some hf
    have : sgnS op = sgnS o := by simpa [isT] using d
    rw [sgnS_inj (by omega) (by omega) this]
  | none =>
    unfold aheadAt at hf
    rw [List.find?_eq_none] at hf
    have := hf op (by simp only [List.mem_cons, List.not_mem_nil, or_false]; exact h)
    rw [isT_yes rfl] at this
    simp at this
theorem opAt_rp (l : Nat) (k : Int) (r : List W) : opAt l ((k, rpS) :: r) = none := opAt_none fun op _ _ _ => isT_no (fun e => (sgn_ne_br (op := op) (by omega)).2.1 e.symm)
theorem opAt_cm (l : Nat) (k : Int) (r : List W) : opAt l ((k, cmS) :: r) = none := opAt_none fun op _ _ _ => isT_no (fun e => (sgn_ne_br (op := op) (by omega)).2.2 e.symm)

/-- What stands behind an expression of a level neither goes on with it nor makes a call of it. -/
def Stop (l : Nat) (rest : List W) : Prop := isT rest lpS = false ∧ ∀ l', l < l' → l' ≤ 4 → opAt l' rest = none
theorem Stop.rp (l : Nat) (r : List W) : Stop l ((3, rpS) :: r) := ⟨isT_no (by decide), fun _ _ _ => opAt_rp _ _ _⟩
theorem Stop.cm (l : Nat) (r : List W) : Stop l ((3, cmS) :: r) := ⟨isT_no (by decide), fun _ _ _ => opAt_cm _ _ _⟩
theorem Stop.nil (l : Nat) : Stop l [] := ⟨rfl, fun _ _ _ => opAt_none fun _ _ _ _ => rfl⟩
theorem Stop.sgn {op : Int} (h : 3 ≤ op ∧ op ≤ 10) (r : List W) : Stop (lvl op) ((3, sgnS op) :: r) :=
  ⟨isT_no (sgn_ne_br (by omega)).1, fun l' h1 _ => by rw [opAt_sgn h, if_neg (by omega)]⟩
theorem Stop.more {l l' : Nat} {r : List W} (h : Stop l r) (hl : l ≤ l') : Stop l' r := ⟨h.1, fun k h1 h2 => h.2 k (by omega) h2⟩

/-- The first word is no bracket that closes. -/
theorem head_ok : ∀ (d : Nat) (e : E), formE d e = true → ∀ l rest, isT (wE e l ++ rest) rpS = false ∧ wE e l ≠ []
  | 0, e, h => by cases h
  | d + 1, e, h => by
    intro l rest
    rw [wE_eq]
    by_cases hb : lvl e.op < l
    · rw [decide_eq_true hb]
      exact ⟨isT_no (by decide), by unfold needW; rw [if_pos rfl]; exact List.cons_ne_nil _ _⟩
    · rw [decide_eq_false hb]
      have e0 : ∀ x : List W, needW false x = x := fun _ => rfl
      rw [e0]
      rcases form_cases h with ⟨n, rfl, _⟩ | ⟨s, rfl, hs⟩ | ⟨s, ks, rfl, hs, _⟩ | ⟨op, x, rfl, ho, _⟩ | ⟨op, x, y, rfl, ho, hx, _⟩
      · exact ⟨isT_no (dec_plain _ 41 (by decide)), List.cons_ne_nil _ _⟩
      · exact ⟨isT_no (name_plain hs 41 (by decide)), List.cons_ne_nil _ _⟩
      · exact ⟨isT_no (name_plain hs 41 (by decide)), List.cons_ne_nil _ _⟩
      · show isT (bodyW op 0 ⟨#[]⟩ [wE x (needOf op 0)] ++ rest) rpS = false ∧ bodyW op 0 ⟨#[]⟩ [wE x (needOf op 0)] ≠ []
        rw [body_un ho]
        exact ⟨isT_no (sgn_ne_br (by omega)).2.1, List.cons_ne_nil _ _⟩
      · show isT (bodyW op 0 ⟨#[]⟩ [wE x (needOf op 0), wE y (needOf op 1)] ++ rest) rpS = false ∧ bodyW op 0 ⟨#[]⟩ [wE x (needOf op 0), wE y (needOf op 1)] ≠ []
        rw [body_bin ho, List.append_assoc]
        exact ⟨(head_ok d x hx _ _).1, by simp⟩

section
variable (nm : ByteArray → Int) (hnm : ∀ n : Int, 0 ≤ n → n ≤ 255 → nm (decS n.toNat) = n)
/-- An expression of the levels 1 to 4 is read, and ops that stand behind are gone on with. -/
def BackA (e : E) : Prop := ∀ l m rest, 1 ≤ l → l ≤ 4 → Stop l rest → 10 * ((wE e l).length + rest.length) + 10 ≤ m + l → ∃ m', 10 * rest.length + 1 ≤ m' ∧ rdL nm m l (wE e l ++ rest) = rdO nm m' l e rest
/-- One of the levels 5 and 6 is read. -/
def BackT (e : E) : Prop := ∀ m rest, isT rest lpS = false → 10 * ((wE e 5).length + rest.length) + 4 ≤ m → rdT nm m (wE e 5 ++ rest) = some (e, rest)

theorem rdO_stop {nm : ByteArray → Int} {m l : Nat} {e : E} {rest : List W} (hm : 1 ≤ m) (h : opAt l rest = none) : rdO nm m l e rest = some (e, rest) := by
  obtain ⟨k, rfl⟩ : ∃ k, m = k + 1 := ⟨m - 1, by omega⟩
  show (match opAt l rest with
    | none => some (e, rest)
    | some op => (rdL nm k (l + 1) rest.tail).bind fun p => rdO nm k l (binE op e p.1) p.2) = _
  rw [h]
/-- What is read tightly is read at each level. -/
theorem lift5 {nm : ByteArray → Int} {ws rest : List W} {e : E} (ht : ∀ m, 10 * ws.length + 4 ≤ m → rdT nm m ws = some (e, rest)) (hlen : rest.length < ws.length) :
    ∀ k l, l + k = 4 → 1 ≤ l → Stop l rest → ∀ m, 10 * ws.length + 10 ≤ m + l → ∃ m', 10 * rest.length + 1 ≤ m' ∧ rdL nm m l ws = rdO nm m' l e rest := by
  intro k
  induction k with
  | zero =>
    intro l hl h1 hs m hm
    obtain rfl : l = 4 := by omega
    obtain ⟨j, rfl⟩ : ∃ j, m = j + 2 := ⟨m - 2, by omega⟩
    refine ⟨j + 1, by omega, ?_⟩
    show (if 4 < 4 then rdT nm (j + 1) ws else (rdL nm (j + 1) 5 ws).bind fun p => rdO nm (j + 1) 4 p.1 p.2) = _
    rw [if_neg (by omega)]
    have h5 : rdL nm (j + 1) 5 ws = rdT nm j ws := if_pos (by omega)
    rw [h5, ht j (by omega)]
    rfl
  | succ k ih =>
    intro l hl h1 hs m hm
    obtain ⟨j, rfl⟩ : ∃ j, m = j + 1 := ⟨m - 1, by omega⟩
    obtain ⟨m', hm', he⟩ := ih (l + 1) (by omega) (by omega) (hs.more (by omega)) j (by omega)
    refine ⟨j, by omega, ?_⟩
    show (if 4 < l then rdT nm j ws else (rdL nm j (l + 1) ws).bind fun p => rdO nm j l p.1 p.2) = _
    rw [if_neg (by omega), he, rdO_stop (by omega) (hs.2 (l + 1) (by omega) (by omega))]
    rfl
theorem rdT_ahead {nm : ByteArray → Int} {m : Nat} {ws : List W} (h : aheadAt ws = none) : rdT nm (m + 1) ws = rdW nm m ws := by
  show (match aheadAt ws with
    | some op => (rdT nm m ws.tail).bind fun p => some (unE op p.1, p.2)
    | none => rdW nm m ws) = _
  rw [h]
theorem rdT_un {nm : ByteArray → Int} {m : Nat} {op : Int} (h : op = 11 ∨ op = 12) (ws : List W) : rdT nm (m + 1) ((3, sgnS op) :: ws) = (rdT nm m ws).bind fun p => some (unE op p.1, p.2) := by
  show (match aheadAt ((3, sgnS op) :: ws) with
    | some op => (rdT nm m ws).bind fun p => some (unE op p.1, p.2)
    | none => _) = _
  rw [aheadAt_sgn h]
theorem rdW_eq (nm : ByteArray → Int) (m : Nat) (w : W) (r : List W) : rdW nm (m + 1) (w :: r) =
    if w.2 = lpS then (rdL nm m 1 r).bind fun p => if isT p.2 rpS = true then some (p.1, p.2.tail) else none
      else if w.1 = 2 then some (numE (nm w.2), r)
      else if w.1 = 1 then (if isT r lpS = true then (rdC nm m r.tail).bind fun p => some (callE w.2 p.1, p.2) else some (varE w.2, r))
      else none := rfl
theorem rdK_eq (nm : ByteArray → Int) (m : Nat) (acc : List E) (ws : List W) : rdK nm (m + 1) acc ws = (rdL nm m 1 ws).bind fun p =>
      if isT p.2 rpS = true then some (acc ++ [p.1], p.2.tail)
      else if isT p.2 cmS = true then rdK nm m (acc ++ [p.1]) p.2.tail else none := rfl
theorem rdC_eq (nm : ByteArray → Int) (m : Nat) (ws : List W) : rdC nm (m + 1) ws = if isT ws rpS = true then some ([], ws.tail) else rdK nm m [] ws := rfl
/-- The Kids of a call are read. -/
theorem back_kids {nm : ByteArray → Int} : ∀ (ks : List E) (i : Nat) (acc : List E) (m : Nat) (rest : List W), ks ≠ [] → (∀ k ∈ ks, BackA nm k) → 10 * ((commas (wL 13 i ks)).length + 1 + rest.length) + 11 ≤ m →
    rdK nm m acc (commas (wL 13 i ks) ++ (3, rpS) :: rest) = some (acc ++ ks, rest)
  | [], _, _, _, _, h, _, _ => absurd rfl h
  | [x], i, acc, m, rest, _, hA, hm => by
    obtain ⟨j, rfl⟩ : ∃ j, m = j + 1 := ⟨m - 1, by omega⟩
    have e1 : commas (wL 13 i [x]) = wE x 1 := by show wE x (needOf 13 i) = _; rfl
    rw [e1] at hm ⊢
    obtain ⟨m', hm', he⟩ := hA x (by simp) 1 j ((3, rpS) :: rest) (by omega) (by omega) (Stop.rp _ _) (by rw [List.length_cons]; omega)
    rw [rdK_eq, he, rdO_stop (by omega) (opAt_rp _ _ _), Option.bind_some]
    dsimp only [List.tail_cons]
    rw [if_pos (isT_yes rfl)]
  | x :: y :: ks, i, acc, m, rest, _, hA, hm => by
    obtain ⟨j, rfl⟩ : ∃ j, m = j + 1 := ⟨m - 1, by omega⟩
    have e1 : commas (wL 13 i (x :: y :: ks)) = wE x 1 ++ (3, cmS) :: commas (wL 13 (i + 1) (y :: ks)) := by
      show wE x (needOf 13 i) ++ _ = _; rfl
    rw [e1] at hm ⊢
    rw [List.length_append, List.length_cons] at hm
    rw [List.append_assoc, List.cons_append]
    obtain ⟨m', hm', he⟩ := hA x (by simp) 1 j ((3, cmS) :: (commas (wL 13 (i + 1) (y :: ks)) ++ (3, rpS) :: rest)) (by omega) (by omega) (Stop.cm _ _) (by rw [List.length_cons, List.length_append, List.length_cons]; omega)
    rw [rdK_eq, he, rdO_stop (by omega) (opAt_cm _ _ _), Option.bind_some]
    dsimp only [List.tail_cons]
    rw [if_neg (by rw [isT_no (by decide)]; simp), if_pos (isT_yes rfl)]
    have := back_kids (y :: ks) (i + 1) (acc ++ [x]) j rest (by simp) (fun k hk => hA k (by simp at hk ⊢; right; exact hk)) (by omega)
    rw [List.append_assoc] at this
    exact this

include hnm in
theorem back : ∀ (d : Nat) (e : E), formE d e = true → BackA nm e ∧ BackT nm e
  | 0, e, h => by cases h
  | d + 1, e, h => by
    -- what is read tightly
    have tight : (∀ m rest, isT rest lpS = false → 10 * ((wE e 5).length + rest.length) + 4 ≤ m → rdT nm m (wE e 5 ++ rest) = some (e, rest)) → BackA nm e ∨ lvl e.op < 5 := by
      intro ht
      by_cases h5 : lvl e.op < 5
      · exact .inr h5
      left
      intro l m rest h1 h4 hs hm
      have e1 : wE e l = wE e 5 := by rw [wE_bare e (by omega), wE_bare e (by omega)]
      rw [e1] at hm ⊢
      have hne := (head_ok _ e h 5 []).2
      have hpos : 0 < (wE e 5).length := List.length_pos_iff.2 hne
      exact lift5 (fun m hm => ht m rest hs.1 (by rw [List.length_append] at hm; exact hm)) (by rw [List.length_append]; omega) (4 - l) l (by omega) h1 hs m (by rw [List.length_append]; omega)
    rcases form_cases h with ⟨n, rfl, hn0, hn1⟩ | ⟨s, rfl, hs⟩ | ⟨s, ks, rfl, hs, hl, hk⟩ | ⟨op, x, rfl, ho, hx⟩ | ⟨op, x, y, rfl, ho, hx, hy⟩
    · have T : BackT nm (numE n) := by
        intro m rest hr hm
        rw [wE_num _ (by omega)] at hm ⊢
        rw [List.length_singleton] at hm
        obtain ⟨j, rfl⟩ : ∃ j, m = j + 2 := ⟨m - 2, by omega⟩
        have hlp : decS n.toNat ≠ lpS := dec_plain _ 40 (by decide)
        rw [List.singleton_append, rdT_ahead (aheadAt_plain (dec_plain _)), rdW_eq, if_neg hlp, if_pos rfl]
        dsimp only
        rw [hnm n hn0 hn1]
      exact ⟨(tight T).resolve_right (by show ¬ lvl 1 < 5; decide), T⟩
    · have T : BackT nm (varE s) := by
        intro m rest hr hm
        rw [wE_var _ (by omega)] at hm ⊢
        rw [List.length_singleton] at hm
        obtain ⟨j, rfl⟩ : ∃ j, m = j + 2 := ⟨m - 2, by omega⟩
        have hlp : s ≠ lpS := name_plain hs 40 (by decide)
        rw [List.singleton_append, rdT_ahead (aheadAt_plain (name_plain hs)), rdW_eq, if_neg hlp]
        dsimp only
        rw [if_neg (by decide), if_pos rfl, if_neg (by rw [hr]; simp)]
      exact ⟨(tight T).resolve_right (by show ¬ lvl 2 < 5; decide), T⟩
    · have T : BackT nm (callE s ks) := by
        intro m rest hr hm
        rw [wE_call _ _ (by omega)] at hm ⊢
        rw [List.length_cons, List.length_cons, List.length_append, List.length_singleton] at hm
        obtain ⟨j, rfl⟩ : ∃ j, m = j + 4 := ⟨m - 4, by omega⟩
        have e2 : ((1, s) :: (3, lpS) :: (commas (wL 13 0 ks) ++ [(3, rpS)])) ++ rest = (1, s) :: (3, lpS) :: (commas (wL 13 0 ks) ++ (3, rpS) :: rest) := by simp
        have hlp : s ≠ lpS := name_plain hs 40 (by decide)
        rw [e2, rdT_ahead (aheadAt_plain (name_plain hs)), rdW_eq, if_neg hlp]
        dsimp only
        rw [if_neg (by decide), if_pos rfl, if_pos (isT_yes rfl)]
        show ((rdC nm (j + 2) (commas (wL 13 0 ks) ++ (3, rpS) :: rest)).bind fun p => some (callE s p.1, p.2)) = _
        rw [rdC_eq]
        cases ks with
        | nil =>
          have e3 : commas (wL 13 0 []) ++ (3, rpS) :: rest = (3, rpS) :: rest := rfl
          rw [e3, if_pos (isT_yes rfl)]; rfl
        | cons k ks =>
          have hno : isT (commas (wL 13 0 (k :: ks)) ++ (3, rpS) :: rest) rpS = false := by
            cases ks with
            | nil => exact (head_ok d k (hk k (by simp)) 1 _).1
            | cons k2 ks =>
              show isT ((wE k 1 ++ (3, cmS) :: commas (wL 13 1 (k2 :: ks))) ++ (3, rpS) :: rest) rpS = false
              rw [List.append_assoc]
              exact (head_ok d k (hk k (by simp)) 1 _).1
          rw [if_neg (by rw [hno]; simp), back_kids (k :: ks) 0 [] (j + 1) rest (by simp) (fun x hx => (back d x (hk x hx)).1) (by omega)]
          rfl
      exact ⟨(tight T).resolve_right (by show ¬ lvl 13 < 5; decide), T⟩
    · have T : BackT nm (unE op x) := by
        intro m rest hr hm
        rw [wE_un ho _ (by omega)] at hm ⊢
        rw [List.length_cons] at hm
        obtain ⟨j, rfl⟩ : ∃ j, m = j + 1 := ⟨m - 1, by omega⟩
        rw [List.cons_append, rdT_un ho, (back d x hx).2 j rest hr (by omega)]
        rfl
      exact ⟨(tight T).resolve_right (by show ¬ lvl op < 5; rw [lvl_un ho]; omega), T⟩
    · have hv : 1 ≤ lvl op ∧ lvl op ≤ 4 := by
        have : op = 3 ∨ op = 4 ∨ op = 5 ∨ op = 6 ∨ op = 7 ∨ op = 8 ∨ op = 9 ∨ op = 10 := by omega
        rcases this with rfl | rfl | rfl | rfl | rfl | rfl | rfl | rfl <;> decide
      obtain ⟨hxA, hxT⟩ := back d x hx
      obtain ⟨hyA, hyT⟩ := back d y hy
      have hxne : 0 < (wE x (lvl op)).length := List.length_pos_iff.2 (head_ok d x hx _ []).2
      have hyne : 0 < (wE y (lvl op + 1)).length := List.length_pos_iff.2 (head_ok d y hy _ []).2
      -- at its own level
      have own : ∀ m rest, Stop (lvl op) rest → 10 * ((wE (binE op x y) (lvl op)).length + rest.length) + 10 ≤ m + lvl op → ∃ m', 10 * rest.length + 1 ≤ m' ∧ rdL nm m (lvl op) (wE (binE op x y) (lvl op) ++ rest) = rdO nm m' (lvl op) (binE op x y) rest := by
        intro m rest hs hm
        rw [wE_bin ho _ _ (Nat.le_refl _)] at hm ⊢
        rw [List.length_append, List.length_cons] at hm
        rw [List.append_assoc, List.cons_append]
        obtain ⟨m1, h1, he1⟩ := hxA (lvl op) m ((3, sgnS op) :: (wE y (lvl op + 1) ++ rest)) hv.1 hv.2 (Stop.sgn ho _) (by rw [List.length_cons, List.length_append]; omega)
        rw [List.length_cons, List.length_append] at h1
        obtain ⟨j, rfl⟩ : ∃ j, m1 = j + 1 := ⟨m1 - 1, by omega⟩
        rw [he1]
        refine ⟨j, by omega, ?_⟩
        show (match opAt (lvl op) ((3, sgnS op) :: (wE y (lvl op + 1) ++ rest)) with
          | none => _
          | some o => (rdL nm j (lvl op + 1) (wE y (lvl op + 1) ++ rest)).bind fun p => rdO nm j (lvl op) (binE o x p.1) p.2) = _
        rw [opAt_sgn ho, if_pos rfl]
        dsimp only
        by_cases h4 : lvl op = 4
        · rw [h4] at h1 hyne ⊢
          obtain ⟨i, rfl⟩ : ∃ i, j = i + 1 := ⟨j - 1, by omega⟩
          have e5 : rdL nm (i + 1) (4 + 1) (wE y (4 + 1) ++ rest) = rdT nm i (wE y 5 ++ rest) := by
            exact if_pos (by omega)
          have hq : (wE y (4 + 1)).length = (wE y 5).length := rfl
          rw [hq] at h1
          rw [e5, hyT i rest hs.1 (by rw [h4] at hm; omega)]
          rfl
        · obtain ⟨m2, h2, he2⟩ := hyA (lvl op + 1) j rest (by omega) (by omega) (hs.more (by omega)) (by omega)
          rw [he2, rdO_stop (by omega) (hs.2 _ (by omega) (by omega))]
          rfl
      -- at each lower one
      have low : ∀ k l, l + k = lvl op → 1 ≤ l → ∀ m rest, Stop l rest → 10 * ((wE (binE op x y) l).length + rest.length) + 10 ≤ m + l → ∃ m', 10 * rest.length + 1 ≤ m' ∧ rdL nm m l (wE (binE op x y) l ++ rest) = rdO nm m' l (binE op x y) rest := by
        intro k
        induction k with
        | zero =>
          intro l hl h1 m rest hs hm
          have hl' : l = lvl op := by omega
          rw [hl'] at hs hm ⊢
          exact own m rest hs hm
        | succ k ih =>
          intro l hl h1 m rest hs hm
          have e1 : wE (binE op x y) l = wE (binE op x y) (l + 1) := by rw [wE_bare _ (show l ≤ lvl op by omega), wE_bare _ (show l + 1 ≤ lvl op by omega)]
          rw [e1] at hm ⊢
          obtain ⟨j, rfl⟩ : ∃ j, m = j + 1 := ⟨m - 1, by omega⟩
          obtain ⟨m', hm', he⟩ := ih (l + 1) (by omega) (by omega) j rest (hs.more (by omega)) (by omega)
          have hpos : 0 < (wE (binE op x y) (l + 1)).length := List.length_pos_iff.2 (head_ok _ _ h _ []).2
          refine ⟨j, by omega, ?_⟩
          show (if 4 < l then rdT nm j _ else (rdL nm j (l + 1) (wE (binE op x y) (l + 1) ++ rest)).bind fun p => rdO nm j l p.1 p.2) = _
          rw [if_neg (by omega), he, rdO_stop (by omega) (hs.2 (l + 1) (by omega) (by omega))]
          rfl
      have hbr : ∀ l, lvl op < l → wE (binE op x y) l = (3, lpS) :: (wE (binE op x y) 1 ++ [(3, rpS)]) := by
        intro l hl
        rw [wE_bare (binE op x y) (show 1 ≤ lvl op by omega), wE_eq, decide_eq_true (show lvl (binE op x y).op < l from hl)]
        rfl
      have T : BackT nm (binE op x y) := by
        intro m rest hr hm
        rw [hbr 5 (by omega)] at hm ⊢
        rw [List.length_cons, List.length_append, List.length_singleton] at hm
        obtain ⟨j, rfl⟩ : ∃ j, m = j + 2 := ⟨m - 2, by omega⟩
        have e2 : ((3, lpS) :: (wE (binE op x y) 1 ++ [(3, rpS)])) ++ rest = (3, lpS) :: (wE (binE op x y) 1 ++ (3, rpS) :: rest) := by simp
        rw [e2, rdT_ahead aheadAt_lp, rdW_eq, if_pos rfl]
        obtain ⟨m', hm', he⟩ := low (lvl op - 1) 1 (by omega) (by omega) j ((3, rpS) :: rest) (Stop.rp _ _) (by rw [List.length_cons]; omega)
        rw [he, rdO_stop (by omega) (opAt_rp _ _ _)]
        show (if isT ((3, rpS) :: rest) rpS = true then some (binE op x y, rest) else none) = _
        rw [if_pos (isT_yes rfl)]
      refine ⟨?_, T⟩
      intro l m rest h1 h4 hs hm
      by_cases hlv : l ≤ lvl op
      · exact low (lvl op - l) l (by omega) h1 m rest hs hm
      · have e1 : wE (binE op x y) l = wE (binE op x y) 5 := by rw [hbr l (by omega), hbr 5 (by omega)]
        rw [e1] at hm ⊢
        have hpos : 0 < (wE (binE op x y) 5).length := List.length_pos_iff.2 (head_ok _ _ h _ []).2
        exact lift5 (fun m hm => T m rest hs.1 (by rw [List.length_append] at hm; exact hm)) (by rw [List.length_append]; omega) (4 - l) l (by omega) h1 hs m (by rw [List.length_append]; omega)
end
end Go.Proofs.YtkhcfhhejmkikaaGreatDoor
