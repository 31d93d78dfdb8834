/-
  Plain mathematics of reading: what is read is shorter than what stood there, and written in no more words. Nothing of a program stands here.
-/
import Derived.Test.YtljdbjfbcjigaaaGreatDoorMg1
import Derived.Lib.ItoaNum
namespace Go.Proofs.YtljdbjfbcjigaaaGreatDoor

/-- An expression. -/
inductive E where
  | mk (op n : Int) (name : ByteArray) (kids : List E)
def E.op : E → Int | .mk o _ _ _ => o
def E.n : E → Int | .mk _ n _ _ => n
def E.name : E → ByteArray | .mk _ _ s _ => s
def E.kids : E → List E | .mk _ _ _ ks => ks
theorem E.eta (e : E) : E.mk e.op e.n e.name e.kids = e := by cases e; rfl
theorem E.ext {a b : E} (h1 : a.op = b.op) (h2 : a.n = b.n) (h3 : a.name = b.name) (h4 : a.kids = b.kids) : a = b := by
  rw [← E.eta a, ← E.eta b, h1, h2, h3, h4]
instance : Inhabited E := ⟨.mk 0 0 ⟨#[]⟩ []⟩
/-- The expression that is nothing. -/
def E.none : E := .mk 0 0 ⟨#[]⟩ []
mutual
/-- How many parts an expression has. -/
def sizeE : E → Nat
  | .mk _ _ _ ks => 1 + sizeL ks
def sizeL : List E → Nat
  | [] => 0
  | k :: ks => sizeE k + sizeL ks
end
mutual
/-- How deep an expression is. -/
def deepE : E → Nat
  | .mk _ _ _ ks => deepL ks + 1
def deepL : List E → Nat
  | [] => 0
  | k :: ks => max (deepE k) (deepL ks)
end
theorem sizeE_kids (e : E) : sizeE e = 1 + sizeL e.kids := by cases e; rfl
theorem sizeE_pos (e : E) : 0 < sizeE e := by rw [sizeE_kids]; omega
theorem deepE_kids (e : E) : deepE e = deepL e.kids + 1 := by cases e; rfl
theorem sizeL_mem : ∀ {ks : List E} {k : E}, k ∈ ks → sizeE k ≤ sizeL ks
  | x :: ks, k, h => by
    show sizeE k ≤ sizeE x + sizeL ks
    rcases List.mem_cons.1 h with rfl | h
    · omega
    · have := sizeL_mem h; omega
theorem sizeL_get {ks : List E} {i : Nat} (h : i < ks.length) : sizeE ks[i] ≤ sizeL ks := sizeL_mem (List.getElem_mem h)
theorem deepL_mem : ∀ {ks : List E} {k : E}, k ∈ ks → deepE k ≤ deepL ks
  | x :: ks, k, h => by
    show deepE k ≤ max (deepE x) (deepL ks)
    rcases List.mem_cons.1 h with rfl | h
    · omega
    · have := deepL_mem h; omega
theorem sizeL_app : ∀ (a b : List E), sizeL (a ++ b) = sizeL a + sizeL b
  | [], b => by show sizeL b = 0 + sizeL b; omega
  | x :: a, b => by show sizeE x + sizeL (a ++ b) = sizeE x + sizeL a + sizeL b; rw [sizeL_app a b]; omega
theorem deepL_app : ∀ (a b : List E), deepL (a ++ b) = max (deepL a) (deepL b)
  | [], b => by show deepL b = max 0 (deepL b); omega
  | x :: a, b => by show max (deepE x) (deepL (a ++ b)) = max (max (deepE x) (deepL a)) (deepL b); rw [deepL_app a b]; omega
theorem sizeL_one (e : E) : sizeL [e] = sizeE e := rfl
theorem deepL_one (e : E) : deepL [e] = deepE e := by show max (deepE e) 0 = _; omega
theorem sizeL_take {ks : List E} {i : Nat} (h : i < ks.length) : sizeL (ks.take (i + 1)) = sizeL (ks.take i) + sizeE ks[i] := by
  rw [List.take_succ_eq_append_getElem h, sizeL_app, sizeL_one]
theorem deepL_take {ks : List E} {i : Nat} (h : i < ks.length) : deepL (ks.take (i + 1)) = max (deepL (ks.take i)) (deepE ks[i]) := by
  rw [List.take_succ_eq_append_getElem h, deepL_app, deepL_one]
theorem sizeL_take_le (ks : List E) (i : Nat) : sizeL (ks.take i) ≤ sizeL ks := by
  have h := sizeL_app (ks.take i) (ks.drop i)
  rw [List.take_append_drop] at h; omega
theorem deepL_take_le (ks : List E) (i : Nat) : deepL (ks.take i) ≤ deepL ks := by
  have h := deepL_app (ks.take i) (ks.drop i)
  rw [List.take_append_drop] at h; omega
theorem length_le_sizeL : ∀ (ks : List E), ks.length ≤ sizeL ks
  | [] => Nat.le_refl _
  | k :: ks => by have := length_le_sizeL ks; have := sizeE_pos k; show ks.length + 1 ≤ sizeE k + sizeL ks; omega
mutual
theorem deepE_le : ∀ (e : E), deepE e ≤ sizeE e
  | .mk _ _ _ ks => by have := deepL_le ks; show deepL ks + 1 ≤ 1 + sizeL ks; omega
theorem deepL_le : ∀ (ks : List E), deepL ks ≤ sizeL ks
  | [] => Nat.le_refl _
  | k :: ks => by have := deepE_le k; have := deepL_le ks; show max (deepE k) (deepL ks) ≤ sizeE k + sizeL ks; omega
end
/-- Induction over expressions. -/
theorem E.ind {P : E → Prop} (h : ∀ e : E, (∀ k ∈ e.kids, P k) → P e) : ∀ e, P e := by
  have main : ∀ N e, sizeE e ≤ N → P e := by
    intro N
    induction N with
    | zero => intro e he; have := sizeE_pos e; omega
    | succ N ih =>
      intro e he
      refine h e (fun k hk => ih k ?_)
      have := sizeL_mem hk
      rw [sizeE_kids] at he
      omega
  exact fun e => main _ e (Nat.le_refl _)

/-- What an op asks of an expression, but for what is in its Kids. -/
noncomputable def fitB (op n : Int) (s : ByteArray) (len : Nat) : Bool :=
  if op = 1 then decide (0 ≤ n ∧ n ≤ 255 ∧ s.size = 0 ∧ len = 0)
  else if op = 2 then decide (n = 0 ∧ len = 0) && nameB s
  else if op = 13 then decide (n = 0 ∧ len ≤ 3) && nameB s
  else if op = 11 ∨ op = 12 then decide (n = 0 ∧ s.size = 0 ∧ len = 1)
  else if 3 ≤ op ∧ op ≤ 10 then decide (n = 0 ∧ s.size = 0 ∧ len = 2)
  else false
/-- All parts fit, and it is at most so deep. -/
noncomputable def formE : Nat → E → Bool
  | 0, _ => false
  | d + 1, e => fitB e.op e.n e.name e.kids.length && e.kids.all (formE d)
/-- It is an expression. -/
noncomputable def validE (e : E) : Bool := formE 6 e && decide (sizeE e ≤ 30)
theorem formE_succ (d : Nat) (e : E) : formE (d + 1) e = (fitB e.op e.n e.name e.kids.length && e.kids.all (formE d)) := rfl
theorem formE_fit {d : Nat} {e : E} (h : formE d e = true) : fitB e.op e.n e.name e.kids.length = true := by
  cases d with
  | zero => cases h
  | succ d => rw [formE_succ, Bool.and_eq_true] at h; exact h.1
theorem formE_kid {d : Nat} {e k : E} (h : formE (d + 1) e = true) (hk : k ∈ e.kids) : formE d k = true := by
  rw [formE_succ, Bool.and_eq_true] at h
  exact List.all_eq_true.1 h.2 k hk
theorem formE_unfit {d : Nat} {e : E} (h : fitB e.op e.n e.name e.kids.length = false) : formE d e = false := by
  cases d with
  | zero => rfl
  | succ d => rw [formE_succ, h, Bool.false_and]
/-- The first i Kids have the form. -/
def kidsTo (d : Nat) (ks : List E) (i : Nat) : Prop := ∀ j, (h : j < ks.length) → j < i → formE d ks[j] = true
theorem kidsTo_succ {d : Nat} {ks : List E} {i : Nat} (h : kidsTo d ks i) (hi : i < ks.length) (hv : formE d ks[i] = true) : kidsTo d ks (i + 1) := by
  intro j hj hji
  by_cases e : j = i
  · subst e; exact hv
  · exact h j hj (by omega)
theorem kidsTo_zero (d : Nat) (ks : List E) : kidsTo d ks 0 := fun j _ hj => absurd hj (by omega)
theorem formE_yes {d : Nat} {e : E} (hf : fitB e.op e.n e.name e.kids.length = true) (h : kidsTo d e.kids e.kids.length) : formE (d + 1) e = true := by
  rw [formE_succ, hf, Bool.true_and, List.all_eq_true]
  intro k hk
  obtain ⟨j, hj, rfl⟩ := List.getElem_of_mem hk
  exact h j hj hj
theorem formE_bad {d : Nat} {e : E} {i : Nat} (hi : i < e.kids.length) (h : formE d e.kids[i] = false) : formE (d + 1) e = false := by
  rw [formE_succ, Bool.and_eq_false_iff]
  right
  rw [Bool.eq_false_iff]
  intro hall
  have := List.all_eq_true.1 hall _ (List.getElem_mem hi)
  rw [h] at this; cases this
theorem fitB_len {op n : Int} {s : ByteArray} {len : Nat} (h : fitB op n s len = true) : len ≤ 3 := by
  unfold fitB at h
  split at h
  · simp at h; omega
  split at h
  · simp at h; omega
  split at h
  · simp at h; omega
  split at h
  · simp at h; omega
  split at h
  · simp at h; omega
  · cases h
theorem deep_of_form : ∀ (d : Nat) (e : E), formE d e = true → deepE e ≤ d
  | 0, e, h => by cases h
  | d + 1, e, h => by
    rw [deepE_kids]
    have : ∀ ks : List E, (∀ k ∈ ks, formE d k = true) → deepL ks ≤ d := by
      intro ks
      induction ks with
      | nil => intro _; exact Nat.zero_le _
      | cons k ks ih =>
        intro h
        have h1 := deep_of_form d k (h k (List.mem_cons_self ..))
        have h2 := ih (fun x hx => h x (List.mem_cons_of_mem _ hx))
        show max (deepE k) (deepL ks) ≤ d
        omega
    have := this e.kids (fun k hk => formE_kid h hk)
    omega
theorem form_more : ∀ (d : Nat) (e : E), formE d e = true → formE (d + 1) e = true
  | 0, e, h => by cases h
  | d + 1, e, h => by
    rw [formE_succ, Bool.and_eq_true]
    exact ⟨formE_fit h, List.all_eq_true.2 fun k hk => form_more d k (formE_kid h hk)⟩
theorem form_mono {d d' : Nat} {e : E} (hd : d ≤ d') (h : formE d e = true) : formE d' e = true := by
  induction hd with
  | refl => exact h
  | step _ ih => exact form_more _ _ ih
/-- The form, however deep, and the depth are apart. -/
theorem form_deep : ∀ (d d' : Nat) (e : E), formE d e = true → deepE e ≤ d' → formE d' e = true
  | 0, _, e, h, _ => by cases h
  | d + 1, 0, e, _, h => by rw [deepE_kids] at h; omega
  | d + 1, d' + 1, e, h, hd => by
    rw [deepE_kids] at hd
    rw [formE_succ, Bool.and_eq_true]
    refine ⟨formE_fit h, List.all_eq_true.2 fun k hk => form_deep d d' k (formE_kid h hk) ?_⟩
    have := deepL_mem hk
    omega
theorem validE_form {e : E} (h : validE e = true) : formE 6 e = true := by unfold validE at h; rw [Bool.and_eq_true] at h; exact h.1
theorem validE_size {e : E} (h : validE e = true) : sizeE e ≤ 30 := by unfold validE at h; rw [Bool.and_eq_true, decide_eq_true_eq] at h; exact h.2
theorem validE_deep {e : E} (h : validE e = true) : deepE e ≤ 6 := deep_of_form 6 e (validE_form h)
end Go.Proofs.YtljdbjfbcjigaaaGreatDoor

namespace Go.Proofs.YtljdbjfbcjigaaaGreatDoor

/-- A word: its kind and its text. -/
abbrev W := Int × ByteArray
/-- The level of an op. -/
def lvl (op : Int) : Nat := if op = 10 then 1 else if op = 8 ∨ op = 9 then 2 else if op = 3 ∨ op = 4 then 3 else if op = 5 ∨ op = 6 ∨ op = 7 then 4 else if op = 11 ∨ op = 12 then 5 else 6
/-- The byte of an op's sign. -/
def sgnN (op : Int) : UInt8 := [43, 45, 42, 47, 37, 60, 61, 38, 33, 64].getD (op - 3).toNat 0
def sgnS (op : Int) : ByteArray := ⟨#[sgnN op]⟩
def lpS : ByteArray := ⟨#[40]⟩
def rpS : ByteArray := ⟨#[41]⟩
def cmS : ByteArray := ⟨#[44]⟩
def decS (n : Nat) : ByteArray := ⟨(Lib.decDigits n).toArray⟩
/-- The level that a Kid must have at least. -/
def needOf (op : Int) (i : Nat) : Nat := if op = 13 then 1 else if op = 11 ∨ op = 12 then 5 else lvl op + i
/-- Lists with commas between. -/
def commas : List (List W) → List W
  | [] => []
  | [p] => p
  | p :: q :: r => p ++ (3, cmS) :: commas (q :: r)
/-- The words of an expression, out of its Kids' words. -/
def bodyW (op n : Int) (s : ByteArray) (parts : List (List W)) : List W :=
  if op = 1 then [(2, decS n.toNat)] else if op = 2 then [(1, s)] else if op = 13 then (1, s) :: (3, lpS) :: (commas parts ++ [(3, rpS)])
  else match parts with
    | [p] => (3, sgnS op) :: p
    | [p, q] => p ++ (3, sgnS op) :: q
    | _ => []
/-- Words with brackets around, if they are needed. -/
def needW (b : Bool) (l : List W) : List W := if b = true then (3, lpS) :: (l ++ [(3, rpS)]) else l
mutual
/-- The words of an expression that stands where a level is needed. -/
def wE : E → Nat → List W
  | .mk op n s ks, need => needW (decide (lvl op < need)) (bodyW op n s (wL op 0 ks))
def wL (op : Int) : Nat → List E → List (List W)
  | _, [] => []
  | i, k :: ks => wE k (needOf op i) :: wL op (i + 1) ks
end
theorem wE_eq (e : E) (need : Nat) : wE e need = needW (decide (lvl e.op < need)) (bodyW e.op e.n e.name (wL e.op 0 e.kids)) := by cases e; rfl
theorem wL_length (op : Int) : ∀ (i : Nat) (ks : List E), (wL op i ks).length = ks.length
  | _, [] => rfl
  | i, k :: ks => by show (wL op (i + 1) ks).length + 1 = ks.length + 1; rw [wL_length op (i + 1) ks]
theorem wL_get (op : Int) : ∀ (i : Nat) (ks : List E) (j : Nat) (h : j < ks.length) (h' : j < (wL op i ks).length), (wL op i ks)[j] = wE ks[j] (needOf op (i + j))
  | _, [], j, h, _ => absurd h (by simp)
  | i, k :: ks, 0, _, _ => rfl
  | i, k :: ks, j + 1, h, h' => by
    have ih := wL_get op (i + 1) ks j (by simpa using h) (by rw [wL_length]; simpa using h)
    have e : i + 1 + j = i + (j + 1) := by omega
    rw [e] at ih
    exact ih
theorem wL_app (op : Int) : ∀ (i : Nat) (a b : List E), wL op i (a ++ b) = wL op i a ++ wL op (i + a.length) b
  | i, [], b => rfl
  | i, k :: a, b => by
    show wE k (needOf op i) :: wL op (i + 1) (a ++ b) = wE k (needOf op i) :: (wL op (i + 1) a ++ wL op (i + (a.length + 1)) b)
    rw [wL_app op (i + 1) a b]
    have e : i + 1 + a.length = i + (a.length + 1) := by omega
    rw [e]
theorem commas_snoc : ∀ (l : List (List W)) (p : List W), l ≠ [] → commas (l ++ [p]) = commas l ++ (3, cmS) :: p
  | [], _, h => absurd rfl h
  | [x], p, _ => rfl
  | x :: y :: r, p, _ => by
    have ih := commas_snoc (y :: r) p (by simp)
    show x ++ (3, cmS) :: commas (y :: r ++ [p]) = (x ++ (3, cmS) :: commas (y :: r)) ++ (3, cmS) :: p
    rw [ih]; simp
/-- The words of the first i Kids of a call, with commas between. -/
def callTo (ks : List E) (i : Nat) : List W := commas (wL 13 0 (ks.take i))
theorem callTo_zero (ks : List E) : callTo ks 0 = [] := by unfold callTo; rw [List.take_zero]; rfl
theorem callTo_first {ks : List E} (h : 0 < ks.length) : callTo ks 1 = wE ks[0] 1 := by
  unfold callTo
  rw [List.take_succ_eq_append_getElem h]
  rfl
theorem callTo_next {ks : List E} {i : Nat} (h : i < ks.length) (h0 : 0 < i) : callTo ks (i + 1) = callTo ks i ++ (3, cmS) :: wE ks[i] 1 := by
  unfold callTo
  rw [List.take_succ_eq_append_getElem h, wL_app]
  have e : wL 13 (0 + (ks.take i).length) [ks[i]] = [wE ks[i] 1] := by
    show [wE ks[i] (needOf 13 _)] = _
    rfl
  rw [e, commas_snoc _ _ (by
    intro hn
    have := congrArg List.length hn
    rw [wL_length, List.length_take, List.length_nil] at this
    omega)]
theorem callTo_end (ks : List E) : callTo ks ks.length = commas (wL 13 0 ks) := by unfold callTo; rw [List.take_length]

theorem body_num (n : Int) (s : ByteArray) (p : List (List W)) : bodyW 1 n s p = [(2, decS n.toNat)] := rfl
theorem body_var (n : Int) (s : ByteArray) (p : List (List W)) : bodyW 2 n s p = [(1, s)] := rfl
theorem body_call (n : Int) (s : ByteArray) (p : List (List W)) : bodyW 13 n s p = (1, s) :: (3, lpS) :: (commas p ++ [(3, rpS)]) := rfl
theorem body_un {op : Int} (h : op = 11 ∨ op = 12) (n : Int) (s : ByteArray) (p : List W) : bodyW op n s [p] = (3, sgnS op) :: p := by
  rcases h with rfl | rfl <;> rfl
theorem body_bin {op : Int} (h : 3 ≤ op ∧ op ≤ 10) (n : Int) (s : ByteArray) (p q : List W) : bodyW op n s [p, q] = p ++ (3, sgnS op) :: q := by
  unfold bodyW
  rw [if_neg (by omega), if_neg (by omega), if_neg (by omega)]

/-- Does a text stand next? -/
def isT (ws : List W) (t : ByteArray) : Bool := match ws with
  | [] => false
  | w :: _ => decide (w.2 = t)
/-- The op of a level that stands next, with two Kids. -/
def opAt (l : Nat) (ws : List W) : Option Int := [3, 4, 5, 6, 7, 8, 9, 10].find? fun op => decide (lvl op = l) && isT ws (sgnS op)
/-- The op that stands next, ahead of one Kid. -/
def aheadAt (ws : List W) : Option Int := [11, 12].find? fun op => isT ws (sgnS op)
def unE (op : Int) (x : E) : E := .mk op 0 ⟨#[]⟩ [x]
def binE (op : Int) (x y : E) : E := .mk op 0 ⟨#[]⟩ [x, y]
def numE (n : Int) : E := .mk 1 n ⟨#[]⟩ []
def varE (s : ByteArray) : E := .mk 2 0 s []
def callE (s : ByteArray) (ks : List E) : E := .mk 13 0 s ks
/-- The number of a word of digits. -/
def numW (s : ByteArray) : Int := ((s.data.toList.foldl (fun a b => a * 10 + (b.toNat - 48)) 0 : Nat) : Int)
mutual
/-- Reads an expression of a level. -/
def rdL (nm : ByteArray → Int) : Nat → Nat → List W → Option (E × List W)
  | 0, _, _ => none
  | m + 1, l, ws => if 4 < l then rdT nm m ws else (rdL nm m (l + 1) ws).bind fun p => rdO nm m l p.1 p.2
/-- Goes on with ops of a level. -/
def rdO (nm : ByteArray → Int) : Nat → Nat → E → List W → Option (E × List W)
  | 0, _, _, _ => none
  | m + 1, l, x, ws => match opAt l ws with
    | none => some (x, ws)
    | some op => (rdL nm m (l + 1) ws.tail).bind fun p => rdO nm m l (binE op x p.1) p.2
/-- Reads an expression of the level 5 or 6. -/
def rdT (nm : ByteArray → Int) : Nat → List W → Option (E × List W)
  | 0, _ => none
  | m + 1, ws => match aheadAt ws with
    | some op => (rdT nm m ws.tail).bind fun p => some (unE op p.1, p.2)
    | none => rdW nm m ws
/-- Reads an expression of the level 6. -/
def rdW (nm : ByteArray → Int) : Nat → List W → Option (E × List W)
  | 0, _ => none
  | _ + 1, [] => none
  | m + 1, w :: r =>
      if w.2 = lpS then (rdL nm m 1 r).bind fun p => if isT p.2 rpS = true then some (p.1, p.2.tail) else none
      else if w.1 = 2 then some (numE (nm w.2), r)
      else if w.1 = 1 then (if isT r lpS = true then (rdC nm m r.tail).bind fun p => some (callE w.2 p.1, p.2) else some (varE w.2, r))
      else none
/-- Reads the Kids of a call, and the bracket behind them. -/
def rdC (nm : ByteArray → Int) : Nat → List W → Option (List E × List W)
  | 0, _ => none
  | m + 1, ws => if isT ws rpS = true then some ([], ws.tail) else rdK nm m [] ws
def rdK (nm : ByteArray → Int) : Nat → List E → List W → Option (List E × List W)
  | 0, _, _ => none
  | m + 1, acc, ws => (rdL nm m 1 ws).bind fun p =>
      if isT p.2 rpS = true then some (acc ++ [p.1], p.2.tail)
      else if isT p.2 cmS = true then rdK nm m (acc ++ [p.1]) p.2.tail else none
end
end Go.Proofs.YtljdbjfbcjigaaaGreatDoor

namespace Go.Proofs.YtljdbjfbcjigaaaGreatDoor

theorem isT_cons {ws : List W} {t : ByteArray} (h : isT ws t = true) : ∃ w r, ws = w :: r ∧ w.2 = t := by
  cases ws with
  | nil => cases h
  | cons w r => exact ⟨w, r, rfl, by simpa [isT] using h⟩
theorem find8 {p : Int → Bool} {op : Int} (h : ([3, 4, 5, 6, 7, 8, 9, 10] : List Int).find? p = some op) : p op = true ∧ 3 ≤ op ∧ op ≤ 10 := by
  have h1 := List.find?_some h
  have h2 := List.mem_of_find?_eq_some h
  simp only [List.mem_cons, List.not_mem_nil, or_false] at h2
  exact ⟨h1, by omega, by omega⟩
theorem opAt_some {l : Nat} {ws : List W} {op : Int} (h : opAt l ws = some op) : 3 ≤ op ∧ op ≤ 10 ∧ lvl op = l ∧ isT ws (sgnS op) = true := by
  unfold opAt at h
  obtain ⟨h1, h2, h3⟩ := find8 h
  rw [Bool.and_eq_true, decide_eq_true_eq] at h1
  exact ⟨h2, h3, h1.1, h1.2⟩
theorem aheadAt_some {ws : List W} {op : Int} (h : aheadAt ws = some op) : (op = 11 ∨ op = 12) ∧ isT ws (sgnS op) = true := by
  unfold aheadAt at h
  have h1 := List.find?_some h
  have h2 := List.mem_of_find?_eq_some h
  simp only [List.mem_cons, List.not_mem_nil, or_false] at h2
  exact ⟨h2, h1⟩

theorem lvl_bd (op : Int) : 1 ≤ lvl op ∧ lvl op ≤ 6 := by unfold lvl; constructor <;> (repeat' split) <;> omega
theorem needW_length (b : Bool) (l : List W) : l.length ≤ (needW b l).length := by
  unfold needW; split
  · simp; omega
  · exact Nat.le_refl _
theorem needW_length' (b : Bool) (l : List W) : (needW b l).length ≤ l.length + 2 := by
  unfold needW; split
  · simp
  · omega
/-- Where less is needed, no more words are. -/
theorem wE_less (e : E) {l l' : Nat} (h : l ≤ l') : (wE e l).length ≤ (wE e l').length := by
  rw [wE_eq, wE_eq]
  by_cases h1 : lvl e.op < l
  · rw [decide_eq_true h1, decide_eq_true (show lvl e.op < l' by omega)]; exact Nat.le_refl _
  · rw [decide_eq_false h1]; exact needW_length _ _
theorem wE_two (e : E) (l l' : Nat) : (wE e l).length ≤ (wE e l').length + 2 := by
  rw [wE_eq, wE_eq]
  have := needW_length' (decide (lvl e.op < l)) (bodyW e.op e.n e.name (wL e.op 0 e.kids))
  have := needW_length (decide (lvl e.op < l')) (bodyW e.op e.n e.name (wL e.op 0 e.kids))
  omega
theorem wE_bare (e : E) {l : Nat} (h : l ≤ lvl e.op) : wE e l = bodyW e.op e.n e.name (wL e.op 0 e.kids) := by
  rw [wE_eq, decide_eq_false (by omega)]; rfl
theorem wE_bin {op : Int} (h : 3 ≤ op ∧ op ≤ 10) (x y : E) {l : Nat} (hl : l ≤ lvl op) : wE (binE op x y) l = wE x (lvl op) ++ (3, sgnS op) :: wE y (lvl op + 1) := by
  rw [wE_bare _ (show l ≤ lvl (binE op x y).op from hl)]
  show bodyW op 0 ⟨#[]⟩ [wE x (needOf op 0), wE y (needOf op 1)] = _
  have e0 : needOf op 0 = lvl op := by unfold needOf; rw [if_neg (by omega), if_neg (by omega)]; rfl
  have e1 : needOf op 1 = lvl op + 1 := by unfold needOf; rw [if_neg (by omega), if_neg (by omega)]
  rw [body_bin h, e0, e1]
theorem lvl_un {op : Int} (h : op = 11 ∨ op = 12) : lvl op = 5 := by rcases h with rfl | rfl <;> rfl
theorem wE_un {op : Int} (h : op = 11 ∨ op = 12) (x : E) {l : Nat} (hl : l ≤ 5) : wE (unE op x) l = (3, sgnS op) :: wE x 5 := by
  rw [wE_bare _ (show l ≤ lvl (unE op x).op by show l ≤ lvl op; rw [lvl_un h]; exact hl)]
  show bodyW op 0 ⟨#[]⟩ [wE x (needOf op 0)] = _
  have e0 : needOf op 0 = 5 := by unfold needOf; rw [if_neg (by omega), if_pos h]
  rw [body_un h, e0]
theorem wE_num (n : Int) {l : Nat} (hl : l ≤ 6) : wE (numE n) l = [(2, decS n.toNat)] := wE_bare _ hl
theorem wE_var (s : ByteArray) {l : Nat} (hl : l ≤ 6) : wE (varE s) l = [(1, s)] := wE_bare _ hl
theorem wE_call (s : ByteArray) (ks : List E) {l : Nat} (hl : l ≤ 6) : wE (callE s ks) l = (1, s) :: (3, lpS) :: (commas (wL 13 0 ks) ++ [(3, rpS)]) := wE_bare _ hl
theorem sizeE_bin (op : Int) (x y : E) : sizeE (binE op x y) = 1 + (sizeE x + sizeE y) := by show 1 + (sizeE x + (sizeE y + 0)) = _; omega
theorem sizeE_un (op : Int) (x : E) : sizeE (unE op x) = 1 + sizeE x := by show 1 + (sizeE x + 0) = _; omega
theorem sizeE_call (s : ByteArray) (ks : List E) : sizeE (callE s ks) = 1 + sizeL ks := rfl
/-- The words of Kids read so far. -/
theorem commas_len (acc : List E) (e : E) : (commas (wL 13 0 (acc ++ [e]))).length ≤ (commas (wL 13 0 acc)).length + (if acc = [] then 0 else 1) + (wE e 1).length := by
  rw [wL_app]
  have e1 : wL 13 (0 + acc.length) [e] = [wE e 1] := by show [wE e (needOf 13 _)] = _; rfl
  rw [e1]
  by_cases h : acc = []
  · subst h; rw [if_pos rfl]; show (wE e 1).length ≤ 0 + 0 + _; omega
  · rw [if_neg h, commas_snoc _ _ (by
      intro hn
      have := congrArg List.length hn
      rw [wL_length, List.length_nil, List.length_eq_zero_iff] at this
      exact h this), List.length_append, List.length_cons]
    omega

/-- What reading leaves, and what it makes. -/
def Less (l : Nat) (e : E) (r ws : List W) : Prop := r <:+ ws ∧ r.length < ws.length ∧ sizeE e + r.length ≤ ws.length ∧ (wE e l).length + r.length ≤ ws.length
theorem Less.level {l l' : Nat} {e : E} {r ws : List W} (h : Less l e r ws) (hl : l' ≤ l) : Less l' e r ws := ⟨h.1, h.2.1, h.2.2.1, by have := wE_less e hl; have := h.2.2.2; omega⟩
structure RdLess (nm : ByteArray → Int) (m : Nat) : Prop where
  L : ∀ l ws e r, l ≤ 5 → rdL nm m l ws = some (e, r) → Less l e r ws
  O : ∀ l x ws e r, l ≤ 4 → rdO nm m l x ws = some (e, r) → r <:+ ws ∧ sizeE e + r.length ≤ sizeE x + ws.length ∧ (wE e l).length + r.length ≤ (wE x l).length + ws.length
  T : ∀ ws e r, rdT nm m ws = some (e, r) → Less 5 e r ws
  W : ∀ ws e r, rdW nm m ws = some (e, r) → Less 6 e r ws
  C : ∀ ws ks r, rdC nm m ws = some (ks, r) → r <:+ ws ∧ r.length < ws.length ∧ sizeL ks + r.length + 1 ≤ ws.length ∧ (commas (wL 13 0 ks)).length + 1 + r.length ≤ ws.length
  K : ∀ acc ws ks r, rdK nm m acc ws = some (ks, r) → r <:+ ws ∧ r.length < ws.length ∧ sizeL ks + r.length + 1 ≤ sizeL acc + ws.length ∧ (commas (wL 13 0 ks)).length + 1 + r.length ≤ (commas (wL 13 0 acc)).length + (if acc = [] then 0 else 1) + ws.length
theorem rd_less (nm : ByteArray → Int) : ∀ m, RdLess nm m
  | 0 => ⟨fun _ _ _ _ _ h => (by cases h), fun _ _ _ _ _ _ h => (by cases h), fun _ _ _ h => (by cases h), fun _ _ _ h => (by cases h), fun _ _ _ h => (by cases h), fun _ _ _ _ h => (by cases h)⟩
  | m + 1 => by
    have ih := rd_less nm m
    refine ⟨?_, ?_, ?_, ?_, ?_, ?_⟩
    · intro l ws e r hl h
      have h' : (if 4 < l then rdT nm m ws else (rdL nm m (l + 1) ws).bind fun p => rdO nm m l p.1 p.2) = some (e, r) := h
      split at h'
      · exact (ih.T _ _ _ h').level hl
      · rw [Option.bind_eq_some_iff] at h'
        obtain ⟨⟨x, r1⟩, h1, h2⟩ := h'
        have a := ih.L _ _ _ _ (by omega) h1
        have b := ih.O _ _ _ _ _ (by omega) h2
        have c := wE_less x (show l ≤ l + 1 by omega)
        obtain ⟨a1, a2, a3, a4⟩ := a
        obtain ⟨b1, b2, b3⟩ := b
        have b4 := b1.length_le
        dsimp only at b1 b2 b3 b4
        exact ⟨b1.trans a1, by omega, by omega, by omega⟩
    · intro l x ws e r hl h
      have h' : (match opAt l ws with
        | none => some (x, ws)
        | some op => (rdL nm m (l + 1) ws.tail).bind fun p => rdO nm m l (binE op x p.1) p.2) = some (e, r) := h
      split at h'
      · injection h' with h'; injection h' with h1 h2; subst h1; subst h2
        exact ⟨List.suffix_refl _, by omega, by omega⟩
      · rename_i op hop
        obtain ⟨o1, o2, o3, o4⟩ := opAt_some hop
        obtain ⟨w, ws', rfl, ow⟩ := isT_cons o4
        rw [Option.bind_eq_some_iff] at h'
        obtain ⟨⟨y, r1⟩, h1, h2⟩ := h'
        obtain ⟨a1, a2, a3, a4⟩ := ih.L _ _ _ _ (by omega) h1
        obtain ⟨b1, b2, b3⟩ := ih.O _ _ _ _ _ hl h2
        have b4 := b1.length_le
        dsimp only [List.tail_cons] at a1 a2 a3 a4 b1 b2 b3 b4
        rw [sizeE_bin] at b2
        rw [wE_bin ⟨o1, o2⟩ _ _ (by omega), o3, List.length_append, List.length_cons] at b3
        refine ⟨(b1.trans a1).trans (List.suffix_cons _ _), ?_, ?_⟩ <;> rw [List.length_cons] <;> omega
    · intro ws e r h
      have h' : (match aheadAt ws with
        | some op => (rdT nm m ws.tail).bind fun p => some (unE op p.1, p.2)
        | none => rdW nm m ws) = some (e, r) := h
      split at h'
      · rename_i op hop
        obtain ⟨o1, o4⟩ := aheadAt_some hop
        obtain ⟨w, ws', rfl, ow⟩ := isT_cons o4
        rw [Option.bind_eq_some_iff] at h'
        obtain ⟨⟨x, r1⟩, h1, h2⟩ := h'
        injection h2 with h2; injection h2 with h2 h3; subst h2; subst h3
        obtain ⟨a1, a2, a3, a4⟩ := ih.T _ _ _ h1
        dsimp only [List.tail_cons] at a1 a2 a3 a4 ⊢
        refine ⟨a1.trans (List.suffix_cons _ _), ?_, ?_, ?_⟩
        · rw [List.length_cons]; omega
        · rw [sizeE_un, List.length_cons]; omega
        · rw [wE_un o1 _ (Nat.le_refl _), List.length_cons, List.length_cons]; omega
      · exact (ih.W _ _ _ h').level (by omega)
    · intro ws e r h
      cases ws with
      | nil => cases h
      | cons w ws =>
        have h' : (if w.2 = lpS then (rdL nm m 1 ws).bind fun p => if isT p.2 rpS = true then some (p.1, p.2.tail) else none
          else if w.1 = 2 then some (numE (nm w.2), ws)
          else if w.1 = 1 then (if isT ws lpS = true then (rdC nm m ws.tail).bind fun p => some (callE w.2 p.1, p.2) else some (varE w.2, ws))
          else none) = some (e, r) := h
        split at h'
        · rw [Option.bind_eq_some_iff] at h'
          obtain ⟨⟨x, r1⟩, h1, h2⟩ := h'
          obtain ⟨a1, a2, a3, a4⟩ := ih.L _ _ _ _ (by omega) h1
          dsimp only at h2 a1 a2 a3 a4
          split at h2
          · rename_i ht
            obtain ⟨w2, r2, rfl, _⟩ := isT_cons ht
            injection h2 with h2; injection h2 with h2 h3; subst h2; subst h3
            have c := wE_two x 6 1
            rw [List.length_cons] at a2 a3 a4
            dsimp only [List.tail_cons]
            refine ⟨((List.suffix_cons _ _).trans a1).trans (List.suffix_cons _ _), ?_, ?_, ?_⟩ <;> rw [List.length_cons] <;> omega
          · cases h2
        · split at h'
          · injection h' with h'; injection h' with h1 h2; subst h1; subst h2
            refine ⟨List.suffix_cons _ _, ?_, ?_, ?_⟩
            · rw [List.length_cons]; omega
            · rw [List.length_cons]; show 1 + 0 + _ ≤ _; omega
            · rw [wE_num _ (Nat.le_refl _), List.length_cons, List.length_cons]; simp; omega
          · split at h'
            · split at h'
              · rename_i ht
                obtain ⟨w2, r2, rfl, _⟩ := isT_cons ht
                rw [Option.bind_eq_some_iff] at h'
                obtain ⟨⟨ks, r1⟩, h1, h2⟩ := h'
                injection h2 with h2; injection h2 with h2 h3; subst h2; subst h3
                obtain ⟨a1, a2, a3, a4⟩ := ih.C _ _ _ h1
                dsimp only [List.tail_cons] at a1 a2 a3 a4 ⊢
                refine ⟨(a1.trans (List.suffix_cons _ _)).trans (List.suffix_cons _ _), ?_, ?_, ?_⟩
                · simp only [List.length_cons]; omega
                · rw [sizeE_call]; simp only [List.length_cons]; omega
                · rw [wE_call _ _ (Nat.le_refl _)]; simp only [List.length_cons, List.length_append, List.length_nil]; omega
              · injection h' with h'; injection h' with h1 h2; subst h1; subst h2
                refine ⟨List.suffix_cons _ _, ?_, ?_, ?_⟩
                · rw [List.length_cons]; omega
                · rw [List.length_cons]; show 1 + 0 + _ ≤ _; omega
                · rw [wE_var _ (Nat.le_refl _), List.length_cons, List.length_cons]; simp; omega
            · cases h'
    · intro ws ks r h
      have h' : (if isT ws rpS = true then some ([], ws.tail) else rdK nm m [] ws) = some (ks, r) := h
      split at h'
      · rename_i ht
        obtain ⟨w2, r2, rfl, _⟩ := isT_cons ht
        injection h' with h'; injection h' with h1 h2; subst h1; subst h2
        dsimp only [List.tail_cons]
        refine ⟨List.suffix_cons _ _, ?_, ?_, ?_⟩
        · rw [List.length_cons]; omega
        · rw [List.length_cons]; show 0 + _ + 1 ≤ _; omega
        · rw [List.length_cons]; show 0 + 1 + _ ≤ _; omega
      · obtain ⟨a1, a2, a3, a4⟩ := ih.K _ _ _ _ h'
        rw [if_pos rfl] at a4
        have e0 : (commas (wL 13 0 [])).length = 0 := rfl
        have e1 : sizeL [] = 0 := rfl
        exact ⟨a1, a2, by omega, by omega⟩
    · intro acc ws ks r h
      have h' : ((rdL nm m 1 ws).bind fun p =>
        if isT p.2 rpS = true then some (acc ++ [p.1], p.2.tail)
        else if isT p.2 cmS = true then rdK nm m (acc ++ [p.1]) p.2.tail else none) = some (ks, r) := h
      rw [Option.bind_eq_some_iff] at h'
      obtain ⟨⟨x, r1⟩, h1, h2⟩ := h'
      obtain ⟨a1, a2, a3, a4⟩ := ih.L _ _ _ _ (by omega) h1
      have c := commas_len acc x
      dsimp only at h2 a1 a2 a3 a4
      split at h2
      · rename_i ht
        obtain ⟨w2, r2, rfl, _⟩ := isT_cons ht
        injection h2 with h2; injection h2 with h2 h3; subst h2; subst h3
        dsimp only [List.tail_cons] at a1 a2 a3 a4 ⊢
        rw [List.length_cons] at a2 a3 a4
        refine ⟨(List.suffix_cons _ _).trans a1, by omega, ?_, ?_⟩
        · rw [sizeL_app, sizeL_one]; omega
        · omega
      · split at h2
        · rename_i ht
          obtain ⟨w2, r2, rfl, _⟩ := isT_cons ht
          obtain ⟨b1, b2, b3, b4⟩ := ih.K _ _ _ _ h2
          dsimp only [List.tail_cons] at a1 a2 a3 a4 b1 b2 b3 b4
          rw [List.length_cons] at a2 a3 a4
          rw [sizeL_app, sizeL_one] at b3
          rw [if_neg (by simp)] at b4
          refine ⟨(b1.trans (List.suffix_cons _ _)).trans a1, by omega, by omega, by omega⟩
        · cases h2
end Go.Proofs.YtljdbjfbcjigaaaGreatDoor
