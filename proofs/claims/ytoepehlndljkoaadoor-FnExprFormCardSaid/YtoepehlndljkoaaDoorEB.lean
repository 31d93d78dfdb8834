/-
  Plain mathematics of reading back: an expression is read from its words. Nothing of a program stands here.
-/
import Derived.Test.YtoepehlndljkoaaDoorER
namespace Go.Proofs.YtoepehlndljkoaaDoor

theorem size_zero {s : ByteArray} (h : s.size = 0) : s = ⟨#[]⟩ := by
  cases s with | mk d => 
  have : d.size = 0 := h
  rw [Array.size_eq_zero_iff] at this
  rw [this]
theorem fitB_cases {op n : Int} {s : ByteArray} {len : Nat} (h : fitB op n s len = true) :
    (op = 1 ∧ (0 ≤ n ∧ n ≤ 255) ∧ s = ⟨#[]⟩ ∧ len = 0) ∨ (op = 2 ∧ n = 0 ∧ len = 0 ∧ nameB s = true) ∨ (op = 13 ∧ n = 0 ∧ len ≤ 3 ∧ nameB s = true) ∨
    ((op = 11 ∨ op = 12) ∧ n = 0 ∧ s = ⟨#[]⟩ ∧ len = 1) ∨ ((3 ≤ op ∧ op ≤ 10) ∧ n = 0 ∧ s = ⟨#[]⟩ ∧ len = 2) := by
  unfold fitB at h
  split at h
  · rw [decide_eq_true_eq] at h; exact .inl ⟨by assumption, ⟨h.1, h.2.1⟩, size_zero h.2.2.1, h.2.2.2⟩
  split at h
  · rw [Bool.and_eq_true, decide_eq_true_eq] at h; exact .inr (.inl ⟨by assumption, h.1.1, h.1.2, h.2⟩)
  split at h
  · rw [Bool.and_eq_true, decide_eq_true_eq] at h; exact .inr (.inr (.inl ⟨by assumption, h.1.1, h.1.2, h.2⟩))
  split at h
  · rw [decide_eq_true_eq] at h; exact .inr (.inr (.inr (.inl ⟨by assumption, h.1, size_zero h.2.1, h.2.2⟩)))
  split at h
  · rw [decide_eq_true_eq] at h; exact .inr (.inr (.inr (.inr ⟨by assumption, h.1, size_zero h.2.1, h.2.2⟩)))
  · cases h
theorem kids_one {ks : List E} (h : ks.length = 1) : ∃ x, ks = [x] := by
  match ks, h with
  | [x], _ => exact ⟨x, rfl⟩
theorem kids_two {ks : List E} (h : ks.length = 2) : ∃ x y, ks = [x, y] := by
  match ks, h with
  | [x, y], _ => exact ⟨x, y, rfl⟩
/-- The forms of an expression. -/
theorem form_cases {d : Nat} {e : E} (h : formE (d + 1) e = true) :
    (∃ n, e = numE n ∧ 0 ≤ n ∧ n ≤ 255) ∨ (∃ s, e = varE s ∧ nameB s = true) ∨ (∃ s ks, e = callE s ks ∧ nameB s = true ∧ ks.length ≤ 3 ∧ ∀ k ∈ ks, formE d k = true) ∨
    (∃ op x, e = unE op x ∧ (op = 11 ∨ op = 12) ∧ formE d x = true) ∨ (∃ op x y, e = binE op x y ∧ (3 ≤ op ∧ op ≤ 10) ∧ formE d x = true ∧ formE d y = true) := by
  have hk := fun k hk => formE_kid (k := k) h hk
  have hf := fitB_cases (formE_fit h)
  obtain ⟨op, n, s, ks⟩ := e
  dsimp only [E.op, E.n, E.name, E.kids] at hf hk
  rcases hf with ⟨rfl, hn, rfl, hl⟩ | ⟨rfl, rfl, hl, hn⟩ | ⟨rfl, rfl, hl, hn⟩ | ⟨ho, rfl, rfl, hl⟩ | ⟨ho, rfl, rfl, hl⟩
  · rw [List.length_eq_zero_iff] at hl; subst hl; exact .inl ⟨n, rfl, hn.1, hn.2⟩
  · rw [List.length_eq_zero_iff] at hl; subst hl; exact .inr (.inl ⟨s, rfl, hn⟩)
  · exact .inr (.inr (.inl ⟨s, ks, rfl, hn, hl, hk⟩))
  · obtain ⟨x, rfl⟩ := kids_one hl
    exact .inr (.inr (.inr (.inl ⟨op, x, rfl, ho, hk x (by simp)⟩)))
  · obtain ⟨x, y, rfl⟩ := kids_two hl
    exact .inr (.inr (.inr (.inr ⟨op, x, y, rfl, ho, hk x (by simp), hk y (by simp)⟩)))

/-- A text that is no sign. -/
def plainT (s : ByteArray) : Prop := ∀ b : UInt8, cls b.toNat = 3 → s ≠ ⟨#[b]⟩
open Classical in
theorem name_plain {s : ByteArray} (h : nameB s = true) : plainT s := by
  rintro b hb rfl
  unfold nameB at h
  simp only [Bool.and_eq_true] at h
  have ha := h.1.1
  unfold allB at ha
  rw [decide_eq_true_eq] at ha
  have := ha.2 0 (Nat.zero_lt_one) (Nat.zero_lt_one)
  have e : (⟨#[b]⟩ : ByteArray)[0]'(Nat.zero_lt_one) = b := rfl
  rw [e] at this
  omega
theorem decDigits_digit : ∀ n : Nat, ∃ l b, Lib.decDigits n = l ++ [b] ∧ cls b.toNat = 2 := by
  intro n
  have hd : ∀ k < 10, cls (UInt8.ofNat (48 + k)).toNat = 2 := by decide
  by_cases h : n < 10
  · refine ⟨[], UInt8.ofNat (48 + n % 10), ?_, hd _ (by omega)⟩
    rw [Lib.decDigits_one h, Nat.mod_eq_of_lt h]; rfl
  · refine ⟨Lib.decDigits (n / 10), UInt8.ofNat (48 + n % 10), ?_, hd _ (by omega)⟩
    rw [Lib.decDigits, dif_neg h]
theorem dec_plain (n : Nat) : plainT (decS n) := by
  intro b hb he
  obtain ⟨l, c, hl, hc⟩ := decDigits_digit n
  unfold decS at he
  have := congrArg (fun s : ByteArray => s.data.toList) he
  dsimp only at this
  rw [hl] at this
  have hlen := congrArg List.length this
  simp at hlen
  subst hlen
  simp at this
  rw [this] at hc
  omega
theorem sgn_cls {op : Int} (h : 3 ≤ op ∧ op ≤ 12) : cls (sgnN op).toNat = 3 := by
  have : op = 3 ∨ op = 4 ∨ op = 5 ∨ op = 6 ∨ op = 7 ∨ op = 8 ∨ op = 9 ∨ op = 10 ∨ op = 11 ∨ op = 12 := by omega
  rcases this with rfl | rfl | rfl | rfl | rfl | rfl | rfl | rfl | rfl | rfl <;> decide
theorem sgnS_inj {a b : Int} (ha : 3 ≤ a ∧ a ≤ 12) (hb : 3 ≤ b ∧ b ≤ 12) (h : sgnS a = sgnS b) : a = b := by
  have h' : sgnN a = sgnN b := by unfold sgnS at h; injection h with h; simpa using h
  have h1 : a = 3 ∨ a = 4 ∨ a = 5 ∨ a = 6 ∨ a = 7 ∨ a = 8 ∨ a = 9 ∨ a = 10 ∨ a = 11 ∨ a = 12 := by omega
  have h2 : b = 3 ∨ b = 4 ∨ b = 5 ∨ b = 6 ∨ b = 7 ∨ b = 8 ∨ b = 9 ∨ b = 10 ∨ b = 11 ∨ b = 12 := by omega
  rcases h1 with rfl | rfl | rfl | rfl | rfl | rfl | rfl | rfl | rfl | rfl <;> rcases h2 with rfl | rfl | rfl | rfl | rfl | rfl | rfl | rfl | rfl | rfl <;> first | rfl | (exfalso; revert h'; decide)
theorem sgn_ne_br {op : Int} (h : 3 ≤ op ∧ op ≤ 12) : sgnS op ≠ lpS ∧ sgnS op ≠ rpS ∧ sgnS op ≠ cmS := by
  have : op = 3 ∨ op = 4 ∨ op = 5 ∨ op = 6 ∨ op = 7 ∨ op = 8 ∨ op = 9 ∨ op = 10 ∨ op = 11 ∨ op = 12 := by omega
  rcases this with rfl | rfl | rfl | rfl | rfl | rfl | rfl | rfl | rfl | rfl <;> decide
theorem isT_no {w : W} {r : List W} {t : ByteArray} (h : w.2 ≠ t) : isT (w :: r) t = false := by show decide (w.2 = t) = false; exact decide_eq_false h
theorem isT_yes {w : W} {r : List W} {t : ByteArray} (h : w.2 = t) : isT (w :: r) t = true := by show decide (w.2 = t) = true; exact decide_eq_true h
theorem opAt_none {l : Nat} {ws : List W} (h : ∀ op, 3 ≤ op → op ≤ 10 → lvl op = l → isT ws (sgnS op) = false) : opAt l ws = none := by
  unfold opAt
  rw [List.find?_eq_none]
  intro op hop
  simp only [List.mem_cons, List.not_mem_nil, or_false] at hop
  by_cases hl : lvl op = l
  · rw [h op (by omega) (by omega) hl]; simp
  · rw [decide_eq_false hl]; simp
theorem opAt_sgn {op : Int} (h : 3 ≤ op ∧ op ≤ 10) (r : List W) (l : Nat) : opAt l ((3, sgnS op) :: r) = if lvl op = l then some op else none := by
  split
  · rename_i hl
    cases hf : opAt l ((3, sgnS op) :: r) with
    | some o =>
      obtain ⟨a, b, c, d⟩ := opAt_some hf
      have : sgnS op = sgnS o := by simpa [isT] using d
      rw [sgnS_inj (by omega) (by omega) this]
    | none =>
      unfold opAt at hf
      rw [List.find?_eq_none] at hf
      have := hf op (by simp only [List.mem_cons, List.not_mem_nil, or_false]; omega)
      rw [decide_eq_true hl, isT_yes rfl] at this
      simp at this
  · rename_i hl
    refine opAt_none fun o h1 h2 h3 => isT_no ?_
    intro e
    have := sgnS_inj (by omega) (by omega) e
    subst this
    exact hl h3
theorem aheadAt_none {ws : List W} (h : ∀ op, op = 11 ∨ op = 12 → isT ws (sgnS op) = false) : aheadAt ws = none := by
  unfold aheadAt
  rw [List.find?_eq_none]
  intro op hop
  simp only [List.mem_cons, List.not_mem_nil, or_false] at hop
  rw [h op hop]; simp
theorem aheadAt_plain {k : Int} {s : ByteArray} {r : List W} (h : plainT s) : aheadAt ((k, s) :: r) = none :=
  aheadAt_none fun op ho => isT_no (h (sgnN op) (sgn_cls (by omega)))
theorem aheadAt_lp {k : Int} {r : List W} : aheadAt ((k, lpS) :: r) = none :=
  aheadAt_none fun op ho => isT_no (fun e => (sgn_ne_br (op := op) (by omega)).1 e.symm)
theorem aheadAt_sgn {op : Int} (h : op = 11 ∨ op = 12) (r : List W) : aheadAt ((3, sgnS op) :: r) = some op := by
  cases hf : aheadAt ((3, sgnS op) :: r) with
  | some o =>
    obtain ⟨a, d⟩ := aheadAt_some hf
    have : sgnS op = sgnS o := by simpa [isT] using d
    rw [sgnS_inj (by omega) (by omega) this]
  | none =>
    unfold aheadAt at hf
    rw [List.find?_eq_none] at hf
    have := hf op (by simp only [List.mem_cons, List.not_mem_nil, or_false]; exact h)
    rw [isT_yes rfl] at this
    simp at this
theorem opAt_rp (l : Nat) (k : Int) (r : List W) : opAt l ((k, rpS) :: r) = none := opAt_none fun op _ _ _ => isT_no (fun e => (sgn_ne_br (op := op) (by omega)).2.1 e.symm)
theorem opAt_cm (l : Nat) (k : Int) (r : List W) : opAt l ((k, cmS) :: r) = none := opAt_none fun op _ _ _ => isT_no (fun e => (sgn_ne_br (op := op) (by omega)).2.2 e.symm)

/-- What stands behind an expression of a level neither goes on with it nor makes a call of it. -/
def Stop (l : Nat) (rest : List W) : Prop := isT rest lpS = false ∧ ∀ l', l < l' → l' ≤ 4 → opAt l' rest = none
theorem Stop.rp (l : Nat) (r : List W) : Stop l ((3, rpS) :: r) := ⟨isT_no (by decide), fun _ _ _ => opAt_rp _ _ _⟩
theorem Stop.cm (l : Nat) (r : List W) : Stop l ((3, cmS) :: r) := ⟨isT_no (by decide), fun _ _ _ => opAt_cm _ _ _⟩
theorem Stop.nil (l : Nat) : Stop l [] := ⟨rfl, fun _ _ _ => opAt_none fun _ _ _ _ => rfl⟩
theorem Stop.sgn {op : Int} (h : 3 ≤ op ∧ op ≤ 10) (r : List W) : Stop (lvl op) ((3, sgnS op) :: r) :=
  ⟨isT_no (sgn_ne_br (by omega)).1, fun l' h1 _ => by rw [opAt_sgn h, if_neg (by omega)]⟩
theorem Stop.more {l l' : Nat} {r : List W} (h : Stop l r) (hl : l ≤ l') : Stop l' r := ⟨h.1, fun k h1 h2 => h.2 k (by omega) h2⟩

/-- The first word is no bracket that closes. -/
theorem head_ok : ∀ (d : Nat) (e : E), formE d e = true → ∀ l rest, isT (wE e l ++ rest) rpS = false ∧ wE e l ≠ []
  | 0, e, h => by cases h
  | d + 1, e, h => by
    intro l rest
    rw [wE_eq]
    by_cases hb : lvl e.op < l
    · rw [decide_eq_true hb]
      exact ⟨isT_no (by decide), by unfold needW; rw [if_pos rfl]; exact List.cons_ne_nil _ _⟩
    · rw [decide_eq_false hb]
      have e0 : ∀ x : List W, needW false x = x := fun _ => rfl
      rw [e0]
      rcases form_cases h with ⟨n, rfl, _⟩ | ⟨s, rfl, hs⟩ | ⟨s, ks, rfl, hs, _⟩ | ⟨op, x, rfl, ho, _⟩ | ⟨op, x, y, rfl, ho, hx, _⟩
      · exact ⟨isT_no (dec_plain _ 41 (by decide)), List.cons_ne_nil _ _⟩
      · exact ⟨isT_no (name_plain hs 41 (by decide)), List.cons_ne_nil _ _⟩
      · exact ⟨isT_no (name_plain hs 41 (by decide)), List.cons_ne_nil _ _⟩
      · show isT (bodyW op 0 ⟨#[]⟩ [wE x (needOf op 0)] ++ rest) rpS = false ∧ bodyW op 0 ⟨#[]⟩ [wE x (needOf op 0)] ≠ []
        rw [body_un ho]
        exact ⟨isT_no (sgn_ne_br (by omega)).2.1, List.cons_ne_nil _ _⟩
      · show isT (bodyW op 0 ⟨#[]⟩ [wE x (needOf op 0), wE y (needOf op 1)] ++ rest) rpS = false ∧ bodyW op 0 ⟨#[]⟩ [wE x (needOf op 0), wE y (needOf op 1)] ≠ []
        rw [body_bin ho, List.append_assoc]
        exact ⟨(head_ok d x hx _ _).1, by simp⟩

section
variable (nm : ByteArray → Int) (hnm : ∀ n : Int, 0 ≤ n → n ≤ 255 → nm (decS n.toNat) = n)
/-- An expression of the levels 1 to 4 is read, and ops that stand behind are gone on with. -/
def BackA (e : E) : Prop := ∀ l m rest, 1 ≤ l → l ≤ 4 → Stop l rest → 10 * ((wE e l).length + rest.length) + 10 ≤ m + l → ∃ m', 10 * rest.length + 1 ≤ m' ∧ rdL nm m l (wE e l ++ rest) = rdO nm m' l e rest
/-- One of the levels 5 and 6 is read. -/
def BackT (e : E) : Prop := ∀ m rest, isT rest lpS = false → 10 * ((wE e 5).length + rest.length) + 4 ≤ m → rdT nm m (wE e 5 ++ rest) = some (e, rest)

theorem rdO_stop {nm : ByteArray → Int} {m l : Nat} {e : E} {rest : List W} (hm : 1 ≤ m) (h : opAt l rest = none) : rdO nm m l e rest = some (e, rest) := by
  obtain ⟨k, rfl⟩ : ∃ k, m = k + 1 := ⟨m - 1, by omega⟩
  show (match opAt l rest with
    | none => some (e, rest)
    | some op => (rdL nm k (l + 1) rest.tail).bind fun p => rdO nm k l (binE op e p.1) p.2) = _
  rw [h]
/-- What is read tightly is read at each level. -/
theorem lift5 {nm : ByteArray → Int} {ws rest : List W} {e : E} (ht : ∀ m, 10 * ws.length + 4 ≤ m → rdT nm m ws = some (e, rest)) (hlen : rest.length < ws.length) :
    ∀ k l, l + k = 4 → 1 ≤ l → Stop l rest → ∀ m, 10 * ws.length + 10 ≤ m + l → ∃ m', 10 * rest.length + 1 ≤ m' ∧ rdL nm m l ws = rdO nm m' l e rest := by
  intro k
  induction k with
  | zero =>
    intro l hl h1 hs m hm
    obtain rfl : l = 4 := by omega
    obtain ⟨j, rfl⟩ : ∃ j, m = j + 2 := ⟨m - 2, by omega⟩
    refine ⟨j + 1, by omega, ?_⟩
    show (if 4 < 4 then rdT nm (j + 1) ws else (rdL nm (j + 1) 5 ws).bind fun p => rdO nm (j + 1) 4 p.1 p.2) = _
    rw [if_neg (by omega)]
    have h5 : rdL nm (j + 1) 5 ws = rdT nm j ws := if_pos (by omega)
    rw [h5, ht j (by omega)]
    rfl
  | succ k ih =>
    intro l hl h1 hs m hm
    obtain ⟨j, rfl⟩ : ∃ j, m = j + 1 := ⟨m - 1, by omega⟩
    obtain ⟨m', hm', he⟩ := ih (l + 1) (by omega) (by omega) (hs.more (by omega)) j (by omega)
    refine ⟨j, by omega, ?_⟩
    show (if 4 < l then rdT nm j ws else (rdL nm j (l + 1) ws).bind fun p => rdO nm j l p.1 p.2) = _
    rw [if_neg (by omega), he, rdO_stop (by omega) (hs.2 (l + 1) (by omega) (by omega))]
    rfl
theorem rdT_ahead {nm : ByteArray → Int} {m : Nat} {ws : List W} (h : aheadAt ws = none) : rdT nm (m + 1) ws = rdW nm m ws := by
  show (match aheadAt ws with
    | some op => (rdT nm m ws.tail).bind fun p => some (unE op p.1, p.2)
    | none => rdW nm m ws) = _
  rw [h]
theorem rdT_un {nm : ByteArray → Int} {m : Nat} {op : Int} (h : op = 11 ∨ op = 12) (ws : List W) : rdT nm (m + 1) ((3, sgnS op) :: ws) = (rdT nm m ws).bind fun p => some (unE op p.1, p.2) := by
  show (match aheadAt ((3, sgnS op) :: ws) with
    | some op => (rdT nm m ws).bind fun p => some (unE op p.1, p.2)
    | none => _) = _
  rw [aheadAt_sgn h]
theorem rdW_eq (nm : ByteArray → Int) (m : Nat) (w : W) (r : List W) : rdW nm (m + 1) (w :: r) =
    if w.2 = lpS then (rdL nm m 1 r).bind fun p => if isT p.2 rpS = true then some (p.1, p.2.tail) else none
      else if w.1 = 2 then some (numE (nm w.2), r)
      else if w.1 = 1 then (if isT r lpS = true then (rdC nm m r.tail).bind fun p => some (callE w.2 p.1, p.2) else some (varE w.2, r))
      else none := rfl
theorem rdK_eq (nm : ByteArray → Int) (m : Nat) (acc : List E) (ws : List W) : rdK nm (m + 1) acc ws = (rdL nm m 1 ws).bind fun p =>
      if isT p.2 rpS = true then some (acc ++ [p.1], p.2.tail)
      else if isT p.2 cmS = true then rdK nm m (acc ++ [p.1]) p.2.tail else none := rfl
theorem rdC_eq (nm : ByteArray → Int) (m : Nat) (ws : List W) : rdC nm (m + 1) ws = if isT ws rpS = true then some ([], ws.tail) else rdK nm m [] ws := rfl
/-- The Kids of a call are read. -/
theorem back_kids {nm : ByteArray → Int} : ∀ (ks : List E) (i : Nat) (acc : List E) (m : Nat) (rest : List W), ks ≠ [] → (∀ k ∈ ks, BackA nm k) → 10 * ((commas (wL 13 i ks)).length + 1 + rest.length) + 11 ≤ m →
    rdK nm m acc (commas (wL 13 i ks) ++ (3, rpS) :: rest) = some (acc ++ ks, rest)
  | [], _, _, _, _, h, _, _ => absurd rfl h
  | [x], i, acc, m, rest, _, hA, hm => by
    obtain ⟨j, rfl⟩ : ∃ j, m = j + 1 := ⟨m - 1, by omega⟩
    have e1 : commas (wL 13 i [x]) = wE x 1 := by show wE x (needOf 13 i) = _; rfl
    rw [e1] at hm ⊢
    obtain ⟨m', hm', he⟩ := hA x (by simp) 1 j ((3, rpS) :: rest) (by omega) (by omega) (Stop.rp _ _) (by rw [List.length_cons]; omega)
    rw [rdK_eq, he, rdO_stop (by omega) (opAt_rp _ _ _), Option.bind_some]
    dsimp only [List.tail_cons]
    rw [if_pos (isT_yes rfl)]
  | x :: y :: ks, i, acc, m, rest, _, hA, hm => by
    obtain ⟨j, rfl⟩ : ∃ j, m = j + 1 := ⟨m - 1, by omega⟩
    have e1 : commas (wL 13 i (x :: y :: ks)) = wE x 1 ++ (3, cmS) :: commas (wL 13 (i + 1) (y :: ks)) := by
      show wE x (needOf 13 i) ++ _ = _; rfl
    rw [e1] at hm ⊢
    rw [List.length_append, List.length_cons] at hm
    rw [List.append_assoc, List.cons_append]
    obtain ⟨m', hm', he⟩ := hA x (by simp) 1 j ((3, cmS) :: (commas (wL 13 (i + 1) (y :: ks)) ++ (3, rpS) :: rest)) (by omega) (by omega) (Stop.cm _ _) (by rw [List.length_cons, List.length_append, List.length_cons]; omega)
    rw [rdK_eq, he, rdO_stop (by omega) (opAt_cm _ _ _), Option.bind_some]
    dsimp only [List.tail_cons]
    rw [if_neg (by rw [isT_no (by decide)]; simp), if_pos (isT_yes rfl)]
    have := back_kids (y :: ks) (i + 1) (acc ++ [x]) j rest (by simp) (fun k hk => hA k (by simp at hk ⊢; right; exact hk)) (by omega)
    rw [List.append_assoc] at this
    exact this

include hnm in
theorem back : ∀ (d : Nat) (e : E), formE d e = true → BackA nm e ∧ BackT nm e
  | 0, e, h => by cases h
  | d + 1, e, h => by
    -- what is read tightly
    have tight : (∀ m rest, isT rest lpS = false → 10 * ((wE e 5).length + rest.length) + 4 ≤ m → rdT nm m (wE e 5 ++ rest) = some (e, rest)) → BackA nm e ∨ lvl e.op < 5 := by
      intro ht
      by_cases h5 : lvl e.op < 5
      · exact .inr h5
      left
      intro l m rest h1 h4 hs hm
      have e1 : wE e l = wE e 5 := by rw [wE_bare e (by omega), wE_bare e (by omega)]
      rw [e1] at hm ⊢
      have hne := (head_ok _ e h 5 []).2
      have hpos : 0 < (wE e 5).length := List.length_pos_iff.2 hne
      exact lift5 (fun m hm => ht m rest hs.1 (by rw [List.length_append] at hm; exact hm)) (by rw [List.length_append]; omega) (4 - l) l (by omega) h1 hs m (by rw [List.length_append]; omega)
    rcases form_cases h with ⟨n, rfl, hn0, hn1⟩ | ⟨s, rfl, hs⟩ | ⟨s, ks, rfl, hs, hl, hk⟩ | ⟨op, x, rfl, ho, hx⟩ | ⟨op, x, y, rfl, ho, hx, hy⟩
    · have T : BackT nm (numE n) := by
        intro m rest hr hm
        rw [wE_num _ (by omega)] at hm ⊢
        rw [List.length_singleton] at hm
        obtain ⟨j, rfl⟩ : ∃ j, m = j + 2 := ⟨m - 2, by omega⟩
        have hlp : decS n.toNat ≠ lpS := dec_plain _ 40 (by decide)
        rw [List.singleton_append, rdT_ahead (aheadAt_plain (dec_plain _)), rdW_eq, if_neg hlp, if_pos rfl]
        dsimp only
        rw [hnm n hn0 hn1]
      exact ⟨(tight T).resolve_right (by show ¬ lvl 1 < 5; decide), T⟩
    · have T : BackT nm (varE s) := by
        intro m rest hr hm
        rw [wE_var _ (by omega)] at hm ⊢
        rw [List.length_singleton] at hm
        obtain ⟨j, rfl⟩ : ∃ j, m = j + 2 := ⟨m - 2, by omega⟩
        have hlp : s ≠ lpS := name_plain hs 40 (by decide)
        rw [List.singleton_append, rdT_ahead (aheadAt_plain (name_plain hs)), rdW_eq, if_neg hlp]
        dsimp only
        rw [if_neg (by decide), if_pos rfl, if_neg (by rw [hr]; simp)]
      exact ⟨(tight T).resolve_right (by show ¬ lvl 2 < 5; decide), T⟩
    · have T : BackT nm (callE s ks) := by
        intro m rest hr hm
        rw [wE_call _ _ (by omega)] at hm ⊢
        rw [List.length_cons, List.length_cons, List.length_append, List.length_singleton] at hm
        obtain ⟨j, rfl⟩ : ∃ j, m = j + 4 := ⟨m - 4, by omega⟩
        have e2 : ((1, s) :: (3, lpS) :: (commas (wL 13 0 ks) ++ [(3, rpS)])) ++ rest = (1, s) :: (3, lpS) :: (commas (wL 13 0 ks) ++ (3, rpS) :: rest) := by simp
        have hlp : s ≠ lpS := name_plain hs 40 (by decide)
        rw [e2, rdT_ahead (aheadAt_plain (name_plain hs)), rdW_eq, if_neg hlp]
        dsimp only
        rw [if_neg (by decide), if_pos rfl, if_pos (isT_yes rfl)]
        show ((rdC nm (j + 2) (commas (wL 13 0 ks) ++ (3, rpS) :: rest)).bind fun p => some (callE s p.1, p.2)) = _
        rw [rdC_eq]
        cases ks with
        | nil =>
          have e3 : commas (wL 13 0 []) ++ (3, rpS) :: rest = (3, rpS) :: rest := rfl
          rw [e3, if_pos (isT_yes rfl)]; rfl
        | cons k ks =>
          have hno : isT (commas (wL 13 0 (k :: ks)) ++ (3, rpS) :: rest) rpS = false := by
            cases ks with
            | nil => exact (head_ok d k (hk k (by simp)) 1 _).1
            | cons k2 ks =>
              show isT ((wE k 1 ++ (3, cmS) :: commas (wL 13 1 (k2 :: ks))) ++ (3, rpS) :: rest) rpS = false
              rw [List.append_assoc]
              exact (head_ok d k (hk k (by simp)) 1 _).1
          rw [if_neg (by rw [hno]; simp), back_kids (k :: ks) 0 [] (j + 1) rest (by simp) (fun x hx => (back d x (hk x hx)).1) (by omega)]
          rfl
      exact ⟨(tight T).resolve_right (by show ¬ lvl 13 < 5; decide), T⟩
    · have T : BackT nm (unE op x) := by
        intro m rest hr hm
        rw [wE_un ho _ (by omega)] at hm ⊢
        rw [List.length_cons] at hm
        obtain ⟨j, rfl⟩ : ∃ j, m = j + 1 := ⟨m - 1, by omega⟩
        rw [List.cons_append, rdT_un ho, (back d x hx).2 j rest hr (by omega)]
        rfl
      exact ⟨(tight T).resolve_right (by show ¬ lvl op < 5; rw [lvl_un ho]; omega), T⟩
    · have hv : 1 ≤ lvl op ∧ lvl op ≤ 4 := by
        have : op = 3 ∨ op = 4 ∨ op = 5 ∨ op = 6 ∨ op = 7 ∨ op = 8 ∨ op = 9 ∨ op = 10 := by omega
        rcases this with rfl | rfl | rfl | rfl | rfl | rfl | rfl | rfl <;> decide
      obtain ⟨hxA, hxT⟩ := back d x hx
      obtain ⟨hyA, hyT⟩ := back d y hy
      have hxne : 0 < (wE x (lvl op)).length := List.length_pos_iff.2 (head_ok d x hx _ []).2
      have hyne : 0 < (wE y (lvl op + 1)).length := List.length_pos_iff.2 (head_ok d y hy _ []).2
      -- at its own level
      have own : ∀ m rest, Stop (lvl op) rest → 10 * ((wE (binE op x y) (lvl op)).length + rest.length) + 10 ≤ m + lvl op → ∃ m', 10 * rest.length + 1 ≤ m' ∧ rdL nm m (lvl op) (wE (binE op x y) (lvl op) ++ rest) = rdO nm m' (lvl op) (binE op x y) rest := by
        intro m rest hs hm
        rw [wE_bin ho _ _ (Nat.le_refl _)] at hm ⊢
        rw [List.length_append, List.length_cons] at hm
        rw [List.append_assoc, List.cons_append]
        obtain ⟨m1, h1, he1⟩ := hxA (lvl op) m ((3, sgnS op) :: (wE y (lvl op + 1) ++ rest)) hv.1 hv.2 (Stop.sgn ho _) (by rw [List.length_cons, List.length_append]; omega)
        rw [List.length_cons, List.length_append] at h1
        obtain ⟨j, rfl⟩ : ∃ j, m1 = j + 1 := ⟨m1 - 1, by omega⟩
        rw [he1]
        refine ⟨j, by omega, ?_⟩
        show (match opAt (lvl op) ((3, sgnS op) :: (wE y (lvl op + 1) ++ rest)) with
          | none => _
          | some o => (rdL nm j (lvl op + 1) (wE y (lvl op + 1) ++ rest)).bind fun p => rdO nm j (lvl op) (binE o x p.1) p.2) = _
        rw [opAt_sgn ho, if_pos rfl]
        dsimp only
        by_cases h4 : lvl op = 4
        · rw [h4] at h1 hyne ⊢
          obtain ⟨i, rfl⟩ : ∃ i, j = i + 1 := ⟨j - 1, by omega⟩
          have e5 : rdL nm (i + 1) (4 + 1) (wE y (4 + 1) ++ rest) = rdT nm i (wE y 5 ++ rest) := by
            exact if_pos (by omega)
          have hq : (wE y (4 + 1)).length = (wE y 5).length := rfl
          rw [hq] at h1
          rw [e5, hyT i rest hs.1 (by rw [h4] at hm; omega)]
          rfl
        · obtain ⟨m2, h2, he2⟩ := hyA (lvl op + 1) j rest (by omega) (by omega) (hs.more (by omega)) (by omega)
          rw [he2, rdO_stop (by omega) (hs.2 _ (by omega) (by omega))]
          rfl
      -- at each lower one
      have low : ∀ k l, l + k = lvl op → 1 ≤ l → ∀ m rest, Stop l rest → 10 * ((wE (binE op x y) l).length + rest.length) + 10 ≤ m + l → ∃ m', 10 * rest.length + 1 ≤ m' ∧ rdL nm m l (wE (binE op x y) l ++ rest) = rdO nm m' l (binE op x y) rest := by
        intro k
        induction k with
        | zero =>
          intro l hl h1 m rest hs hm
          have hl' : l = lvl op := by omega
          rw [hl'] at hs hm ⊢
          exact own m rest hs hm
        | succ k ih =>
          intro l hl h1 m rest hs hm
          have e1 : wE (binE op x y) l = wE (binE op x y) (l + 1) := by rw [wE_bare _ (show l ≤ lvl op by omega), wE_bare _ (show l + 1 ≤ lvl op by omega)]
          rw [e1] at hm ⊢
          obtain ⟨j, rfl⟩ : ∃ j, m = j + 1 := ⟨m - 1, by omega⟩
          obtain ⟨m', hm', he⟩ := ih (l + 1) (by omega) (by omega) j rest (hs.more (by omega)) (by omega)
          have hpos : 0 < (wE (binE op x y) (l + 1)).length := List.length_pos_iff.2 (head_ok _ _ h _ []).2
          refine ⟨j, by omega, ?_⟩
          show (if 4 < l then rdT nm j _ else (rdL nm j (l + 1) (wE (binE op x y) (l + 1) ++ rest)).bind fun p => rdO nm j l p.1 p.2) = _
          rw [if_neg (by omega), he, rdO_stop (by omega) (hs.2 (l + 1) (by omega) (by omega))]
          rfl
      have hbr : ∀ l, lvl op < l → wE (binE op x y) l = (3, lpS) :: (wE (binE op x y) 1 ++ [(3, rpS)]) := by
        intro l hl
        rw [wE_bare (binE op x y) (show 1 ≤ lvl op by omega), wE_eq, decide_eq_true (show lvl (binE op x y).op < l from hl)]
        rfl
      have T : BackT nm (binE op x y) := by
        intro m rest hr hm
        rw [hbr 5 (by omega)] at hm ⊢
        rw [List.length_cons, List.length_append, List.length_singleton] at hm
        obtain ⟨j, rfl⟩ : ∃ j, m = j + 2 := ⟨m - 2, by omega⟩
        have e2 : ((3, lpS) :: (wE (binE op x y) 1 ++ [(3, rpS)])) ++ rest = (3, lpS) :: (wE (binE op x y) 1 ++ (3, rpS) :: rest) := by simp
        rw [e2, rdT_ahead aheadAt_lp, rdW_eq, if_pos rfl]
        obtain ⟨m', hm', he⟩ := low (lvl op - 1) 1 (by omega) (by omega) j ((3, rpS) :: rest) (Stop.rp _ _) (by rw [List.length_cons]; omega)
        rw [he, rdO_stop (by omega) (opAt_rp _ _ _)]
        show (if isT ((3, rpS) :: rest) rpS = true then some (binE op x y, rest) else none) = _
        rw [if_pos (isT_yes rfl)]
      refine ⟨?_, T⟩
      intro l m rest h1 h4 hs hm
      by_cases hlv : l ≤ lvl op
      · exact low (lvl op - l) l (by omega) h1 m rest hs hm
      · have e1 : wE (binE op x y) l = wE (binE op x y) 5 := by rw [hbr l (by omega), hbr 5 (by omega)]
        rw [e1] at hm ⊢
        have hpos : 0 < (wE (binE op x y) 5).length := List.length_pos_iff.2 (head_ok _ _ h _ []).2
        exact lift5 (fun m hm => T m rest hs.1 (by rw [List.length_append] at hm; exact hm)) (by rw [List.length_append]; omega) (4 - l) l (by omega) h1 hs m (by rw [List.length_append]; omega)
end
end Go.Proofs.YtoepehlndljkoaaDoor
