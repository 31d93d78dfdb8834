/-
  The program's cursor over words: atEnd, takeText, take.
-/
import Derived.Test.YtljdbjfbcjigaaaGreatDoorMg10
import Derived.Test.YtljdbjfbcjigaaaGreatDoorMg12
import Derived.Test.YtljdbjfbcjigaaaGreatDoorMg3
import Derived.Test.YtljdbjfbcjigaaaGreatDoorMs10
import Derived.Test.YtljdbjfbcjigaaaGreatDoorMs2
import Derived.Test.YtljdbjfbcjigaaaGreatDoorMs5
import Derived.Deep.QuietTactic
import Derived.BigQuiet
namespace Go.Proofs.YtljdbjfbcjigaaaGreatDoor
open Go.RowKit

/-- At most so many words. -/
def Cn (l : List UInt8) (n : Nat) : Prop := ∀ ws, cutL l = some ws → ws.length ≤ n
/-- A sign or a blank. -/
def Edge (b : UInt8) : Prop := cls b.toNat = 3 ∨ cls b.toNat = 4
theorem totalW_len : ∀ ws : List (Int × ByteArray), ws.length ≤ totalW ws
  | [] => Nat.zero_le _
  | x :: ws => by rw [totalW_cons, List.length_cons]; have := totalW_len ws; omega
theorem cn_bytes (l : List UInt8) : Cn l (2 * l.length) := fun ws h => by
  have h1 := cutL_total l.length l ws (Nat.le_refl _) h
  have h2 := totalW_len ws
  omega
theorem Cn.mono {l : List UInt8} {n m : Nat} (h : Cn l n) (hm : n ≤ m) : Cn l m := fun ws hw => Nat.le_trans (h ws hw) hm
theorem cutL_edge {a : List UInt8} {b : UInt8} {c : List UInt8} (hb : Edge b) : cutL (a ++ b :: c) = both (cutL a) (cutL (b :: c)) := by
  rcases hb with h | h
  · exact cutL_sign a.length a (Nat.le_refl _) b c h
  · rw [cutL_two a.length a (Nat.le_refl _) b c h, cutL_blank h]
theorem both_len {x y : Option (List (Int × ByteArray))} {ws : List (Int × ByteArray)} (h : both x y = some ws) : ∃ a b, x = some a ∧ y = some b ∧ ws.length = a.length + b.length := by
  cases x with
  | none => cases y <;> cases h
  | some a =>
    cases y with
    | none => cases h
    | some b =>
      have h' : some (a ++ b) = some ws := h
      injection h' with h'
      subst h'
      exact ⟨a, b, rfl, rfl, List.length_append⟩
theorem Cn.behind {l : List UInt8} {n : Nat} (h : Cn l n) {b : UInt8} (c : List UInt8) (hb : Edge b) : Cn (l ++ b :: c) (n + 2 * (c.length + 1)) := by
  intro ws hw
  rw [cutL_edge hb] at hw
  obtain ⟨x, y, h1, h2, h3⟩ := both_len hw
  have hx := h x h1
  have hy := cn_bytes (b :: c) y h2
  rw [List.length_cons] at hy
  omega
theorem cutL_byte {b : UInt8} (h : cls b.toNat = 3) (l : List UInt8) : cutL (b :: l) = (cutL l).map ((3, ⟨#[b]⟩) :: ·) := cutL_front (z := 3) (t := ⟨#[b]⟩) (r := l) (valid_byte h) (fun b _ _ => goCls_sign b)
theorem Cn.ahead {l : List UInt8} {n : Nat} (h : Cn l n) (p : List UInt8) {b : UInt8} (hb : Edge b) : Cn (p ++ b :: l) (2 * p.length + 1 + n) := by
  intro ws hw
  rw [cutL_edge hb] at hw
  obtain ⟨x, y, h1, h2, h3⟩ := both_len hw
  have hx := cn_bytes p x h1
  have hy : y.length ≤ n + 1 := by
    rcases hb with hb | hb
    · rw [cutL_byte hb] at h2
      cases hl : cutL l with
      | none => rw [hl] at h2; cases h2
      | some wl =>
        rw [hl] at h2
        have h2' : some ((3, ⟨#[b]⟩) :: wl) = some y := h2
        injection h2' with h2'
        subst h2'
        have := h wl hl
        rw [List.length_cons]; omega
    · rw [cutL_blank hb] at h2
      have := h y h2
      omega
  omega
def AllL (b : UInt8) (l : List UInt8) : Prop := ∀ x ∈ l, x = b
theorem Cn.behinds {l : List UInt8} {n : Nat} (h : Cn l n) {b : UInt8} (hb : Edge b) {t : List UInt8} (ht : AllL b t) : Cn (l ++ t) (n + 2 * t.length) := by
  cases t with
  | nil => rw [List.append_nil]; exact h.mono (by omega)
  | cons x r =>
    have := ht x (by simp)
    subst this
    rw [List.length_cons]
    exact h.behind r hb
theorem Cn.aheads {l : List UInt8} {n : Nat} (h : Cn l n) {b : UInt8} (hb : Edge b) {t : List UInt8} (ht : AllL b t) : Cn (t ++ l) (2 * t.length + n) := by
  rcases List.eq_nil_or_concat t with rfl | ⟨p, x, rfl⟩
  · rw [List.nil_append]; exact h.mono (by omega)
  · have := ht x (by simp)
    subst this
    have h1 := h.ahead p hb
    rw [show p.concat x ++ l = p ++ x :: l by simp]
    exact h1.mono (by simp; omega)
theorem cn_text {d : Nat} {e : E} (h : formE d e = true) (k : Nat) : Cn (tx (wE e k)).data.toList (6 * sizeE e) := by
  intro ws hw
  have hv := wE_valid d e h k
  have hb := wE_bd d e h k
  have hj := cutL_join hv (wE e k).length (Nat.le_refl _)
  rw [List.take_length] at hj
  have he : (tx (wE e k)).data.toList = joinB (wE e k) := by show (joinB (wE e k)).toArray.toList = _; simp
  rw [he, hj] at hw
  injection hw with hw
  subst hw
  omega
/-- What is drawn for ReadExpr has few words, or is none. -/
def Few (s : ByteArray) : Prop := Cn s.data.toList 590 ∨ ∃ r, s.data.toList = 59 :: r
theorem few_read {s : ByteArray} {e : E} {ws : List W} (hf : Few s) (h : readF s = (e, true)) (hc : cutRes s = (ws, true)) : ws.length ≤ 590 := by
  obtain ⟨hL, _, _⟩ := cutRes_list hc
  rcases hf with hf | ⟨r, hr⟩
  · exact hf ws hL
  · exfalso
    rw [hr, cutL_byte (by decide)] at hL
    cases hl : cutL r with
    | none => rw [hl] at hL; cases hL
    | some wl =>
      rw [hl] at hL
      have hL' : some ((3, ⟨#[59]⟩) :: wl) = some ws := hL
      injection hL' with hL'
      subst hL'
      rw [readF_ok' hc] at h
      obtain ⟨n, p, hT⟩ := rdL_tight _ _ _ _ _ (readW_yes h).1
      have ha : aheadAt ((3, ⟨#[59]⟩) :: wl) = none := aheadAt_none (fun op hop => isT_no (by rcases hop with rfl | rfl <;> decide))
      cases n with
      | zero => cases hT
      | succ n =>
        rw [rdT_ahead ha] at hT
        cases n with
        | zero => cases hT
        | succ n =>
          rw [rdW_eq, if_neg (by decide), if_neg (by decide), if_neg (by decide)] at hT
          cases hT
end Go.Proofs.YtljdbjfbcjigaaaGreatDoor

namespace Go.Proofs.YtljdbjfbcjigaaaGreatDoor
open Go.RowKit

/-- The words of an expression in brackets. -/
def brW (a : E) : List W := (3, lpS) :: (wE a 1 ++ [(3, rpS)])
theorem brW_app (a : E) (r : List W) : brW a ++ r = (3, lpS) :: (wE a 1 ++ (3, rpS) :: r) := by unfold brW; simp
theorem brW_len (a : E) : (brW a).length = (wE a 1).length + 2 := by unfold brW; simp
theorem lvl_between {op : Int} (ho : 3 ≤ op ∧ op ≤ 10) : 1 ≤ lvl op ∧ lvl op ≤ 4 := by
  have : op = 3 ∨ op = 4 ∨ op = 5 ∨ op = 6 ∨ op = 7 ∨ op = 8 ∨ op = 9 ∨ op = 10 := by omega
  rcases this with rfl | rfl | rfl | rfl | rfl | rfl | rfl | rfl <;> decide
theorem rdT_br {nm : ByteArray → Int} {a : E} (hA : BackA nm a) (m : Nat) (rest : List W) (hm : 10 * (brW a ++ rest).length + 4 ≤ m) : rdT nm m (brW a ++ rest) = some (a, rest) := by
  rw [List.length_append, brW_len] at hm
  obtain ⟨j, rfl⟩ : ∃ j, m = j + 2 := ⟨m - 2, by omega⟩
  rw [brW_app, rdT_ahead aheadAt_lp, rdW_eq, if_pos rfl]
  obtain ⟨m', hm', he⟩ := hA 1 j ((3, rpS) :: rest) (by omega) (by omega) (Stop.rp _ _) (by rw [List.length_cons]; omega)
  rw [he, rdO_stop (by omega) (opAt_rp _ _ _), Option.bind_some]
  dsimp only [List.tail_cons]
  rw [if_pos (isT_yes rfl)]
theorem rdL_br {nm : ByteArray → Int} {a : E} (hA : BackA nm a) (l m : Nat) (h1 : 1 ≤ l) (h5 : l ≤ 5) (hm : 10 * (brW a).length + 10 ≤ m) : rdL nm m l (brW a) = some (a, []) := by
  have hr := fun m (hm : 10 * (brW a).length + 4 ≤ m) => (show rdT nm m (brW a) = some (a, []) by have := rdT_br hA m [] (by rw [List.append_nil]; exact hm); rw [List.append_nil] at this; exact this)
  by_cases h : l = 5
  · subst h
    obtain ⟨j, rfl⟩ : ∃ j, m = j + 1 := ⟨m - 1, by omega⟩
    have e5 : rdL nm (j + 1) 5 (brW a) = rdT nm j (brW a) := if_pos (by omega)
    rw [e5, hr j (by omega)]
  · obtain ⟨m', hm', he⟩ := lift5 (ws := brW a) (rest := []) hr (by rw [brW_len]; show 0 < _; omega) (4 - l) l (by omega) h1 (Stop.nil l) m (by omega)
    rw [he, rdO_stop (by omega) (opAt_none fun _ _ _ _ => rfl)]
theorem br_op {nm : ByteArray → Int} {a b : E} (hA : BackA nm a) (hB : BackA nm b) {op : Int} (ho : 3 ≤ op ∧ op ≤ 10) :
    ∀ k l, l + k = lvl op → 1 ≤ l → ∀ m, 10 * (brW a ++ (3, sgnS op) :: brW b).length + 30 ≤ m + l → rdL nm m l (brW a ++ (3, sgnS op) :: brW b) = some (binE op a b, []) := by
  have hv := lvl_between ho
  intro k
  induction k with
  | zero =>
    intro l hl h1 m hm
    obtain rfl : l = lvl op := by omega
    obtain ⟨m', hm', he⟩ := lift5 (ws := brW a ++ (3, sgnS op) :: brW b) (rest := (3, sgnS op) :: brW b) (fun m hm => rdT_br hA m _ hm) (by rw [List.length_append, brW_len]; omega) (4 - lvl op) (lvl op) (by omega) h1 (Stop.sgn ho _) m (by omega)
    rw [he]
    rw [List.length_cons] at hm'
    obtain ⟨q, rfl⟩ : ∃ q, m' = q + 1 := ⟨m' - 1, by omega⟩
    show (match opAt (lvl op) ((3, sgnS op) :: brW b) with
      | none => some (a, (3, sgnS op) :: brW b)
      | some o => (rdL nm q (lvl op + 1) (brW b)).bind fun p => rdO nm q (lvl op) (binE o a p.1) p.2) = _
    rw [opAt_sgn ho, if_pos rfl]
    dsimp only
    rw [rdL_br hB (lvl op + 1) q (by omega) (by omega) (by omega), Option.bind_some]
    exact rdO_stop (by omega) (opAt_none fun _ _ _ _ => rfl)
  | succ k ih =>
    intro l hl h1 m hm
    obtain ⟨j, rfl⟩ : ∃ j, m = j + 1 := ⟨m - 1, by omega⟩
    show (if 4 < l then rdT nm j _ else (rdL nm j (l + 1) _).bind fun p => rdO nm j l p.1 p.2) = _
    rw [if_neg (by omega), ih (l + 1) (by omega) (by omega) j (by omega), Option.bind_some]
    exact rdO_stop (by omega) (opAt_none fun _ _ _ _ => rfl)
theorem both_some (a b : List W) : both (some a) (some b) = some (a ++ b) := rfl
/-- The text of an op between two texts in brackets. -/
def brT (op : Int) (p q : ByteArray) : ByteArray := (((((⟨#[40]⟩ ++ p) ++ ⟨#[41]⟩) ++ sgnS op) ++ ⟨#[40]⟩) ++ q) ++ ⟨#[41]⟩
theorem brT_read {a b : E} {op : Int} (ho : 3 ≤ op ∧ op ≤ 10) (hv : validE (binE op a b) = true) : readF (brT op (textE a) (textE b)) = (binE op a b, true) := by
  have ha : validE a = true := valid_kid hv (show a ∈ [a, b] by simp)
  have hb : validE b = true := valid_kid hv (show b ∈ [a, b] by simp)
  obtain ⟨va, la, ja⟩ := text_words ha
  obtain ⟨vb, lb, jb⟩ := text_words hb
  have ca : cutL (textE a).data.toList = some (wE a 1) := by
    have := cutL_join va (wE a 1).length (Nat.le_refl _)
    rw [List.take_length] at this
    show cutL (joinB (wE a 1)).toArray.toList = _
    simpa using this
  have cb : cutL (textE b).data.toList = some (wE b 1) := by
    have := cutL_join vb (wE b 1).length (Nat.le_refl _)
    rw [List.take_length] at this
    show cutL (joinB (wE b 1)).toArray.toList = _
    simpa using this
  have c1 := cutL_lp _ (cutL_rp _ cb)
  have hsg : cls (sgnN op).toNat = 3 := sgn_cls (by omega)
  have c2 : cutL (sgnN op :: 40 :: ((textE b).data.toList ++ [41])) = some ((3, sgnS op) :: brW b) := by rw [cutL_byte hsg, c1]; rfl
  have c3 : cutL (41 :: sgnN op :: 40 :: ((textE b).data.toList ++ [41])) = some ((3, rpS) :: (3, sgnS op) :: brW b) := by rw [cutL_byte (b := 41) (by decide), c2]; rfl
  have c4 : cutL ((textE a).data.toList ++ 41 :: sgnN op :: 40 :: ((textE b).data.toList ++ [41])) = some (wE a 1 ++ (3, rpS) :: (3, sgnS op) :: brW b) := by
    rw [cutL_edge (b := 41) (.inl (by decide)), ca, c3, both_some]
  have c5 := cutL_lp _ c4
  have hd : (brT op (textE a) (textE b)).data.toList = 40 :: ((textE a).data.toList ++ 41 :: sgnN op :: 40 :: ((textE b).data.toList ++ [41])) := by unfold brT sgnS; simp
  have hsa := textE_size ha
  have hsb := textE_size hb
  have hz : (brT op (textE a) (textE b)).size ≤ 3000 := by
    unfold brT
    simp only [ByteArray.size_append]
    show 1 + (textE a).size + 1 + 1 + 1 + (textE b).size + 1 ≤ 3000
    omega
  have hl : ((3, lpS) :: (wE a 1 ++ (3, rpS) :: (3, sgnS op) :: brW b) : List W).length ≤ 600 := by rw [List.length_cons, List.length_append, List.length_cons, List.length_cons, brW_len]; omega
  rw [readF_ok' (cutRes_of (by rw [hd]; exact c5) hz hl), ← brW_app]
  have hr := br_op (nm := nmB) (back nmB nmB_dec 6 a (validE_form ha)).1 (back nmB nmB_dec 6 b (validE_form hb)).1 ho (lvl op - 1) 1 (by have := lvl_between ho; omega) (Nat.le_refl _) 6100 (by rw [List.length_append, List.length_cons, brW_len, brW_len]; omega)
  unfold readW
  rw [hr]
  dsimp only
  rw [if_pos hv]
end Go.Proofs.YtljdbjfbcjigaaaGreatDoor

namespace Go.Proofs.YtljdbjfbcjigaaaGreatDoor

theorem isT_drop (ws : List W) (k : Nat) (t : ByteArray) : isT (ws.drop k) t = if h : k < ws.length then decide (ws[k].2 = t) else false := by
  by_cases h : k < ws.length
  · rw [dif_pos h, List.drop_eq_getElem_cons h]; rfl
  · rw [dif_neg h, List.drop_eq_nil_of_le (by omega)]; rfl
theorem isT_lt {ws : List W} {k : Nat} {t : ByteArray} (h : isT (ws.drop k) t = true) : ∃ h : k < ws.length, ws[k].2 = t := by
  rw [isT_drop] at h
  split at h
  · rename_i hk; exact ⟨hk, of_decide_eq_true h⟩
  · cases h
theorem tail_drop (ws : List W) (k : Nat) : (ws.drop k).tail = ws.drop (k + 1) := by rw [List.tail_drop]
theorem suf_drop {r ws : List W} (h : r <:+ ws) : r = ws.drop (ws.length - r.length) := by
  obtain ⟨t, rfl⟩ := h
  rw [List.length_append, show t.length + r.length - r.length = t.length by omega, List.drop_left]
/-- What is left behind a place is what is left from a later place on. -/
theorem suf_place {r ws : List W} {k : Nat} (h : r <:+ ws.drop k) (hl : r.length < (ws.drop k).length) : ∃ k', k < k' ∧ k' ≤ ws.length ∧ r = ws.drop k' ∧ ws.length - r.length = k' := by
  have h2 := suf_drop (h.trans (List.drop_suffix _ _))
  rw [List.length_drop] at hl
  exact ⟨ws.length - r.length, by omega, by omega, h2, rfl⟩
def hitO (l : Nat) (ws : List W) (op : Int) : Bool := decide (lvl op = l) && isT ws (sgnS op)
theorem opAt_first {l : Nat} {ws : List W} {k : Int} (h3 : 3 ≤ k) (h10 : k ≤ 10) (hno : ∀ j : Int, 3 ≤ j → j < k → hitO l ws j = false) (hp : hitO l ws k = true) : opAt l ws = some k := by
  show List.find? (hitO l ws) [3, 4, 5, 6, 7, 8, 9, 10] = some k
  have hk : k = 3 ∨ k = 4 ∨ k = 5 ∨ k = 6 ∨ k = 7 ∨ k = 8 ∨ k = 9 ∨ k = 10 := by omega
  rcases hk with rfl | rfl | rfl | rfl | rfl | rfl | rfl | rfl
  · simp [hp]
  · simp [hp, hno 3 (by omega) (by omega)]
  · simp [hp, hno 3 (by omega) (by omega), hno 4 (by omega) (by omega)]
  · simp [hp, hno 3 (by omega) (by omega), hno 4 (by omega) (by omega), hno 5 (by omega) (by omega)]
  · simp [hp, hno 3 (by omega) (by omega), hno 4 (by omega) (by omega), hno 5 (by omega) (by omega), hno 6 (by omega) (by omega)]
  · simp [hp, hno 3 (by omega) (by omega), hno 4 (by omega) (by omega), hno 5 (by omega) (by omega), hno 6 (by omega) (by omega), hno 7 (by omega) (by omega)]
  · simp [hp, hno 3 (by omega) (by omega), hno 4 (by omega) (by omega), hno 5 (by omega) (by omega), hno 6 (by omega) (by omega), hno 7 (by omega) (by omega), hno 8 (by omega) (by omega)]
  · simp [hp, hno 3 (by omega) (by omega), hno 4 (by omega) (by omega), hno 5 (by omega) (by omega), hno 6 (by omega) (by omega), hno 7 (by omega) (by omega), hno 8 (by omega) (by omega), hno 9 (by omega) (by omega)]
theorem opAt_no {l : Nat} {ws : List W} (hno : ∀ j : Int, 3 ≤ j → j < 11 → hitO l ws j = false) : opAt l ws = none := by
  show List.find? (hitO l ws) [3, 4, 5, 6, 7, 8, 9, 10] = none
  simp [hno 3 (by omega) (by omega), hno 4 (by omega) (by omega), hno 5 (by omega) (by omega), hno 6 (by omega) (by omega), hno 7 (by omega) (by omega), hno 8 (by omega) (by omega), hno 9 (by omega) (by omega), hno 10 (by omega) (by omega)]
theorem hit_step {l : Nat} {ws : List W} {k : Int} (hno : ∀ j : Int, 3 ≤ j → j < k → hitO l ws j = false) (h : hitO l ws k = false) : ∀ j : Int, 3 ≤ j → j < k + 1 → hitO l ws j = false := by
  intro j h1 h2
  by_cases e : j = k
  · subst e; exact h
  · exact hno j h1 (by omega)
/-- The op of a level that stands next, or 0. -/
def opN (l : Nat) (ws : List W) : Int := (opAt l ws).getD 0
theorem aheadAt_eq (ws : List W) : aheadAt ws = if isT ws (sgnS 11) = true then some 11 else if isT ws (sgnS 12) = true then some 12 else none := by
  show List.find? (fun op => isT ws (sgnS op)) [11, 12] = _
  cases h1 : isT ws (sgnS 11)
  · cases h2 : isT ws (sgnS 12) <;> simp [List.find?, h1, h2]
  · simp [List.find?, h1]

/-- The index behind what was read, or -1. -/
def nextI {α : Type} (n : Nat) : Option (α × List W) → Int
  | none => -1
  | some p => ((n - p.2.length : Nat) : Int)
theorem nextI_bd {α : Type} (n : Nat) (r : Option (α × List W)) : -1 ≤ nextI n r ∧ nextI n r ≤ n := by
  cases r with
  | none => show -1 ≤ (-1 : Int) ∧ (-1 : Int) ≤ n; omega
  | some p => show -1 ≤ ((n - p.2.length : Nat) : Int) ∧ ((n - p.2.length : Nat) : Int) ≤ n; omega
theorem nextI_at {α : Type} {ws : List W} (x : α) {k : Nat} (hk : k ≤ ws.length) : nextI ws.length (some (x, ws.drop k)) = (k : Int) := by
  show ((ws.length - (ws.drop k).length : Nat) : Int) = _
  rw [List.length_drop]; omega

/-- What a read expression holds at most. -/
structure RdBulk (nm : ByteArray → Int) (m : Nat) : Prop where
  L : ∀ l ws e r, (∀ x ∈ ws, x.2.size ≤ 4) → rdL nm m l ws = some (e, r) → r <:+ ws ∧ bulkE e + 1 + 6 * r.length ≤ 6 * ws.length
  O : ∀ l x ws e r, (∀ x ∈ ws, x.2.size ≤ 4) → rdO nm m l x ws = some (e, r) → r <:+ ws ∧ bulkE e + 6 * r.length ≤ bulkE x + 6 * ws.length
  T : ∀ ws e r, (∀ x ∈ ws, x.2.size ≤ 4) → rdT nm m ws = some (e, r) → r <:+ ws ∧ bulkE e + 1 + 6 * r.length ≤ 6 * ws.length
  W : ∀ ws e r, (∀ x ∈ ws, x.2.size ≤ 4) → rdW nm m ws = some (e, r) → r <:+ ws ∧ bulkE e + 1 + 6 * r.length ≤ 6 * ws.length
  C : ∀ ws ks r, (∀ x ∈ ws, x.2.size ≤ 4) → rdC nm m ws = some (ks, r) → r <:+ ws ∧ bulkL ks + 6 * r.length ≤ 6 * ws.length
  K : ∀ acc ws ks r, (∀ x ∈ ws, x.2.size ≤ 4) → rdK nm m acc ws = some (ks, r) → r <:+ ws ∧ bulkL ks + 6 * r.length ≤ bulkL acc + 6 * ws.length
theorem suf_le {r ws : List W} (h : r <:+ ws) (hs : ∀ x ∈ ws, x.2.size ≤ 4) : ∀ x ∈ r, x.2.size ≤ 4 := fun x hx => hs x (h.subset hx)
theorem bulkE_bin (op : Int) (x y : E) : bulkE (binE op x y) = bulkE x + bulkE y + 2 := by show 0 + (1 + bulkE x + (1 + bulkE y + 0)) = _; omega
theorem bulkE_un (op : Int) (x : E) : bulkE (unE op x) = bulkE x + 1 := by show 0 + (1 + bulkE x + 0) = _; omega
theorem bulkE_call (s : ByteArray) (ks : List E) : bulkE (callE s ks) = s.size + bulkL ks := rfl
theorem rd_bulk (nm : ByteArray → Int) : ∀ m, RdBulk nm m
  | 0 => ⟨fun _ _ _ _ _ h => (by cases h), fun _ _ _ _ _ _ h => (by cases h), fun _ _ _ _ h => (by cases h), fun _ _ _ _ h => (by cases h), fun _ _ _ _ h => (by cases h), fun _ _ _ _ _ h => (by cases h)⟩
  | m + 1 => by
    have ih := rd_bulk nm m
    refine ⟨?_, ?_, ?_, ?_, ?_, ?_⟩
    · intro l ws e r hs h
      have h' : (if 4 < l then rdT nm m ws else (rdL nm m (l + 1) ws).bind fun p => rdO nm m l p.1 p.2) = some (e, r) := h
      split at h'
      · exact ih.T _ _ _ hs h'
      · rw [Option.bind_eq_some_iff] at h'
        obtain ⟨⟨x, r1⟩, h1, h2⟩ := h'
        have a := ih.L _ _ _ _ hs h1
        have b := ih.O _ _ _ _ _ (suf_le a.1 hs) h2
        dsimp only at b
        exact ⟨b.1.trans a.1, by omega⟩
    · intro l x ws e r hs h
      have h' : (match opAt l ws with
        | none => some (x, ws)
        | some op => (rdL nm m (l + 1) ws.tail).bind fun p => rdO nm m l (binE op x p.1) p.2) = some (e, r) := h
      split at h'
      · injection h' with h'; injection h' with h1 h2; subst h1; subst h2
        exact ⟨List.suffix_refl _, by omega⟩
      · rename_i op hop
        obtain ⟨o1, o2, o3, o4⟩ := opAt_some hop
        obtain ⟨w, ws', rfl, ow⟩ := isT_cons o4
        have hs' : ∀ x ∈ ws', x.2.size ≤ 4 := fun x hx => hs x (by simp [hx])
        rw [Option.bind_eq_some_iff] at h'
        obtain ⟨⟨y, r1⟩, h1, h2⟩ := h'
        rw [List.tail_cons] at h1
        have a := ih.L _ _ _ _ hs' h1
        have b := ih.O _ _ _ _ _ (suf_le a.1 hs') h2
        dsimp only at b
        rw [bulkE_bin] at b
        rw [List.length_cons]
        exact ⟨(b.1.trans a.1).trans (List.suffix_cons _ _), by omega⟩
    · intro ws e r hs h
      have h' : (match aheadAt ws with
        | some op => (rdT nm m ws.tail).bind fun p => some (unE op p.1, p.2)
        | none => rdW nm m ws) = some (e, r) := h
      split at h'
      · rename_i op hop
        obtain ⟨o1, o4⟩ := aheadAt_some hop
        obtain ⟨w, ws', rfl, ow⟩ := isT_cons o4
        have hs' : ∀ x ∈ ws', x.2.size ≤ 4 := fun x hx => hs x (by simp [hx])
        rw [Option.bind_eq_some_iff] at h'
        obtain ⟨⟨x, r1⟩, h1, h2⟩ := h'
        injection h2 with h2; injection h2 with h2 h3; subst h2; subst h3
        rw [List.tail_cons] at h1
        have a := ih.T _ _ _ hs' h1
        dsimp only at a ⊢
        rw [bulkE_un, List.length_cons]
        exact ⟨a.1.trans (List.suffix_cons _ _), by omega⟩
      · exact ih.W _ _ _ hs h'
    · intro ws e r hs h
      cases ws with
      | nil => cases h
      | cons w ws =>
        have hs' : ∀ x ∈ ws, x.2.size ≤ 4 := fun x hx => hs x (by simp [hx])
        have hw := hs w (by simp)
        have h' : (if w.2 = lpS then (rdL nm m 1 ws).bind fun p => if isT p.2 rpS = true then some (p.1, p.2.tail) else none
          else if w.1 = 2 then some (numE (nm w.2), ws)
          else if w.1 = 1 then (if isT ws lpS = true then (rdC nm m ws.tail).bind fun p => some (callE w.2 p.1, p.2) else some (varE w.2, ws))
          else none) = some (e, r) := h
        split at h'
        · rw [Option.bind_eq_some_iff] at h'
          obtain ⟨⟨x, r1⟩, h1, h2⟩ := h'
          have a := ih.L _ _ _ _ hs' h1
          dsimp only at h2 a
          split at h2
          · rename_i ht
            obtain ⟨w2, r2, rfl, _⟩ := isT_cons ht
            injection h2 with h2; injection h2 with h2 h3; subst h2; subst h3
            rw [List.length_cons] at a
            rw [List.tail_cons, List.length_cons]
            exact ⟨((List.suffix_cons _ _).trans a.1).trans (List.suffix_cons _ _), by omega⟩
          · cases h2
        · split at h'
          · injection h' with h'; injection h' with h1 h2; subst h1; subst h2
            refine ⟨List.suffix_cons _ _, ?_⟩
            rw [List.length_cons]; show 0 + 0 + 1 + _ ≤ _; omega
          · split at h'
            · split at h'
              · rename_i ht
                obtain ⟨w2, r2, rfl, _⟩ := isT_cons ht
                rw [Option.bind_eq_some_iff] at h'
                obtain ⟨⟨ks, r1⟩, h1, h2⟩ := h'
                injection h2 with h2; injection h2 with h2 h3; subst h2; subst h3
                rw [List.tail_cons] at h1
                have a := ih.C _ _ _ (fun x hx => hs' x (by simp [hx])) h1
                dsimp only at a ⊢
                rw [bulkE_call, List.length_cons, List.length_cons]
                exact ⟨(a.1.trans (List.suffix_cons _ _)).trans (List.suffix_cons _ _), by omega⟩
              · injection h' with h'; injection h' with h1 h2; subst h1; subst h2
                refine ⟨List.suffix_cons _ _, ?_⟩
                rw [List.length_cons]; show w.2.size + 0 + 1 + _ ≤ _; omega
            · cases h'
    · intro ws ks r hs h
      have h' : (if isT ws rpS = true then some ([], ws.tail) else rdK nm m [] ws) = some (ks, r) := h
      split at h'
      · rename_i ht
        obtain ⟨w2, r2, rfl, _⟩ := isT_cons ht
        injection h' with h'; injection h' with h1 h2; subst h1; subst h2
        rw [List.tail_cons, List.length_cons]
        exact ⟨List.suffix_cons _ _, by show 0 + _ ≤ _; omega⟩
      · have a := ih.K _ _ _ _ hs h'
        have e1 : bulkL [] = 0 := rfl
        exact ⟨a.1, by omega⟩
    · intro acc ws ks r hs h
      have h' : ((rdL nm m 1 ws).bind fun p =>
        if isT p.2 rpS = true then some (acc ++ [p.1], p.2.tail)
        else if isT p.2 cmS = true then rdK nm m (acc ++ [p.1]) p.2.tail else none) = some (ks, r) := h
      rw [Option.bind_eq_some_iff] at h'
      obtain ⟨⟨x, r1⟩, h1, h2⟩ := h'
      have a := ih.L _ _ _ _ hs h1
      have hx : bulkL (acc ++ [x]) = bulkL acc + (1 + bulkE x + 0) := by rw [bulkL_app]; rfl
      dsimp only at h2 a
      split at h2
      · rename_i ht
        obtain ⟨w2, r2, rfl, _⟩ := isT_cons ht
        injection h2 with h2; injection h2 with h2 h3; subst h2; subst h3
        rw [List.length_cons] at a
        rw [List.tail_cons, hx]
        exact ⟨(List.suffix_cons _ _).trans a.1, by omega⟩
      · split at h2
        · rename_i ht
          obtain ⟨w2, r2, rfl, _⟩ := isT_cons ht
          rw [List.tail_cons] at h2
          have hs2 := suf_le a.1 hs
          have b := ih.K _ _ _ _ (fun x hx => hs2 x (by simp [hx])) h2
          rw [List.length_cons] at a
          rw [hx] at b
          exact ⟨(b.1.trans (List.suffix_cons _ _)).trans a.1, by omega⟩
        · cases h2
end Go.Proofs.YtljdbjfbcjigaaaGreatDoor

namespace Go.Proofs.YtljdbjfbcjigaaaGreatDoor
open Go.RowKit
set_option maxRecDepth 100000

/-- A cursor at a place of a list of words. -/
structure Cu (w : World) (R : Nat) (A : Option Addr) (cap : Nat) (ws : List W) (k : Nat) : Prop where
  wd : Words w R A ws
  lt : R < w.heap.size
  c0 : w.cell? ⟨R, 0, none⟩ = some (.slice A ws.length cap)
  c1 : w.cell? ⟨R, 1, none⟩ = some (.int .i64 (k : Int))
  f1 : w.frozen? ⟨R, 1, none⟩ = false
  le : k ≤ ws.length
theorem Cu.below {w w' : World} {R cap k : Nat} {A : Option Addr} {ws : List W} (h : Cu w R A cap ws k) (hb : Below w.heap.size w w') : Cu w' R A cap ws k :=
  ⟨h.wd.below (hb.mono (Nat.le_of_lt h.lt)), Nat.lt_of_lt_of_le h.lt hb.size, (hb.cell (p := ⟨R, 0, none⟩) h.lt).trans h.c0, (hb.cell (p := ⟨R, 1, none⟩) h.lt).trans h.c1, (hb.frozen (p := ⟨R, 1, none⟩) h.lt).trans h.f1, h.le⟩
theorem Cu.drew {w : World} {R cap k : Nat} {A : Option Addr} {ws : List W} (h : Cu w R A cap ws k) : Cu w.drew R A cap ws k := h.below (Below.refl _ _).drew
theorem Cu.drewN {w : World} {R cap k : Nat} {A : Option Addr} {ws : List W} (h : Cu w R A cap ws k) (n : Nat) : Cu (w.drewN n) R A cap ws k := h.below (below_drewN (Below.refl _ _) n)
theorem Cu.next {w : World} {R cap k k' : Nat} {A : Option Addr} {ws : List W} (h : Cu w R A cap ws k) (hk : k' ≤ ws.length) : Cu (w.setCell ⟨R, 1, none⟩ (.int .i64 (k' : Int))) R A cap ws k' :=
  ⟨h.wd.below ((Below.refl R w).setCell (p := ⟨R, 1, none⟩) (Nat.le_refl _) _), by simpa using h.lt, by rw [World.cell?_setCell_other _ _ _ _ (by simp)]; exact h.c0, World.cell?_setCell_same _ _ _ h.c1, by rw [World.frozen?_setCell]; exact h.f1, hk⟩
theorem touch_next (w : World) (R : Nat) (v : Value) : Touch R w (w.setCell ⟨R, 1, none⟩ v) := by
  refine ⟨(Below.refl R w).setCell (p := ⟨R, 1, none⟩) (Nat.le_refl _) _, fun b h1 h2 => ?_⟩
  show (w.heap.modify R _)[b]? = _
  rw [Array.getElem?_modify, if_neg (by omega)]
set_option maxHeartbeats 1000000 in
theorem atEnd_any (R cap k : Nat) (A : Option Addr) (ws : List W) (w : World) (h : Cu w R A cap ws k) :
    Calls Tryz.prog 72 #[.pointer (some ⟨R, 0, none⟩)] w fun ee w' => ee = .returned (.bool (decide (k = ws.length))) ∧ w' = w.drew := by
  have c0 := h.c0
  have c1 := h.c1
  have hk := h.le
  clear h
  by_cases he : k = ws.length
  · have q1 : ((k : Int) == (ws.length : Int)) = true := beq_yes (by omega)
    rw [decide_eq_true he]
    clear he
    go_enter Tryz.func72, Tryz.ntmps72
    go_wp2_with fail
    go_region
    all_goals
      go_wp2_with fail
      go_ret
      exact ⟨rfl, rfl⟩
  · have q1 : ((k : Int) == (ws.length : Int)) = false := beq_no (by omega)
    rw [decide_eq_false he]
    clear he
    go_enter Tryz.func72, Tryz.ntmps72
    go_wp2_with fail
    go_region
    all_goals
      go_wp2_with fail
      go_ret
      exact ⟨rfl, rfl⟩
/-- A move of a cursor: of its block one cell turns, and nothing else but new ones. -/
def Mv (R : Nat) (w w' : World) : Prop := Touch R w w' ∧ ∀ o, o ≠ 1 → w'.cell? ⟨R, o, none⟩ = w.cell? ⟨R, o, none⟩
theorem Mv.trans {R : Nat} {a b c : World} (h : Mv R a b) (k : Mv R b c) : Mv R a c := ⟨h.1.trans k.1, fun o ho => (k.2 o ho).trans (h.2 o ho)⟩
theorem Mv.of_below {R : Nat} {a b : World} (h : Below a.heap.size a b) (hR : R < a.heap.size) : Mv R a b := ⟨Touch.of_below h hR, fun o _ => h.cell (p := ⟨R, o, none⟩) hR⟩
theorem Mv.next (w : World) (R : Nat) (v : Value) : Mv R w (w.setCell ⟨R, 1, none⟩ v) := ⟨touch_next w R v, fun o ho => World.cell?_setCell_other _ _ _ _ (by intro e; injection e with _ e; omega)⟩
/-- Taking a text, or not. -/
def TookT (R cap k : Nat) (A : Option Addr) (ws : List W) (t : ByteArray) (w : World) (ee : Ending) (w' : World) : Prop :=
  ee = .returned (.bool (isT (ws.drop k) t)) ∧ Mv R w w' ∧ Cu w' R A cap ws (if isT (ws.drop k) t = true then k + 1 else k)
set_option maxHeartbeats 2000000 in
theorem takeText_any (R cap k : Nat) (A : Option Addr) (ws : List W) (t : ByteArray) (w : World) (h : Cu w R A cap ws k) (hn : ws.length ≤ 600) :
    Calls Tryz.prog 162 #[.pointer (some ⟨R, 0, none⟩), .string t] w (TookT R cap k A ws t w) := by
  have AE := fun n => Lib.hid (atEnd_any R cap k A ws (w.drewN n) (h.drewN n))
  have HC := Lib.hid h
  by_cases hk : k < ws.length
  · obtain ⟨b, o, rfl, hB, d1, d2⟩ := h.wd.at_ hk
    have c0 := h.c0
    have c1 := h.c1
    have f1 := h.f1
    have e0 : decide (k = ws.length) = false := decide_eq_false (by omega)
    rw [e0] at AE
    have HT := Lib.hid (show isT (ws.drop k) t = decide (ws[k].2 = t) by rw [isT_drop, dif_pos hk])
    have hk1 : (0 : Int) ≤ (k : Int) := by omega
    have hk2 : (k : Int) < (ws.length : Int) := by omega
    have hk3 : k ≤ 600 := by omega
    clear h e0
    by_cases he : ws[k].2 = t
    · have q1 := str_eq_true he
      have q2 : (ws[k].2.toList != t.toList) = false := by rw [bne, q1]; rfl
      rw [decide_eq_true he] at HT
      clear he
      generalize ws[k].2 = s at *
      go_enter Tryz.func162, Tryz.ntmps162
      go_wp2_with fail
      go_quiet (first | (go_at_call 72; exact Calls.quiet_of ((AE _).out.mono fun _ _ h => ⟨h.1, 1, h.2⟩)))
      go_wp2_with fail
      go_ret
      refine ⟨by rw [HT.out]; rfl, ?_, ?_⟩
      · exact (Mv.of_below (below_drewN (Below.refl _ w) _) HC.out.lt).trans (Mv.next _ _ _)
      · rw [HT.out, if_pos rfl]
        exact (HC.out.drewN _).next hk
    · have q1 := str_eq_false he
      have q2 : (ws[k].2.toList != t.toList) = true := by rw [bne, q1]; rfl
      rw [decide_eq_false he] at HT
      clear he
      generalize ws[k].2 = s at *
      go_enter Tryz.func162, Tryz.ntmps162
      go_wp2_with fail
      go_quiet (first | (go_at_call 72; exact Calls.quiet_of ((AE _).out.mono fun _ _ h => ⟨h.1, 1, h.2⟩)))
      go_wp2_with fail
      go_ret
      refine ⟨by rw [HT.out]; rfl, ?_, ?_⟩
      · exact Mv.of_below (below_drewN (Below.refl _ w) _) HC.out.lt
      · rw [HT.out, if_neg (by simp)]; exact HC.out.drewN _
  · have e0 : decide (k = ws.length) = true := decide_eq_true (by have := h.le; omega)
    rw [e0] at AE
    have HT := Lib.hid (show isT (ws.drop k) t = false by rw [isT_drop, dif_neg hk])
    clear h e0
    go_enter Tryz.func162, Tryz.ntmps162
    go_wp2_with fail
    go_quiet (first | (go_at_call 72; exact Calls.quiet_of ((AE _).out.mono fun _ _ h => ⟨h.1, 1, h.2⟩)))
    go_wp2_with fail
    go_ret
    refine ⟨by rw [HT.out]; rfl, ?_, ?_⟩
    · exact Mv.of_below (below_drewN (Below.refl _ w) _) HC.out.lt
    · rw [HT.out, if_neg (by simp)]; exact HC.out.drewN _
end Go.Proofs.YtljdbjfbcjigaaaGreatDoor
