/-
  When a unit is one: what both sides ask, in mathematics. Nothing of a program stands here.
-/
import Derived.Test.YtomhomnibikceaaDoorNA
import Derived.Test.YtomhomnibikceaaDoorNF
namespace Go.Proofs.YtomhomnibikceaaDoor
open Go.RowKit

/-- A register of a code. -/
def regB (c : Cd) (r : Int) : Bool := decide (0 ≤ r ∧ r < c.regs)
def regsB (c : Cd) (l : List Int) : Bool := l.all (regB c)
/-- The blocks that lead to one, of the first so many. -/
def predsTo (bs : List Bk) (b : Int) : Nat → List Int
  | 0 => []
  | n + 1 => predsTo bs b n ++ (if h : n < bs.length then (if b ∈ bs[n].next then [(n : Int)] else []) else [])
def predsL (c : Cd) (b : Int) : List Int := predsTo c.blocks b c.blocks.length
theorem predsTo_len (bs : List Bk) (b : Int) : ∀ n, (predsTo bs b n).length ≤ n
  | 0 => Nat.le_refl _
  | n + 1 => by
    have := predsTo_len bs b n
    rw [predsTo, List.length_append]
    split
    · split
      · simp; omega
      · simp; omega
    · simp; omega
theorem predsTo_yes {bs : List Bk} {b : Int} {n : Nat} (h : n < bs.length) (hb : b ∈ bs[n].next) : predsTo bs b (n + 1) = predsTo bs b n ++ [(n : Int)] := by
  rw [predsTo, dif_pos h, if_pos hb]
theorem predsTo_no {bs : List Bk} {b : Int} {n : Nat} (h : n < bs.length) (hb : ¬ b ∈ bs[n].next) : predsTo bs b (n + 1) = predsTo bs b n := by
  rw [predsTo, dif_pos h, if_neg hb, List.append_nil]
/-- The greatest N of an Op, and how many Args it asks for. -/
def mostI (k : Nat) (op : Int) : Int := if op = 1 then 255 else if op = 14 then (k : Int) - 1 else 0
def wantI (cs : List Cd) (x : Ik) : Int := if x.op = 14 then (match cs[x.n.toNat]? with | some c => c.params | none => 0) else iArgs x.op
def toB (c : Cd) (x : Ik) : Bool := if iMakes x.op then regB c x.to else decide (x.to = -1)
def insB (cs : List Cd) (k : Nat) (c : Cd) (x : Ik) : Bool :=
  decide (1 ≤ x.op ∧ x.op ≤ 14) && (decide (0 ≤ x.n ∧ x.n ≤ mostI k x.op) && (toB c x && (decide ((x.args.length : Int) = wantI cs x) && regsB c x.args)))
def nextB (c : Cd) (n : Int) : Bool := decide (1 ≤ n ∧ n < c.blocks.length)
def onB (c : Cd) (b : Bk) : Bool := if jUses b.jump then regB c b.on else decide (b.on = 0)
def jumpB (c : Cd) (b : Bk) : Bool := decide (1 ≤ b.jump ∧ b.jump ≤ 3) && (onB c b && (decide ((b.next.length : Int) = jNext b.jump) && b.next.all (nextB c)))
def phiB (c : Cd) (b : Nat) (p : Ph) : Bool := decide (b ≠ 0) && (regB c p.to && (decide (p.args.length = (predsL c b).length) && regsB c p.args))
def blockB (cs : List Cd) (k : Nat) (c : Cd) (b : Nat) (x : Bk) : Bool := jumpB c x && (x.ins.all (insB cs k c) && x.phis.all (phiB c b))
def sizesB (c : Cd) : Bool := decide ((0 ≤ c.params ∧ c.params ≤ 3 ∧ c.params ≤ c.regs ∧ c.regs ≤ 300) ∧ 1 ≤ c.blocks.length ∧ c.blocks.length ≤ 160)
def cntB (x : Bk) : Nat := x.ins.length + x.phis.length
def cntBL : List Bk → Nat
  | [] => 0
  | x :: xs => cntB x + cntBL xs
def cntC (c : Cd) : Nat := cntBL c.blocks
def cntCL : List Cd → Nat
  | [] => 0
  | x :: xs => cntC x + cntCL xs
def codeB (cs : List Cd) (k : Nat) (c : Cd) : Bool := (List.range c.blocks.length).all fun b => match c.blocks[b]? with | some x => blockB cs k c b x | none => true
def unB (u : Un) : Bool :=
  decide (1 ≤ u.codes.length ∧ u.codes.length ≤ 4) && (u.codes.all sizesB && (decide (cntCL u.codes ≤ 800) && (List.range u.codes.length).all fun k => match u.codes[k]? with | some c => codeB u.codes k c | none => true))
theorem cntBL_app : ∀ (a b : List Bk), cntBL (a ++ b) = cntBL a + cntBL b
  | [], b => by show cntBL b = 0 + cntBL b; omega
  | x :: a, b => by show cntB x + cntBL (a ++ b) = cntB x + cntBL a + cntBL b; rw [cntBL_app a b]; omega
theorem cntBL_take {ks : List Bk} {i : Nat} (h : i < ks.length) : cntBL (ks.take (i + 1)) = cntBL (ks.take i) + cntB ks[i] := by
  rw [List.take_succ_eq_append_getElem h, cntBL_app]; show _ + (cntB ks[i] + 0) = _; omega
theorem cntBL_le (ks : List Bk) (i : Nat) : cntBL (ks.take i) ≤ cntBL ks := by
  have h := cntBL_app (ks.take i) (ks.drop i)
  rw [List.take_append_drop] at h; omega
theorem cntCL_app : ∀ (a b : List Cd), cntCL (a ++ b) = cntCL a + cntCL b
  | [], b => by show cntCL b = 0 + cntCL b; omega
  | x :: a, b => by show cntC x + cntCL (a ++ b) = cntC x + cntCL a + cntCL b; rw [cntCL_app a b]; omega
theorem cntCL_take {ks : List Cd} {i : Nat} (h : i < ks.length) : cntCL (ks.take (i + 1)) = cntCL (ks.take i) + cntC ks[i] := by
  rw [List.take_succ_eq_append_getElem h, cntCL_app]; show _ + (cntC ks[i] + 0) = _; omega
theorem cntCL_le (ks : List Cd) (i : Nat) : cntCL (ks.take i) ≤ cntCL ks := by
  have h := cntCL_app (ks.take i) (ks.drop i)
  rw [List.take_append_drop] at h; omega
theorem cntB_bulk (x : Bk) : cntB x ≤ bulkBk x := by
  have := length_le_bulkR bulkIk x.ins
  have := length_le_bulkR bulkPh x.phis
  unfold cntB bulkBk; omega
theorem cntBL_bulk : ∀ (l : List Bk), cntBL l ≤ bulkR bulkBk l
  | [] => Nat.le_refl _
  | x :: l => by have := cntBL_bulk l; have := cntB_bulk x; show cntB x + cntBL l ≤ 1 + bulkBk x + bulkR bulkBk l; omega
theorem cntCL_bulk : ∀ (l : List Cd), cntCL l ≤ bulkR bulkCd l
  | [] => Nat.le_refl _
  | x :: l => by have := cntCL_bulk l; have := cntBL_bulk x.blocks; show cntBL x.blocks + cntCL l ≤ 1 + bulkR bulkBk x.blocks + bulkR bulkCd l; omega
theorem codeB_iff (cs : List Cd) (k : Nat) (c : Cd) : codeB cs k c = true ↔ ∀ b, (h : b < c.blocks.length) → blockB cs k c b c.blocks[b] = true := by
  unfold codeB
  rw [List.all_eq_true]
  constructor
  · intro h b hb
    have := h b (List.mem_range.2 hb)
    rw [List.getElem?_eq_getElem hb] at this
    exact this
  · intro h b hb
    have hb := List.mem_range.1 hb
    rw [List.getElem?_eq_getElem hb]
    exact h b hb
theorem unB_iff (u : Un) : unB u = true ↔ (1 ≤ u.codes.length ∧ u.codes.length ≤ 4) ∧ (∀ k, (h : k < u.codes.length) → sizesB u.codes[k] = true) ∧ cntCL u.codes ≤ 800 ∧ ∀ k, (h : k < u.codes.length) → codeB u.codes k u.codes[k] = true := by
  unfold unB
  simp only [Bool.and_eq_true, decide_eq_true_eq, List.all_eq_true]
  constructor
  · rintro ⟨h1, h2, h3, h4⟩
    refine ⟨h1, fun k hk => h2 _ (List.getElem_mem hk), h3, fun k hk => ?_⟩
    have := h4 k (List.mem_range.2 hk)
    rw [List.getElem?_eq_getElem hk] at this
    exact this
  · rintro ⟨h1, h2, h3, h4⟩
    refine ⟨h1, fun c hc => ?_, h3, fun k hk => ?_⟩
    · obtain ⟨k, hk, rfl⟩ := List.getElem_of_mem hc
      exact h2 k hk
    · have hk := List.mem_range.1 hk
      rw [List.getElem?_eq_getElem hk]
      exact h4 k hk
theorem all_iff {α : Type} {p : α → Bool} {l : List α} : l.all p = true ↔ ∀ i, (h : i < l.length) → p l[i] = true := by
  rw [List.all_eq_true]
  constructor
  · exact fun h i hi => h _ (List.getElem_mem hi)
  · intro h x hx
    obtain ⟨i, hi, rfl⟩ := List.getElem_of_mem hx
    exact h i hi
theorem all_no {α : Type} {p : α → Bool} {l : List α} {i : Nat} (h : i < l.length) (hp : p l[i] = false) : l.all p = false := by
  cases e : l.all p
  · rfl
  · rw [all_iff.1 e i h] at hp; cases hp
theorem all_yes {α : Type} {p : α → Bool} {l : List α} (h : ∀ i, (h : i < l.length) → p l[i] = true) : l.all p = true := all_iff.2 h
theorem ret_bool' {a b : Bool} (h : a = b) : Ending.returned (.bool a) = .returned (.bool b) := by rw [h]
def cdv (c : Cd) (A : Option Addr) (cap : Nat) : Value := .agg #[.int .i64 c.params, .int .i64 c.regs, .slice A c.blocks.length cap]
end Go.Proofs.YtomhomnibikceaaDoor
