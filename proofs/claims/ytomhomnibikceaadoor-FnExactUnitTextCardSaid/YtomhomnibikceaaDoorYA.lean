/-
  Texts of units: the mathematics.
-/
import Derived.Test.YtomhomnibikceaaDoorNI
import Derived.Test.YtomhomnibikceaaDoorYT
namespace Go.Proofs.YtomhomnibikceaaDoor
open Go.RowKit
set_option maxRecDepth 100000

/-- Texts of a list, one behind the other. -/
def catT {α : Type} (f : α → List UInt8) : List α → List UInt8
  | [] => []
  | x :: xs => f x ++ catT f xs
theorem catT_app {α : Type} (f : α → List UInt8) : ∀ (a b : List α), catT f (a ++ b) = catT f a ++ catT f b
  | [], _ => rfl
  | x :: xs, b => by show f x ++ catT f (xs ++ b) = (f x ++ catT f xs) ++ catT f b; rw [catT_app f xs b, List.append_assoc]
theorem catT_take {α : Type} (f : α → List UInt8) {l : List α} {k : Nat} (h : k < l.length) : catT f (l.take (k + 1)) = catT f (l.take k) ++ f l[k] := by
  rw [List.take_succ_eq_append_getElem h, catT_app]
  show _ ++ (f l[k] ++ []) = _
  rw [List.append_nil]
theorem catT_pre {α : Type} (f : α → List UInt8) (l : List α) (k : Nat) : (catT f (l.take k)).length ≤ (catT f l).length := by
  have h := catT_app f (l.take k) (l.drop k)
  rw [List.take_append_drop] at h
  rw [h, List.length_append]; omega
theorem catT_le {α : Type} {f : α → List UInt8} {b : α → Nat} : ∀ {l : List α}, (∀ x ∈ l, (f x).length ≤ 100 * (1 + b x)) → (catT f l).length ≤ 100 * bulkR b l
  | [], _ => by show 0 ≤ _; omega
  | x :: xs, h => by
    have h1 := h x (by simp)
    have h2 := catT_le (f := f) (b := b) (l := xs) (fun y hy => h y (by simp [hy]))
    show (f x ++ catT f xs).length ≤ 100 * (1 + b x + bulkR b xs)
    rw [List.length_append]; omega
theorem catT_len {α : Type} {f : α → List UInt8} {m : Nat} : ∀ {l : List α}, (∀ x ∈ l, (f x).length ≤ m) → (catT f l).length ≤ m * l.length
  | [], _ => by show 0 ≤ _; omega
  | x :: xs, h => by
    have h1 := h x (by simp)
    have h2 := catT_len (f := f) (m := m) (l := xs) (fun y hy => h y (by simp [hy]))
    show (f x ++ catT f xs).length ≤ m * (xs.length + 1)
    rw [List.length_append, Nat.mul_succ]; omega
def iNm (op : Int) : List UInt8 := iNameL.getD op.toNat []
def jNm (op : Int) : List UInt8 := jNameL.getD op.toNat []
theorem iNm_le (op : Int) : (iNm op).length ≤ 4 := by
  unfold iNm
  generalize op.toNat = n
  by_cases h : n < 15
  · have : ∀ n < 15, (iNameL.getD n []).length ≤ 4 := by decide +kernel
    exact this n h
  · have e : iNameL[n]? = none := List.getElem?_eq_none (by show 15 ≤ n; omega)
    rw [List.getD_eq_getElem?_getD, e]; exact Nat.zero_le _
theorem jNm_le (op : Int) : (jNm op).length ≤ 4 := by
  unfold jNm
  generalize op.toNat = n
  by_cases h : n < 4
  · have : ∀ n < 4, (jNameL.getD n []).length ≤ 4 := by decide +kernel
    exact this n h
  · have e : jNameL[n]? = none := List.getElem?_eq_none (by show 4 ≤ n; omega)
    rw [List.getD_eq_getElem?_getD, e]; exact Nat.zero_le _
def regT (x : Int) : List UInt8 := 32 :: 114 :: Lib.itoa x
def numT (x : Int) : List UInt8 := 32 :: Lib.itoa x
def phiT (p : Ph) : List UInt8 := 114 :: (Lib.itoa p.to ++ ([32, 61, 32, 112, 104, 105] ++ (catT regT p.args ++ [10])))
def toT (x : Ik) : List UInt8 := if iMakes x.op then 114 :: (Lib.itoa x.to ++ [32, 61, 32]) else []
def nT (x : Ik) : List UInt8 := if iTells x.op then 32 :: Lib.itoa x.n else []
def insTx (x : Ik) : List UInt8 := toT x ++ (iNm x.op ++ (nT x ++ (catT regT x.args ++ [10])))
def onT (b : Bk) : List UInt8 := if jUses b.jump then 32 :: 114 :: Lib.itoa b.on else []
def jumpT (b : Bk) : List UInt8 := jNm b.jump ++ (onT b ++ (catT numT b.next ++ [10]))
def blockT (n : Nat) (b : Bk) : List UInt8 := Lib.itoa (n : Int) ++ ([58, 10] ++ (catT phiT b.phis ++ (catT insTx b.ins ++ jumpT b)))
def blkTo (bs : List Bk) : Nat → List UInt8
  | 0 => []
  | n + 1 => blkTo bs n ++ (match bs[n]? with | some x => blockT n x | none => [])
theorem blkTo_succ {bs : List Bk} {n : Nat} (h : n < bs.length) : blkTo bs (n + 1) = blkTo bs n ++ blockT n bs[n] := by
  show blkTo bs n ++ _ = _
  rw [List.getElem?_eq_getElem h]
def headT (c : Cd) : List UInt8 := [99, 111, 100, 101, 32] ++ (Lib.itoa c.params ++ (32 :: (Lib.itoa c.regs ++ [10])))
def codeT (c : Cd) : List UInt8 := headT c ++ blkTo c.blocks c.blocks.length
def unT (u : Un) : List UInt8 := catT codeT u.codes
def unitTx (u : Un) : List UInt8 := if unB u then unT u else []
/-- Small numbers. -/
def SmN (x : Int) : Prop := -1 ≤ x ∧ x ≤ 1000
structure OkPh (p : Ph) : Prop where
  to : SmN p.to
  args : ∀ x ∈ p.args, SmN x
structure OkIk (x : Ik) : Prop where
  op : 1 ≤ x.op ∧ x.op ≤ 14
  to : SmN x.to
  n : SmN x.n
  args : ∀ y ∈ x.args, SmN y
structure OkBk (b : Bk) : Prop where
  jump : 1 ≤ b.jump ∧ b.jump ≤ 3
  on : SmN b.on
  len : (b.next.length : Int) = jNext b.jump
  next : ∀ y ∈ b.next, SmN y
  phis : ∀ p ∈ b.phis, OkPh p
  ins : ∀ x ∈ b.ins, OkIk x
structure OkCd (c : Cd) : Prop where
  params : SmN c.params
  regs : SmN c.regs
  len : c.blocks.length ≤ 160
  blocks : ∀ b ∈ c.blocks, OkBk b
theorem smN_reg {c : Cd} (h : c.regs ≤ 300) {r : Int} (hr : regB c r = true) : SmN r := by
  unfold regB at hr
  have := of_decide_eq_true hr
  unfold SmN; omega
theorem okCd_of {cs : List Cd} {k : Nat} {c : Cd} (hk : k ≤ 4) (hs : sizesB c = true) (hc : codeB cs k c = true) : OkCd c := by
  have hs' := of_decide_eq_true (show decide _ = true from hs)
  have h300 : c.regs ≤ 300 := by omega
  refine ⟨by unfold SmN; omega, by unfold SmN; omega, hs'.2.2, fun b hb => ?_⟩
  obtain ⟨i, hi, rfl⟩ := List.getElem_of_mem hb
  have h1 := (codeB_iff cs k c).1 hc i hi
  unfold blockB jumpB at h1
  simp only [Bool.and_eq_true, decide_eq_true_eq] at h1
  obtain ⟨⟨hj, ho, hl, hn⟩, hin, hph⟩ := h1
  refine ⟨hj, ?_, hl, fun y hy => ?_, fun p hp => ?_, fun x hx => ?_⟩
  · unfold onB at ho
    split at ho
    · exact smN_reg h300 ho
    · have := of_decide_eq_true ho
      unfold SmN; omega
  · have := List.all_eq_true.1 hn y hy
    have := of_decide_eq_true (show decide _ = true from this)
    unfold SmN; omega
  · have := List.all_eq_true.1 hph p hp
    unfold phiB regsB at this
    simp only [Bool.and_eq_true, decide_eq_true_eq] at this
    exact ⟨smN_reg h300 this.2.1, fun x hx => smN_reg h300 (List.all_eq_true.1 this.2.2.2 x hx)⟩
  · have := List.all_eq_true.1 hin x hx
    unfold insB toB at this
    simp only [Bool.and_eq_true, decide_eq_true_eq] at this
    obtain ⟨h1, h2, h3, _, h5⟩ := this
    refine ⟨h1, ?_, ?_, fun y hy => smN_reg h300 (List.all_eq_true.1 h5 y hy)⟩
    · split at h3
      · exact smN_reg h300 h3
      · have := of_decide_eq_true h3
        unfold SmN; omega
    · unfold mostI at h2
      unfold SmN
      split at h2
      · omega
      · split at h2 <;> omega
theorem okCd_all {u : Un} (h : unB u = true) : ∀ k, (h : k < u.codes.length) → OkCd u.codes[k] := by
  have h' := (unB_iff u).1 h
  exact fun k hk => okCd_of (by omega) (h'.2.1 k hk) (h'.2.2.2 k hk)
theorem itoaS {x : Int} (h : SmN x) : (Lib.itoa x).length ≤ 20 := by
  unfold SmN at h
  exact itoa_le (by omega) (by omega)
theorem regT_le {x : Int} (h : SmN x) : (regT x).length ≤ 22 := by
  have := itoaS h
  unfold regT; simp only [List.length_cons]; omega
theorem numT_le {x : Int} (h : SmN x) : (numT x).length ≤ 22 := by
  have := itoaS h
  unfold numT; simp only [List.length_cons]; omega
theorem regsT_le {l : List Int} (h : ∀ x ∈ l, SmN x) : (catT regT l).length ≤ 22 * l.length := catT_len fun x hx => regT_le (h x hx)
theorem numsT_le {l : List Int} (h : ∀ x ∈ l, SmN x) : (catT numT l).length ≤ 22 * l.length := catT_len fun x hx => numT_le (h x hx)
theorem phiT_le {p : Ph} (h : OkPh p) : (phiT p).length ≤ 100 * (1 + bulkPh p) := by
  have h1 := itoaS h.to
  have h2 := regsT_le h.args
  unfold phiT bulkPh
  simp only [List.length_cons, List.length_append, List.length_nil]; omega
theorem insTx_le {x : Ik} (h : OkIk x) : (insTx x).length ≤ 100 * (1 + bulkIk x) := by
  have h1 := itoaS h.to
  have h2 := itoaS h.n
  have h3 := regsT_le h.args
  have h4 := iNm_le x.op
  have h5 : (toT x).length ≤ 24 := by
    unfold toT; split
    · simp only [List.length_cons, List.length_append, List.length_nil]; omega
    · exact Nat.zero_le _
  have h6 : (nT x).length ≤ 21 := by
    unfold nT; split
    · simp only [List.length_cons]; omega
    · exact Nat.zero_le _
  unfold insTx bulkIk
  simp only [List.length_cons, List.length_append, List.length_nil]; omega
theorem jumpT_le {b : Bk} (h : OkBk b) : (jumpT b).length ≤ 30 + 22 * b.next.length := by
  have h1 := itoaS h.on
  have h2 := numsT_le h.next
  have h3 := jNm_le b.jump
  have h4 : (onT b).length ≤ 22 := by
    unfold onT; split
    · simp only [List.length_cons]; omega
    · exact Nat.zero_le _
  unfold jumpT
  simp only [List.length_cons, List.length_append, List.length_nil]; omega
theorem phisT_le {b : Bk} (h : OkBk b) : (catT phiT b.phis).length ≤ 100 * bulkR bulkPh b.phis := catT_le fun p hp => phiT_le (h.phis p hp)
theorem inssT_le {b : Bk} (h : OkBk b) : (catT insTx b.ins).length ≤ 100 * bulkR bulkIk b.ins := catT_le fun p hp => insTx_le (h.ins p hp)
theorem blockT_le {b : Bk} {n : Nat} (h : OkBk b) (hn : n ≤ 160) : (blockT n b).length ≤ 100 * (1 + bulkBk b) := by
  have h1 := itoaS (x := (n : Int)) (by unfold SmN; omega)
  have h2 := phisT_le h
  have h3 := inssT_le h
  have h4 := jumpT_le h
  unfold blockT bulkBk
  simp only [List.length_cons, List.length_append, List.length_nil]; omega
theorem blkTo_le {bs : List Bk} (h : ∀ b ∈ bs, OkBk b) (hl : bs.length ≤ 160) : ∀ n ≤ bs.length, (blkTo bs n).length ≤ 100 * bulkR bulkBk (bs.take n)
  | 0, _ => Nat.zero_le _
  | n + 1, hn => by
    have h1 := blkTo_le h hl n (by omega)
    have h2 := blockT_le (n := n) (h bs[n] (List.getElem_mem _)) (by omega)
    have h3 := bulkR_take (f := bulkBk) (ks := bs) (i := n) (by omega)
    rw [blkTo_succ (by omega), List.length_append]; omega
theorem headT_le {c : Cd} (h : OkCd c) : (headT c).length ≤ 50 := by
  have h1 := itoaS h.params
  have h2 := itoaS h.regs
  unfold headT
  simp only [List.length_cons, List.length_append, List.length_nil]; omega
theorem codeT_le {c : Cd} (h : OkCd c) : (codeT c).length ≤ 100 * (1 + bulkCd c) := by
  have h1 := headT_le h
  have h2 := blkTo_le h.blocks h.len c.blocks.length (Nat.le_refl _)
  rw [List.take_length] at h2
  unfold codeT bulkCd
  rw [List.length_append]; omega
theorem unT_le {u : Un} (h : unB u = true) : (unT u).length ≤ 100 * bulkUn u := catT_le fun c hc => by
  obtain ⟨i, hi, rfl⟩ := List.getElem_of_mem hc
  exact codeT_le (okCd_all h i hi)
theorem unT_ne {u : Un} (h : unB u = true) : unT u ≠ [] := by
  have h' := ((unB_iff u).1 h).1
  unfold unT
  obtain ⟨cs⟩ := u
  cases cs with
  | nil => exact absurd h'.1 (by decide)
  | cons c cs => intro e; have := congrArg List.length e; simp [catT, codeT, headT] at this
end Go.Proofs.YtomhomnibikceaaDoor
