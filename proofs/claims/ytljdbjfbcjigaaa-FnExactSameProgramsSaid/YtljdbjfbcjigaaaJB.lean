/-
  Plain mathematics of comparing statements with a list of pairs that wait and a set of pairs of lists that were seen; the pairs in memory.
-/
import Derived.Test.YtljdbjfbcjigaaaJA
import Derived.Test.YtljdbjfbcjigaaaGB
namespace Go.Proofs.Ytljdbjfbcjigaaa
open Go.RowKit
set_option maxRecDepth 100000

open Classical in
/-- Are two statements one? -/
noncomputable def sameTB (a b : St) : Bool := decide (a = b)
open Classical in
theorem sameTB_yes (a : St) : sameTB a a = true := by unfold sameTB; rw [decide_eq_true_eq]
open Classical in
theorem sameTB_no {a b : St} (h : a ≠ b) : sameTB a b = false := by unfold sameTB; rw [decide_eq_false_iff_not]; exact h
open Classical in
/-- Are two statements alike but for their blocks? -/
noncomputable def besT (a b : St) : Bool := decide (a.op = b.op ∧ a.name = b.name ∧ a.args = b.args)
open Classical in
theorem besT_iff (a b : St) : besT a b = true ↔ a.op = b.op ∧ a.name = b.name ∧ a.args = b.args := by unfold besT; rw [decide_eq_true_eq]
theorem besT_self (a : St) : besT a a = true := (besT_iff a a).2 ⟨rfl, rfl, rfl⟩
/-- The lists below a statement. -/
def lstT (t : St) (k : Nat) : List St := if k = 0 then t.body else t.els
def parT (q : St × St) (k : Nat) : List St × List St := (lstT q.1 k, lstT q.2 k)
def HndT (S : List (List St × List St)) (p : List St × List St) : Prop := (p.1 = [] ∧ p.2 = []) ∨ p ∈ S
def DoneT (S : List (List St × List St)) (q : St × St) : Prop := besT q.1 q.2 = true ∧ ∀ k, k < 2 → HndT S (parT q k)
def CovT (W : List (St × St)) (S : List (List St × List St)) (q : St × St) : Prop := q ∈ W ∨ DoneT S q
structure InvT (a b : St) (W : List (St × St)) (S : List (List St × List St)) : Prop where
  top : CovT W S (a, b)
  all : ∀ p ∈ S, p.1.length = p.2.length ∧ ∀ q ∈ p.1.zip p.2, CovT W S q
  need : ∀ q ∈ W, a = b → q.1 = q.2
theorem InvT.start (a b : St) : InvT a b [(a, b)] [] := ⟨.inl (by simp), (fun p h => by cases h), (fun q h e => by simp at h; subst h; exact e)⟩
theorem InvT.no {a b : St} {W : List (St × St)} {q : St × St} {S : List (List St × List St)} (h : InvT a b (W ++ [q]) S) (hb : besT q.1 q.2 = false) : a ≠ b := by
  intro e
  have := h.need q (by simp) e
  rw [this, besT_self] at hb
  cases hb
theorem InvT.nolen {a b : St} {W : List (St × St)} {q : St × St} {S : List (List St × List St)} (h : InvT a b (W ++ [q]) S) {k : Nat} (hb : (lstT q.1 k).length ≠ (lstT q.2 k).length) : a ≠ b := by
  intro e
  have := h.need q (by simp) e
  rw [this] at hb
  exact hb rfl
theorem HndT.more {S S' : List (List St × List St)} {p : List St × List St} (h : HndT S p) (hs : ∀ p ∈ S, p ∈ S') : HndT S' p := h.imp id (hs _)
/-- The lists below a pair, of which the first k have been seen to. -/
structure PartT (q : St × St) (W : List (St × St)) (S : List (List St × List St)) (k : Nat) (W2 : List (St × St)) (S2 : List (List St × List St)) : Prop where
  ws : ∀ x ∈ W, x ∈ W2
  ss : ∀ p ∈ S, p ∈ S2
  hnd : ∀ j, j < k → HndT S2 (parT q j)
  new : ∀ p ∈ S2, p ∈ S ∨ (p.1.length = p.2.length ∧ ∀ x ∈ p.1.zip p.2, x ∈ W2)
  old : ∀ x ∈ W2, x ∈ W ∨ ∃ j, j < 2 ∧ x ∈ (parT q j).1.zip (parT q j).2
theorem PartT.start (q : St × St) (W : List (St × St)) (S : List (List St × List St)) : PartT q W S 0 W S :=
  ⟨fun _ h => h, fun _ h => h, fun j h => absurd h (by omega), fun _ h => .inl h, fun _ h => .inl h⟩
theorem PartT.hit {q : St × St} {W W2 : List (St × St)} {S S2 : List (List St × List St)} {k : Nat} (h : PartT q W S k W2 S2) (hh : HndT S2 (parT q k)) : PartT q W S (k + 1) W2 S2 :=
  ⟨h.ws, h.ss, fun j hj => by
    by_cases e : j = k
    · subst e; exact hh
    · exact h.hnd j (by omega), h.new, h.old⟩
theorem PartT.miss {q : St × St} {W W2 : List (St × St)} {S S2 : List (List St × List St)} {k : Nat} (h : PartT q W S k W2 S2) (hk : k < 2) (hl : (parT q k).1.length = (parT q k).2.length) :
    PartT q W S (k + 1) (W2 ++ (parT q k).1.zip (parT q k).2) (S2 ++ [parT q k]) := by
  refine ⟨fun x hx => by simp [h.ws x hx], fun p hp => by simp [h.ss p hp], fun j hj => ?_, fun p hp => ?_, fun x hx => ?_⟩
  · by_cases e : j = k
    · subst e; exact .inr (by simp)
    · exact (h.hnd j (by omega)).more fun p hp => by simp [hp]
  · rcases List.mem_append.1 hp with hp | hp
    · rcases h.new p hp with h1 | ⟨h1, h2⟩
      · exact .inl h1
      · exact .inr ⟨h1, fun x hx => by simp [h2 x hx]⟩
    · simp at hp; subst hp
      exact .inr ⟨hl, fun x hx => by simp [hx]⟩
  · rcases List.mem_append.1 hx with hx | hx
    · exact h.old x hx
    · exact .inr ⟨k, hk, hx⟩
theorem PartT.fin {a b : St} {q : St × St} {W W2 : List (St × St)} {S S2 : List (List St × List St)} (h : PartT q W S 2 W2 S2) (hI : InvT a b (W ++ [q]) S) (hb : besT q.1 q.2 = true) : InvT a b W2 S2 := by
  have hd : DoneT S2 q := ⟨hb, fun k hk => h.hnd k hk⟩
  have step : ∀ x, CovT (W ++ [q]) S x → CovT W2 S2 x := by
    intro x hx
    rcases hx with hx | ⟨h1, h2⟩
    · rcases List.mem_append.1 hx with hx | hx
      · exact .inl (h.ws x hx)
      · simp at hx; subst hx; exact .inr hd
    · exact .inr ⟨h1, fun k hk => (h2 k hk).more h.ss⟩
  refine ⟨step _ hI.top, fun p hp => ?_, fun x hx e => ?_⟩
  · rcases h.new p hp with h1 | ⟨h1, h2⟩
    · exact ⟨(hI.all p h1).1, fun x hx => step x ((hI.all p h1).2 x hx)⟩
    · exact ⟨h1, fun x hx => .inl (h2 x hx)⟩
  · rcases h.old x hx with h1 | ⟨j, _, h1⟩
    · exact hI.need x (by simp [h1]) e
    · have he := hI.need q (by simp) e
      unfold parT at h1
      rw [he] at h1
      obtain ⟨i, hi, rfl⟩ := List.getElem_of_mem h1
      simp
theorem zip_sameT : ∀ (ks ls : List St), ks.length = ls.length → (∀ q ∈ ks.zip ls, q.1 = q.2) → ks = ls
  | [], [], _, _ => rfl
  | [], _ :: _, h, _ => by cases h
  | _ :: _, [], h, _ => by cases h
  | k :: ks, l :: ls, h, hq => by
    have h0 := hq (k, l) (by simp)
    rw [zip_sameT ks ls (by simpa using h) (fun q hm => hq q (by simp [hm]))]
    rw [show k = l from h0]
theorem InvT.done {a b : St} {S : List (List St × List St)} (h : InvT a b [] S) : a = b := by
  have main : ∀ N (q : St × St), sizeT q.1 ≤ N → DoneT S q → q.1 = q.2 := by
    intro N
    induction N with
    | zero => intro q hq; have := sizeT_pos q.1; omega
    | succ N ih =>
      rintro ⟨x, y⟩ hq ⟨hb, hk⟩
      obtain ⟨e1, e2, e3⟩ := (besT_iff _ _).1 hb
      dsimp only at hq
      rw [sizeT_kids] at hq
      have lists : ∀ k, k < 2 → sizeTL (lstT x k) ≤ N → lstT x k = lstT y k := by
        intro k h2 hs
        rcases hk k h2 with ⟨h3, h4⟩ | h3
        · exact h3.trans h4.symm
        · obtain ⟨hl, hc⟩ := h.all _ h3
          refine zip_sameT _ _ hl fun p hp => ?_
          rcases hc p hp with hc | hc
          · cases hc
          · refine ih p ?_ hc
            have hm := sizeTL_mem (List.of_mem_zip (a := p.1) (b := p.2) hp).1
            have hm' : sizeT p.1 ≤ sizeTL (lstT x k) := hm
            omega
      exact St.ext e1 e2 e3 (lists 0 (by omega) (by show sizeTL x.body ≤ N; omega)) (lists 1 (by omega) (by show sizeTL x.els ≤ N; omega))
  rcases h.top with h0 | h0
  · cases h0
  · exact main _ (a, b) (Nat.le_refl _) h0

/-- A statement that lies in memory: with where its lists lie. -/
structure Sp where
  t : St
  A1 : Option Addr
  c1 : Nat
  A2 : Option Addr
  c2 : Nat
  A3 : Option Addr
  c3 : Nat
def Sp.cells (i : Sp) : List Value := [.int .i64 i.t.op, .string i.t.name, .slice i.A1 i.t.args.length i.c1, .slice i.A2 i.t.body.length i.c2, .slice i.A3 i.t.els.length i.c3]
/-- Where the k-th list below it lies. -/
def Sp.ad (i : Sp) (k : Nat) : Option Addr := if k = 0 then i.A2 else i.A3
def Sp.cp (i : Sp) (k : Nat) : Nat := if k = 0 then i.c2 else i.c3
structure Sp.ok (w : World) (i : Sp) : Prop where
  pa : PdS w (Between w 0 w.heap.size) i.t.args i.A1
  pl : ∀ k, StS w (Between w 0 w.heap.size) (lstT i.t k) (i.ad k)
  bk : bulkT i.t ≤ 2000000
theorem Sp.ok.sz {w : World} {i : Sp} (h : i.ok w) : sizeT i.t ≤ 2000001 := by have := sizeT_bulk i.t; have := h.bk; omega
theorem Sp.ok.ba {w : World} {i : Sp} (h : i.ok w) : bulkL i.t.args ≤ 2000000 := by have h1 := bulkT_kids i.t; have := h.bk; omega
theorem lst_bulk (t : St) (k : Nat) : bulkTL (lstT t k) ≤ bulkT t := by
  rw [bulkT_kids]
  unfold lstT
  split <;> omega
theorem Sp.ok.kid {w : World} {i : Sp} (h : i.ok w) {k q : Nat} (hq : q < (lstT i.t k).length) {A1 A2 A3 : Option Addr} {c1 c2 c3 : Nat} (h1 : PdS w (Between w 0 w.heap.size) (lstT i.t k)[q].args A1) (h2 : StS w (Between w 0 w.heap.size) (lstT i.t k)[q].body A2) (h3 : StS w (Between w 0 w.heap.size) (lstT i.t k)[q].els A3) :
    (⟨(lstT i.t k)[q], A1, c1, A2, c2, A3, c3⟩ : Sp).ok w := by
  refine ⟨h1, fun j => ?_, ?_⟩
  · unfold lstT Sp.ad
    dsimp only
    by_cases e : j = 0
    · rw [if_pos e, if_pos e]; exact h2
    · rw [if_neg e, if_neg e]; exact h3
  · have a := bulkTL_mem (List.getElem_mem hq)
    have b := lst_bulk i.t k
    have c := h.bk
    show bulkT (lstT i.t k)[q] ≤ 2000000
    omega
/-- How much the first k lists are. -/
def sumL (t : St) : Nat → Nat
  | 0 => 0
  | 1 => sizeTL (lstT t 0)
  | _ => sizeTL (lstT t 0) + sizeTL (lstT t 1)
theorem sumL_next (t : St) {k : Nat} (hk : k < 2) : sumL t (k + 1) = sumL t k + sizeTL (lstT t k) := by
  have h2 : k = 0 ∨ k = 1 := by omega
  rcases h2 with rfl | rfl
  · show sizeTL (lstT t 0) = 0 + _; omega
  · rfl
theorem sumL_le (t : St) {k : Nat} (hk : k ≤ 2) : sumL t k + 1 ≤ sizeT t := by
  have h := sizeT_kids t
  have e0 : lstT t 0 = t.body := rfl
  have e1 : lstT t 1 = t.els := rfl
  have h2 : k = 0 ∨ k = 1 ∨ k = 2 := by omega
  rcases h2 with rfl | rfl | rfl
  · show 0 + 1 ≤ _; omega
  · show sizeTL (lstT t 0) + 1 ≤ _; rw [e0]; omega
  · show sizeTL (lstT t 0) + sizeTL (lstT t 1) + 1 ≤ _; rw [e0, e1]; omega
/-- A pair that waits. -/
structure Jt where
  x : Sp
  y : Sp
def Jt.p (i : Jt) : St × St := (i.x.t, i.y.t)
def Jt.cells (i : Jt) : List Value := i.x.cells ++ i.y.cells
def jtCells : List Jt → List Value
  | [] => []
  | i :: l => i.cells ++ jtCells l
theorem jtCells_app : ∀ (l m : List Jt), jtCells (l ++ m) = jtCells l ++ jtCells m
  | [], m => rfl
  | i :: l, m => by show i.cells ++ jtCells (l ++ m) = i.cells ++ jtCells l ++ jtCells m; rw [jtCells_app l m, List.append_assoc]
theorem jtCells_length : ∀ (l : List Jt), (jtCells l).length = l.length * 10
  | [] => rfl
  | i :: l => by show (i.cells ++ jtCells l).length = (l.length + 1) * 10; rw [List.length_append, jtCells_length l]; show 10 + _ = _; omega
theorem jtCells_last (l : List Jt) (i : Jt) (j : Nat) (hj : j < 10) : (jtCells (l ++ [i]))[l.length * 10 + j]? = i.cells[j]? := by
  rw [jtCells_app, List.getElem?_append_right (by rw [jtCells_length]; omega), jtCells_length]
  have e : l.length * 10 + j - l.length * 10 = j := by omega
  rw [e]
  show (i.cells ++ [])[j]? = _
  rw [List.append_nil]
/-- How much waits. -/
def measJ : List Jt → Nat
  | [] => 0
  | i :: l => sizeT i.x.t + measJ l
theorem measJ_app : ∀ (l m : List Jt), measJ (l ++ m) = measJ l + measJ m
  | [], m => by show measJ m = 0 + measJ m; omega
  | i :: l, m => by show sizeT i.x.t + measJ (l ++ m) = sizeT i.x.t + measJ l + measJ m; rw [measJ_app l m]; omega
theorem measJ_len : ∀ (l : List Jt), l.length ≤ measJ l
  | [] => Nat.le_refl _
  | i :: l => by have := measJ_len l; have := sizeT_pos i.x.t; show l.length + 1 ≤ sizeT i.x.t + measJ l; omega
theorem lst_size (t : St) {k : Nat} (hk : k < 2) : sizeTL (lstT t 0) + sizeTL (lstT t 1) + 1 = sizeT t ∧ sizeTL (lstT t k) < sizeT t := by
  have h := sizeT_kids t
  have e0 : lstT t 0 = t.body := rfl
  have e1 : lstT t 1 = t.els := rfl
  rw [e0, e1]
  have h2 : k = 0 ∨ k = 1 := by omega
  rcases h2 with rfl | rfl
  · rw [e0]; omega
  · rw [e1]; omega
theorem PdS_fun {w : World} {S S' : Nat → Prop} {ks ls : List E} {A : Option Addr} (hl : ks.length = ls.length) (h : PdS w S ks A) (h' : PdS w S' ls A) : ks = ls := by
  rcases h with h | ⟨b, o, e, _, hc⟩
  · rw [h] at hl ⊢
    exact (List.length_eq_zero_iff.1 hl.symm).symm
  · rcases h' with h | ⟨b', o', e', _, hc'⟩
    · rw [h] at hl ⊢
      exact List.length_eq_zero_iff.1 hl
    · rw [e] at e'
      injection e' with e'
      injection e' with e1 e2
      subst e1; subst e2
      exact PdC_fun _ _ _ _ _ (Nat.le_refl _) hl hc hc'
theorem StC_fun {w : World} {S S' : Nat → Prop} : ∀ (N : Nat) (ks ls : List St) (b o : Nat), sizeTL ks ≤ N → ks.length = ls.length → StC w S ks b o → StC w S' ls b o → ks = ls := by
  intro N
  induction N with
  | zero =>
    intro ks ls b o hN hl _ _
    cases ks with
    | nil => exact (List.length_eq_zero_iff.1 (by simpa using hl.symm)).symm
    | cons k ks => have := sizeT_pos k; have : sizeTL (k :: ks) = sizeT k + sizeTL ks := rfl; omega
  | succ N ih =>
    have sub : ∀ (ks ls : List St) (A : Option Addr), sizeTL ks ≤ N → ks.length = ls.length → StS w S ks A → StS w S' ls A → ks = ls := by
      intro ks ls A hs hl h h'
      rcases h with h | ⟨b, o, e, _, hc⟩
      · rw [h] at hl ⊢
        exact (List.length_eq_zero_iff.1 hl.symm).symm
      · rcases h' with h | ⟨b', o', e', _, hc'⟩
        · rw [h] at hl ⊢
          exact List.length_eq_zero_iff.1 hl
        · rw [e] at e'
          injection e' with e'
          injection e' with e1 e2
          subst e1; subst e2
          exact ih _ _ _ _ hs hl hc hc'
    intro ks ls b o hN hl h1 h2
    refine List.ext_getElem hl fun i hi hi' => ?_
    obtain ⟨⟨a0, a1⟩, ⟨A, c, a2, r1⟩, ⟨A', c', a3, r2⟩, A'', c'', a4, r3⟩ := h1.get hi
    obtain ⟨⟨b0, b1⟩, ⟨B, d, b2, q1⟩, ⟨B', d', b3, q2⟩, B'', d'', b4, q3⟩ := h2.get hi'
    have e0 := Option.some.inj (a0.symm.trans b0)
    have e1 := Option.some.inj (a1.symm.trans b1)
    have e2 := Option.some.inj (a2.symm.trans b2)
    have e3 := Option.some.inj (a3.symm.trans b3)
    have e4 := Option.some.inj (a4.symm.trans b4)
    injection e0 with _ e0
    injection e1 with e1
    injection e2 with e2 l2 _
    injection e3 with e3 l3 _
    injection e4 with e4 l4 _
    subst e2; subst e3; subst e4
    have hs := sizeTL_get hi
    rw [sizeT_kids] at hs
    exact St.ext e0 e1 (PdS_fun l2 r1 q1) (sub _ _ _ (by omega) l3 r2 q2) (sub _ _ _ (by omega) l4 r3 q3)
/-- Which lists the set's keys stand for. -/
inductive KST (w : World) : List KP → List (List St × List St) → Prop where
  | nil : KST w [] []
  | cons {k : KP} {p : List St × List St} {K : List KP} {S : List (List St × List St)} (hn : k.n = p.1.length) (hl : p.1.length = p.2.length) (h1 : StC w (Between w 0 w.heap.size) p.1 k.b k.o) (h2 : StC w (Between w 0 w.heap.size) p.2 k.b' k.o')
      (h3 : Between w 0 w.heap.size k.b) (h4 : Between w 0 w.heap.size k.b') (h : KST w K S) : KST w (k :: K) (p :: S)
theorem KST.find {w : World} {K : List KP} {S : List (List St × List St)} (h : KST w K S) {k : KP} (hk : k ∈ K) {ks ls : List St} (hn : k.n = ks.length) (hl : ks.length = ls.length) {T T' : Nat → Prop} (h1 : StC w T ks k.b k.o) (h2 : StC w T' ls k.b' k.o') : (ks, ls) ∈ S := by
  induction h with
  | nil => cases hk
  | @cons k0 p K S hn0 hl0 g1 g2 _ _ _ ih =>
    rcases List.mem_cons.1 hk with rfl | hk
    · have e1 : ks = p.1 := StC_fun _ _ _ _ _ (Nat.le_refl _) (by omega) h1 g1
      have e2 : ls = p.2 := StC_fun _ _ _ _ _ (Nat.le_refl _) (by omega) h2 g2
      rw [e1, e2]; simp
    · simp [ih hk]
theorem KST.snoc {w : World} {K : List KP} {S : List (List St × List St)} (h : KST w K S) {k : KP} {ks ls : List St} (hn : k.n = ks.length) (hl : ks.length = ls.length) (h1 : StC w (Between w 0 w.heap.size) ks k.b k.o) (h2 : StC w (Between w 0 w.heap.size) ls k.b' k.o')
    (h3 : Between w 0 w.heap.size k.b) (h4 : Between w 0 w.heap.size k.b') : KST w (K ++ [k]) (S ++ [(ks, ls)]) := by
  induction h with
  | nil => exact .cons hn hl h1 h2 h3 h4 .nil
  | cons a b c d e f _ ih => exact .cons a b c d e f ih
theorem KST.flat {w w' : World} {K : List KP} {S : List (List St × List St)} (h : KST w K S) (hb : Below w.heap.size w w') : ∀ k ∈ K, k.flat w' := by
  induction h with
  | nil => intro k hk; cases hk
  | @cons k0 p K S _ _ _ _ h3 h4 _ ih =>
    intro k hk
    rcases List.mem_cons.1 hk with rfl | hk
    · exact ⟨h3.2.2.below hb h3.2.1, h4.2.2.below hb h4.2.1⟩
    · exact ih k hk
end Go.Proofs.Ytljdbjfbcjigaaa
