/-
  Plain mathematics of comparing with a list of pairs that wait and a set of pairs that were seen; the pairs in memory.
-/
import Derived.Test.YtoepehlndljkoaaGA
namespace Go.Proofs.Ytoepehlndljkoaa
open Go.RowKit
set_option maxRecDepth 100000

/-- A pair has been compared, and its Kids wait or have. -/
def DoneP (S : List (List E × List E)) (q : E × E) : Prop := besB q.1 q.2 = true ∧ (q.1.kids = [] ∨ (q.1.kids, q.2.kids) ∈ S)
def CovP (W : List (E × E)) (S : List (List E × List E)) (q : E × E) : Prop := q ∈ W ∨ DoneP S q
structure Inv (a b : E) (W : List (E × E)) (S : List (List E × List E)) : Prop where
  top : CovP W S (a, b)
  all : ∀ p ∈ S, p.1.length = p.2.length ∧ ∀ q ∈ p.1.zip p.2, CovP W S q
  need : ∀ q ∈ W, a = b → q.1 = q.2
theorem Inv.start (a b : E) : Inv a b [(a, b)] [] := ⟨.inl (by simp), (fun p h => by cases h), (fun q h e => by simp at h; subst h; exact e)⟩
theorem besB_self (a : E) : besB a a = true := (besB_iff a a).2 ⟨rfl, rfl, rfl, rfl⟩
theorem Inv.no {a b : E} {W : List (E × E)} {q : E × E} {S : List (List E × List E)} (h : Inv a b (W ++ [q]) S) (hb : besB q.1 q.2 = false) : a ≠ b := by
  intro e
  have := h.need q (by simp) e
  rw [this, besB_self] at hb
  cases hb
theorem DoneP.more {S S' : List (List E × List E)} {q : E × E} (h : DoneP S q) (hs : ∀ p ∈ S, p ∈ S') : DoneP S' q := ⟨h.1, h.2.imp id (hs _)⟩
theorem CovP.step {W W' : List (E × E)} {S S' : List (List E × List E)} {q x : E × E} (h : CovP (W ++ [q]) S x) (hd : DoneP S' q) (hw : ∀ y ∈ W, y ∈ W') (hs : ∀ p ∈ S, p ∈ S') : CovP W' S' x := by
  rcases h with h | h
  · rcases List.mem_append.1 h with h | h
    · exact .inl (hw _ h)
    · simp at h; subst h; exact .inr hd
  · exact .inr (h.more hs)
theorem Inv.same {a b : E} {W : List (E × E)} {q : E × E} {S : List (List E × List E)} (h : Inv a b (W ++ [q]) S) (hd : DoneP S q) : Inv a b W S :=
  ⟨h.top.step hd (fun _ h => h) (fun _ h => h), fun p hp => ⟨(h.all p hp).1, fun x hx => ((h.all p hp).2 x hx).step hd (fun _ h => h) (fun _ h => h)⟩, fun x hx => h.need x (by simp [hx])⟩
theorem Inv.leaf {a b : E} {W : List (E × E)} {q : E × E} {S : List (List E × List E)} (h : Inv a b (W ++ [q]) S) (hb : besB q.1 q.2 = true) (hk : q.1.kids = []) : Inv a b W S := h.same ⟨hb, .inl hk⟩
theorem Inv.hit {a b : E} {W : List (E × E)} {q : E × E} {S : List (List E × List E)} (h : Inv a b (W ++ [q]) S) (hb : besB q.1 q.2 = true) (hm : (q.1.kids, q.2.kids) ∈ S) : Inv a b W S := h.same ⟨hb, .inr hm⟩
theorem Inv.miss {a b : E} {W : List (E × E)} {q : E × E} {S : List (List E × List E)} (h : Inv a b (W ++ [q]) S) (hb : besB q.1 q.2 = true) : Inv a b (W ++ q.1.kids.zip q.2.kids) (S ++ [(q.1.kids, q.2.kids)]) := by
  have hd : DoneP (S ++ [(q.1.kids, q.2.kids)]) q := ⟨hb, .inr (by simp)⟩
  have hl := ((besB_iff _ _).1 hb).2.2.2
  refine ⟨h.top.step hd (fun _ h => by simp [h]) (fun _ h => by simp [h]), fun p hp => ?_, fun x hx e => ?_⟩
  · rcases List.mem_append.1 hp with hp | hp
    · exact ⟨(h.all p hp).1, fun x hx => ((h.all p hp).2 x hx).step hd (fun _ h => by simp [h]) (fun _ h => by simp [h])⟩
    · simp at hp; subst hp
      exact ⟨hl, fun x hx => .inl (by simp [hx])⟩
  · rcases List.mem_append.1 hx with hx | hx
    · exact h.need x (by simp [hx]) e
    · have he := h.need q (by simp) e
      rw [he] at hx
      obtain ⟨i, hi, rfl⟩ := List.getElem_of_mem hx
      simp
theorem zip_same : ∀ (ks ls : List E), ks.length = ls.length → (∀ q ∈ ks.zip ls, q.1 = q.2) → ks = ls
  | [], [], _, _ => rfl
  | [], _ :: _, h, _ => by cases h
  | _ :: _, [], h, _ => by cases h
  | k :: ks, l :: ls, h, hq => by
    have h0 := hq (k, l) (by simp)
    rw [zip_same ks ls (by simpa using h) (fun q hm => hq q (by simp [hm]))]
    rw [show k = l from h0]
theorem Inv.done {a b : E} {S : List (List E × List E)} (h : Inv a b [] S) : a = b := by
  have main : ∀ N (q : E × E), sizeE q.1 ≤ N → DoneP S q → q.1 = q.2 := by
    intro N
    induction N with
    | zero => intro q hq; have := sizeE_pos q.1; omega
    | succ N ih =>
      rintro ⟨x, y⟩ hq ⟨hb, hk⟩
      obtain ⟨e1, e2, e3, e4⟩ := (besB_iff _ _).1 hb
      refine E.ext e1 e2 e3 ?_
      rcases hk with hk | hk
      · rw [hk] at e4 ⊢
        exact (List.length_eq_zero_iff.1 e4.symm).symm
      · refine zip_same _ _ e4 fun p hp => ?_
        have hc := (h.all _ hk).2 p hp
        rcases hc with hc | hc
        · cases hc
        · refine ih p ?_ hc
          have hm := sizeL_mem (List.of_mem_zip (a := p.1) (b := p.2) hp).1
          rw [sizeE_kids] at hq
          dsimp only at hq hm
          omega
  rcases h.top with h0 | h0
  · cases h0
  · exact main _ (a, b) (Nat.le_refl _) h0

/-- A pair that waits, with where its Kids lie. -/
structure It where
  x : E
  A : Option Addr
  c : Nat
  y : E
  B : Option Addr
  d : Nat
def It.p (i : It) : E × E := (i.x, i.y)
def It.cells (i : It) : List Value := [.int .i64 i.x.op, .int .i64 i.x.n, .string i.x.name, .slice i.A i.x.kids.length i.c, .int .i64 i.y.op, .int .i64 i.y.n, .string i.y.name, .slice i.B i.y.kids.length i.d]
def itCells : List It → List Value
  | [] => []
  | i :: l => i.cells ++ itCells l
theorem itCells_app : ∀ (l m : List It), itCells (l ++ m) = itCells l ++ itCells m
  | [], m => rfl
  | i :: l, m => by show i.cells ++ itCells (l ++ m) = i.cells ++ itCells l ++ itCells m; rw [itCells_app l m, List.append_assoc]
theorem itCells_length : ∀ (l : List It), (itCells l).length = l.length * 8
  | [] => rfl
  | i :: l => by show (i.cells ++ itCells l).length = (l.length + 1) * 8; rw [List.length_append, itCells_length l]; show 8 + _ = _; omega
theorem itCells_last (l : List It) (i : It) (j : Nat) (hj : j < 8) : (itCells (l ++ [i]))[l.length * 8 + j]? = i.cells[j]? := by
  rw [itCells_app, List.getElem?_append_right (by rw [itCells_length]; omega), itCells_length]
  have e : l.length * 8 + j - l.length * 8 = j := by omega
  rw [e]
  show (i.cells ++ [])[j]? = _
  rw [List.append_nil]
/-- How much waits. -/
def meas : List It → Nat
  | [] => 0
  | i :: l => sizeE i.x + meas l
theorem meas_app : ∀ (l m : List It), meas (l ++ m) = meas l + meas m
  | [], m => by show meas m = 0 + meas m; omega
  | i :: l, m => by show sizeE i.x + meas (l ++ m) = sizeE i.x + meas l + meas m; rw [meas_app l m]; omega
theorem meas_len : ∀ (l : List It), l.length ≤ meas l
  | [] => Nat.le_refl _
  | i :: l => by have := meas_len l; have := sizeE_pos i.x; show l.length + 1 ≤ sizeE i.x + meas l; omega
/-- The Kids of a pair lie in memory that was there before block B. -/
structure It.ok (w : World) (i : It) : Prop where
  px : PdS w (Between w 0 w.heap.size) i.x.kids i.A
  py : PdS w (Between w 0 w.heap.size) i.y.kids i.B
  sx : sizeE i.x ≤ 2000001
  sy : sizeE i.y ≤ 2000001
/-- Which lists the set's keys stand for. -/
inductive KS (w : World) : List KP → List (List E × List E) → Prop where
  | nil : KS w [] []
  | cons {k : KP} {p : List E × List E} {K : List KP} {S : List (List E × List E)} (hn : k.n = p.1.length) (hl : p.1.length = p.2.length) (h1 : PdC w (Between w 0 w.heap.size) p.1 k.b k.o) (h2 : PdC w (Between w 0 w.heap.size) p.2 k.b' k.o')
      (h3 : Between w 0 w.heap.size k.b) (h4 : Between w 0 w.heap.size k.b') (h : KS w K S) : KS w (k :: K) (p :: S)
theorem PdC_fun {w : World} {S S' : Nat → Prop} : ∀ (N : Nat) (ks ls : List E) (b o : Nat), sizeL ks ≤ N → ks.length = ls.length → PdC w S ks b o → PdC w S' ls b o → ks = ls := by
  intro N
  induction N with
  | zero =>
    intro ks ls b o hN hl _ _
    cases ks with
    | nil => exact (List.length_eq_zero_iff.1 (by simpa using hl.symm)).symm
    | cons k ks => have := sizeE_pos k; have : sizeL (k :: ks) = sizeE k + sizeL ks := rfl; omega
  | succ N ih =>
    intro ks ls b o hN hl h1 h2
    refine List.ext_getElem hl fun i hi hi' => ?_
    obtain ⟨⟨a0, a1, a2⟩, A, c, a3, hr⟩ := h1.get hi
    obtain ⟨⟨b0, b1, b2⟩, A', c', b3, hr'⟩ := h2.get hi'
    have e0 := Option.some.inj (a0.symm.trans b0)
    have e1 := Option.some.inj (a1.symm.trans b1)
    have e2 := Option.some.inj (a2.symm.trans b2)
    have e3 := Option.some.inj (a3.symm.trans b3)
    injection e0 with _ e0
    injection e1 with _ e1
    injection e2 with e2
    injection e3 with e3 e4 _
    subst e3
    refine E.ext e0 e1 e2 ?_
    rcases hr with h | ⟨bb, oo, eA, _, hc⟩
    · rw [h] at e4 ⊢
      exact (List.length_eq_zero_iff.1 e4.symm).symm
    · rcases hr' with h | ⟨bb', oo', eA', _, hc'⟩
      · rw [h] at e4 ⊢
        exact List.length_eq_zero_iff.1 e4
      · rw [eA] at eA'
        injection eA' with eA'
        injection eA' with e5 e6
        subst e5; subst e6
        refine ih _ _ _ _ ?_ e4 hc hc'
        have := sizeL_get hi
        rw [sizeE_kids] at this
        omega
theorem KS.find {w : World} {K : List KP} {S : List (List E × List E)} (h : KS w K S) {k : KP} (hk : k ∈ K) {ks ls : List E} (hn : k.n = ks.length) (hl : ks.length = ls.length) {T T' : Nat → Prop} (h1 : PdC w T ks k.b k.o) (h2 : PdC w T' ls k.b' k.o') : (ks, ls) ∈ S := by
  induction h with
  | nil => cases hk
  | @cons k0 p K S hn0 hl0 g1 g2 _ _ _ ih =>
    rcases List.mem_cons.1 hk with rfl | hk
    · have e1 : ks = p.1 := PdC_fun _ _ _ _ _ (Nat.le_refl _) (by omega) h1 g1
      have e2 : ls = p.2 := PdC_fun _ _ _ _ _ (Nat.le_refl _) (by omega) h2 g2
      rw [e1, e2]; simp
    · simp [ih hk]
theorem KS.snoc {w : World} {K : List KP} {S : List (List E × List E)} (h : KS w K S) {k : KP} {ks ls : List E} (hn : k.n = ks.length) (hl : ks.length = ls.length) (h1 : PdC w (Between w 0 w.heap.size) ks k.b k.o) (h2 : PdC w (Between w 0 w.heap.size) ls k.b' k.o')
    (h3 : Between w 0 w.heap.size k.b) (h4 : Between w 0 w.heap.size k.b') : KS w (K ++ [k]) (S ++ [(ks, ls)]) := by
  induction h with
  | nil => exact .cons hn hl h1 h2 h3 h4 .nil
  | cons a b c d e f _ ih => exact .cons a b c d e f ih
theorem KS.flat {w w' : World} {K : List KP} {S : List (List E × List E)} (h : KS w K S) (hb : Below w.heap.size w w') : ∀ k ∈ K, k.flat w' := by
  induction h with
  | nil => intro k hk; cases hk
  | @cons k0 p K S _ _ _ _ h3 h4 _ ih =>
    intro k hk
    rcases List.mem_cons.1 hk with rfl | hk
    · exact ⟨h3.2.2.below hb h3.2.1, h4.2.2.below hb h4.2.1⟩
    · exact ih k hk
end Go.Proofs.Ytoepehlndljkoaa
