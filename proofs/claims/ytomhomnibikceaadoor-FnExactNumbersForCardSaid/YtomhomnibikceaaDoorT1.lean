/-
  Statements: their parts; statements in memory, with what is known of their blocks. Nothing of a program stands here.
-/
import Derived.Test.YtomhomnibikceaaDoorG1
namespace Go.Proofs.YtomhomnibikceaaDoor
open Go.RowKit

/-- A statement. -/
inductive St where
  | mk (op : Int) (name : ByteArray) (args : List E) (body els : List St)
def St.op : St → Int | .mk o _ _ _ _ => o
def St.name : St → ByteArray | .mk _ s _ _ _ => s
def St.args : St → List E | .mk _ _ a _ _ => a
def St.body : St → List St | .mk _ _ _ b _ => b
def St.els : St → List St | .mk _ _ _ _ e => e
theorem St.eta (t : St) : St.mk t.op t.name t.args t.body t.els = t := by cases t; rfl
theorem St.ext {a b : St} (h1 : a.op = b.op) (h2 : a.name = b.name) (h3 : a.args = b.args) (h4 : a.body = b.body) (h5 : a.els = b.els) : a = b := by
  rw [← St.eta a, ← St.eta b, h1, h2, h3, h4, h5]
instance : Inhabited St := ⟨.mk 0 ⟨#[]⟩ [] [] []⟩
mutual
/-- How many statements one is, with those in it. -/
def sizeT : St → Nat
  | .mk _ _ _ b e => 1 + sizeTL b + sizeTL e
def sizeTL : List St → Nat
  | [] => 0
  | k :: ks => sizeT k + sizeTL ks
end
theorem sizeT_kids (t : St) : sizeT t = 1 + sizeTL t.body + sizeTL t.els := by cases t; rfl
theorem sizeT_pos (t : St) : 0 < sizeT t := by rw [sizeT_kids]; omega
theorem sizeTL_mem : ∀ {ks : List St} {k : St}, k ∈ ks → sizeT k ≤ sizeTL ks
  | x :: ks, k, h => by
    show sizeT k ≤ sizeT x + sizeTL ks
    rcases List.mem_cons.1 h with rfl | h
    · omega
    · have := sizeTL_mem h; omega
theorem sizeTL_get {ks : List St} {i : Nat} (h : i < ks.length) : sizeT ks[i] ≤ sizeTL ks := sizeTL_mem (List.getElem_mem h)
theorem sizeTL_app : ∀ (a b : List St), sizeTL (a ++ b) = sizeTL a + sizeTL b
  | [], b => by show sizeTL b = 0 + sizeTL b; omega
  | x :: a, b => by show sizeT x + sizeTL (a ++ b) = sizeT x + sizeTL a + sizeTL b; rw [sizeTL_app a b]; omega
theorem sizeTL_take {ks : List St} {i : Nat} (h : i < ks.length) : sizeTL (ks.take (i + 1)) = sizeTL (ks.take i) + sizeT ks[i] := by
  rw [List.take_succ_eq_append_getElem h, sizeTL_app]; show _ + (sizeT ks[i] + 0) = _; omega
theorem sizeTL_take_le (ks : List St) (i : Nat) : sizeTL (ks.take i) ≤ sizeTL ks := by
  have h := sizeTL_app (ks.take i) (ks.drop i)
  rw [List.take_append_drop] at h; omega
theorem length_le_sizeTL : ∀ (ks : List St), ks.length ≤ sizeTL ks
  | [] => Nat.le_refl _
  | k :: ks => by have := length_le_sizeTL ks; have := sizeT_pos k; show ks.length + 1 ≤ sizeT k + sizeTL ks; omega
/-- Induction over statements. -/
theorem St.ind {P : St → Prop} (h : ∀ t : St, (∀ k ∈ t.body, P k) → (∀ k ∈ t.els, P k) → P t) : ∀ t, P t := by
  have main : ∀ N t, sizeT t ≤ N → P t := by
    intro N
    induction N with
    | zero => intro t ht; have := sizeT_pos t; omega
    | succ N ih =>
      intro t ht
      rw [sizeT_kids] at ht
      refine h t (fun k hk => ih k ?_) (fun k hk => ih k ?_)
      · have := sizeTL_mem hk; omega
      · have := sizeTL_mem hk; omega
  exact fun t => main _ t (Nat.le_refl _)
mutual
/-- What a statement holds: bytes of names and lengths of lists. -/
def bulkT : St → Nat
  | .mk _ s a b e => s.size + bulkL a + bulkTL b + bulkTL e
def bulkTL : List St → Nat
  | [] => 0
  | k :: ks => 1 + bulkT k + bulkTL ks
end
theorem bulkT_kids (t : St) : bulkT t = t.name.size + bulkL t.args + bulkTL t.body + bulkTL t.els := by cases t; rfl
theorem bulkTL_mem : ∀ {ks : List St} {k : St}, k ∈ ks → bulkT k + 1 ≤ bulkTL ks
  | x :: ks, k, h => by
    show bulkT k + 1 ≤ 1 + bulkT x + bulkTL ks
    rcases List.mem_cons.1 h with rfl | h
    · omega
    · have := bulkTL_mem h; omega
theorem bulkTL_app : ∀ (a b : List St), bulkTL (a ++ b) = bulkTL a + bulkTL b
  | [], b => by show bulkTL b = 0 + bulkTL b; omega
  | x :: a, b => by show 1 + bulkT x + bulkTL (a ++ b) = 1 + bulkT x + bulkTL a + bulkTL b; rw [bulkTL_app a b]; omega
theorem bulkTL_take {ks : List St} {i : Nat} (h : i < ks.length) : bulkTL (ks.take (i + 1)) = bulkTL (ks.take i) + (1 + bulkT ks[i]) := by
  rw [List.take_succ_eq_append_getElem h, bulkTL_app]; show _ + (1 + bulkT ks[i] + 0) = _; omega
mutual
theorem sizeT_bulk : ∀ (t : St), sizeT t ≤ 1 + bulkT t
  | .mk _ s a b e => by have := sizeTL_bulk b; have := sizeTL_bulk e; show 1 + sizeTL b + sizeTL e ≤ 1 + (s.size + bulkL a + bulkTL b + bulkTL e); omega
theorem sizeTL_bulk : ∀ (ks : List St), sizeTL ks ≤ bulkTL ks
  | [] => Nat.le_refl _
  | k :: ks => by have := sizeT_bulk k; have := sizeTL_bulk ks; show sizeT k + sizeTL ks ≤ 1 + bulkT k + bulkTL ks; omega
end
theorem length_le_bulkTL (ks : List St) : ks.length ≤ bulkTL ks := Nat.le_trans (length_le_sizeTL ks) (sizeTL_bulk ks)
theorem bulkTL_rest (ks : List St) (i : Nat) : bulkTL (ks.take i) + (ks.length - i) ≤ bulkTL ks := by
  have h := bulkTL_app (ks.take i) (ks.drop i)
  rw [List.take_append_drop] at h
  have h2 := length_le_bulkTL (ks.drop i)
  rw [List.length_drop] at h2
  omega
mutual
/-- All names and lists are such as memory holds. -/
def SmT : St → Prop
  | .mk _ s a b e => s.size ≤ maxLen ∧ SmL a ∧ a.length ≤ maxLen ∧ b.length ≤ maxLen ∧ SmTL b ∧ e.length ≤ maxLen ∧ SmTL e
def SmTL : List St → Prop
  | [] => True
  | k :: ks => SmT k ∧ SmTL ks
end
theorem SmTL_mem : ∀ {ks : List St} {k : St}, SmTL ks → k ∈ ks → SmT k
  | x :: ks, k, h, hk => by
    rw [SmTL] at h
    rcases List.mem_cons.1 hk with rfl | hk
    · exact h.1
    · exact SmTL_mem h.2 hk
theorem SmTL_mk : ∀ {ks : List St}, (∀ k ∈ ks, SmT k) → SmTL ks
  | [], _ => by rw [SmTL]; trivial
  | x :: ks, h => by rw [SmTL]; exact ⟨h x (by simp), SmTL_mk fun k hk => h k (by simp [hk])⟩
theorem SmT_mk (t : St) : SmT t ↔ t.name.size ≤ maxLen ∧ SmL t.args ∧ t.args.length ≤ maxLen ∧ t.body.length ≤ maxLen ∧ SmTL t.body ∧ t.els.length ≤ maxLen ∧ SmTL t.els := by cases t; rw [SmT]; rfl

/-- Blocks below B. -/
def Lt (B : Nat) : Nat → Prop := fun b => b < B
theorem rd_pd {w : World} {B : Nat} : ∀ (N : Nat) (ks : List E) (A : Option Addr), sizeL ks ≤ N → RdS w B ks A → PdS w (Lt B) ks A := by
  intro N
  induction N with
  | zero =>
    intro ks A hN h
    cases ks with
    | nil => exact .inl rfl
    | cons k ks => have := sizeE_pos k; have : sizeL (k :: ks) = sizeE k + sizeL ks := rfl; omega
  | succ N ih =>
    intro ks A hN h
    rcases h with h | ⟨b, o, e, hb, hr⟩
    · exact .inl h
    · refine .inr ⟨b, o, e, hb, PdC.mk fun i hi => ?_⟩
      obtain ⟨c, A', cap, c3, hr'⟩ := hr.get hi
      refine ⟨c, A', cap, c3, ih _ _ ?_ hr'⟩
      have := sizeL_get hi
      rw [sizeE_kids] at this
      omega
theorem RdS.pd {w : World} {B : Nat} {ks : List E} {A : Option Addr} (h : RdS w B ks A) : PdS w (Lt B) ks A := rd_pd _ _ _ (Nat.le_refl _) h
theorem PdS.lt_rd {w : World} {B : Nat} {ks : List E} {A : Option Addr} (h : PdS w (Lt B) ks A) : RdS w B ks A := h.rd fun _ h => h

/-- Cells from a place on that read as statements; the blocks to which they lead are of a kind. -/
def StC (w : World) (Q : Nat → Prop) : List St → Nat → Nat → Prop
  | [], _, _ => True
  | .mk op s a bd el :: ks, b, o =>
    (w.cell? ⟨b, o, none⟩ = some (.int .i64 op) ∧ w.cell? ⟨b, o + 1, none⟩ = some (.string s)) ∧
    (∃ A cap, w.cell? ⟨b, o + 2, none⟩ = some (.slice A a.length cap) ∧ PdS w Q a A) ∧
    (∃ A cap, w.cell? ⟨b, o + 3, none⟩ = some (.slice A bd.length cap) ∧ (bd = [] ∨ ∃ b' o', A = some ⟨b', o', none⟩ ∧ Q b' ∧ StC w Q bd b' o')) ∧
    (∃ A cap, w.cell? ⟨b, o + 4, none⟩ = some (.slice A el.length cap) ∧ (el = [] ∨ ∃ b' o', A = some ⟨b', o', none⟩ ∧ Q b' ∧ StC w Q el b' o')) ∧ StC w Q ks b (o + 5)
def StS (w : World) (Q : Nat → Prop) (ks : List St) (A : Option Addr) : Prop := ks = [] ∨ ∃ b o, A = some ⟨b, o, none⟩ ∧ Q b ∧ StC w Q ks b o
def StAt (w : World) (Q : Nat → Prop) (t : St) (b o : Nat) : Prop :=
  (w.cell? ⟨b, o, none⟩ = some (.int .i64 t.op) ∧ w.cell? ⟨b, o + 1, none⟩ = some (.string t.name)) ∧
    (∃ A cap, w.cell? ⟨b, o + 2, none⟩ = some (.slice A t.args.length cap) ∧ PdS w Q t.args A) ∧
    (∃ A cap, w.cell? ⟨b, o + 3, none⟩ = some (.slice A t.body.length cap) ∧ StS w Q t.body A) ∧
    (∃ A cap, w.cell? ⟨b, o + 4, none⟩ = some (.slice A t.els.length cap) ∧ StS w Q t.els A)
/-- A statement as a value. -/
def StV (w : World) (Q : Nat → Prop) (t : St) (v : Value) : Prop := ∃ A1 c1 A2 c2 A3 c3, v = .agg #[.int .i64 t.op, .string t.name, .slice A1 t.args.length c1, .slice A2 t.body.length c2, .slice A3 t.els.length c3] ∧ PdS w Q t.args A1 ∧ StS w Q t.body A2 ∧ StS w Q t.els A3
theorem StC_cons (w : World) (Q : Nat → Prop) (t : St) (ks : List St) (b o : Nat) : StC w Q (t :: ks) b o ↔ StAt w Q t b o ∧ StC w Q ks b (o + 5) := by
  obtain ⟨op, s, a, bd, el⟩ := t
  unfold StAt StS
  rw [StC]
  simp only [St.op, St.name, St.args, St.body, St.els, and_assoc]
theorem StC.get {w : World} {Q : Nat → Prop} : ∀ {ks : List St} {b o : Nat}, StC w Q ks b o → ∀ {i : Nat} (h : i < ks.length), StAt w Q ks[i] b (o + i * 5)
  | [], _, _, _, i, h => absurd h (by simp)
  | e :: ks, b, o, hr, 0, _ => by
    rw [StC_cons] at hr
    have e1 : o + 0 * 5 = o := by omega
    rw [e1]; exact hr.1
  | e :: ks, b, o, hr, i + 1, h => by
    rw [StC_cons] at hr
    have := StC.get hr.2 (i := i) (by simpa using h)
    have e1 : o + 5 + i * 5 = o + (i + 1) * 5 := by omega
    rw [e1] at this
    exact this
theorem StC.mk {w : World} {Q : Nat → Prop} : ∀ {ks : List St} {b o : Nat}, (∀ i, (h : i < ks.length) → StAt w Q ks[i] b (o + i * 5)) → StC w Q ks b o
  | [], _, _, _ => by rw [StC]; trivial
  | e :: ks, b, o, h => by
    rw [StC_cons]
    refine ⟨?_, StC.mk fun i hi => ?_⟩
    · have := h 0 (by simp)
      have e1 : o + 0 * 5 = o := by omega
      rw [e1] at this; exact this
    have := h (i + 1) (by simpa using hi)
    have e1 : o + (i + 1) * 5 = o + 5 + i * 5 := by omega
    rw [e1] at this
    exact this
theorem st_keep {w w' : World} {Q Q' : Nat → Prop} (hc : ∀ b o, Q b → w'.cell? ⟨b, o, none⟩ = w.cell? ⟨b, o, none⟩) (hB : ∀ b, Q b → Q' b) : ∀ (N : Nat) (ks : List St) (A : Option Addr), sizeTL ks ≤ N → StS w Q ks A → StS w' Q' ks A := by
  intro N
  induction N with
  | zero =>
    intro ks A hN h
    cases ks with
    | nil => exact .inl rfl
    | cons k ks => have := sizeT_pos k; have : sizeTL (k :: ks) = sizeT k + sizeTL ks := rfl; omega
  | succ N ih =>
    intro ks A hN h
    rcases h with h | ⟨b, o, e, hb, hr⟩
    · exact .inl h
    · refine .inr ⟨b, o, e, hB _ hb, StC.mk fun i hi => ?_⟩
      obtain ⟨⟨c0, c1⟩, ⟨A1, p1, c2, r1⟩, ⟨A2, p2, c3, r2⟩, A3, p3, c4, r3⟩ := hr.get hi
      have hz := sizeTL_get hi
      rw [sizeT_kids] at hz
      exact ⟨⟨(hc _ _ hb).trans c0, (hc _ _ hb).trans c1⟩, ⟨A1, p1, (hc _ _ hb).trans c2, r1.keep hc hB⟩, ⟨A2, p2, (hc _ _ hb).trans c3, ih _ _ (by omega) r2⟩, A3, p3, (hc _ _ hb).trans c4, ih _ _ (by omega) r3⟩
theorem StS.keep {w w' : World} {Q Q' : Nat → Prop} {ks : List St} {A : Option Addr} (h : StS w Q ks A) (hc : ∀ b o, Q b → w'.cell? ⟨b, o, none⟩ = w.cell? ⟨b, o, none⟩) (hB : ∀ b, Q b → Q' b) : StS w' Q' ks A :=
  st_keep hc hB _ _ _ (Nat.le_refl _) h
theorem StV.keep {w w' : World} {Q Q' : Nat → Prop} {t : St} {v : Value} (h : StV w Q t v) (hc : ∀ b o, Q b → w'.cell? ⟨b, o, none⟩ = w.cell? ⟨b, o, none⟩) (hB : ∀ b, Q b → Q' b) : StV w' Q' t v := by
  obtain ⟨A1, c1, A2, c2, A3, c3, e, p1, p2, p3⟩ := h
  exact ⟨A1, c1, A2, c2, A3, c3, e, p1.keep hc hB, p2.keep hc hB, p3.keep hc hB⟩
theorem lt_keep {w w' : World} {B : Nat} (hb : Below B w w') : ∀ b o, Lt B b → w'.cell? ⟨b, o, none⟩ = w.cell? ⟨b, o, none⟩ := fun b _ h => hb.cell (p := ⟨b, _, none⟩) h
theorem PdS.on {w w' : World} {B B' : Nat} {ks : List E} {A : Option Addr} (h : PdS w (Lt B) ks A) (hb : Below B w w') (hB : B ≤ B') : PdS w' (Lt B') ks A := h.keep (lt_keep hb) fun _ h => Nat.lt_of_lt_of_le h hB
theorem StS.on {w w' : World} {B B' : Nat} {ks : List St} {A : Option Addr} (h : StS w (Lt B) ks A) (hb : Below B w w') (hB : B ≤ B') : StS w' (Lt B') ks A := h.keep (lt_keep hb) fun _ h => Nat.lt_of_lt_of_le h hB
theorem StV.on {w w' : World} {B B' : Nat} {t : St} {v : Value} (h : StV w (Lt B) t v) (hb : Below B w w') (hB : B ≤ B') : StV w' (Lt B') t v := h.keep (lt_keep hb) fun _ h => Nat.lt_of_lt_of_le h hB
theorem StS.at_ {w : World} {Q : Nat → Prop} {ks : List St} {A : Option Addr} (h : StS w Q ks A) {i : Nat} (hi : i < ks.length) : ∃ b o, A = some ⟨b, o, none⟩ ∧ Q b ∧ StAt w Q ks[i] b (o + i * 5) := by
  rcases h with rfl | ⟨b, o, e, hb, hr⟩
  · exact absurd hi (by simp)
  · exact ⟨b, o, e, hb, hr.get hi⟩
theorem btw_keep {w w' : World} {lo hi : Nat} (hb : Below hi w w') : ∀ b o, Between w lo hi b → w'.cell? ⟨b, o, none⟩ = w.cell? ⟨b, o, none⟩ := fun b _ h => hb.cell (p := ⟨b, _, none⟩) h.2.1
theorem btw_later {w w' : World} {lo hi lo' hi' : Nat} (hb : Below hi w w') (h1 : lo' ≤ lo) (h2 : hi ≤ hi') : ∀ b, Between w lo hi b → Between w' lo' hi' b := fun _ h => ⟨Nat.le_trans h1 h.1, Nat.lt_of_lt_of_le h.2.1 h2, h.2.2.below hb h.2.1⟩
theorem StS.later {w w' : World} {lo hi : Nat} {ks : List St} {A : Option Addr} (h : StS w (Between w lo hi) ks A) (hb : Below hi w w') {lo' hi' : Nat} (h1 : lo' ≤ lo) (h2 : hi ≤ hi') : StS w' (Between w' lo' hi') ks A :=
  h.keep (btw_keep hb) (btw_later hb h1 h2)
theorem StV.later {w w' : World} {lo hi : Nat} {t : St} {v : Value} (h : StV w (Between w lo hi) t v) (hb : Below hi w w') {lo' hi' : Nat} (h1 : lo' ≤ lo) (h2 : hi ≤ hi') : StV w' (Between w' lo' hi') t v :=
  h.keep (btw_keep hb) (btw_later hb h1 h2)
theorem set_keep {w : World} {lo hi g : Nat} (hg : g < lo) (o : Nat) (v : Value) : ∀ b o', Between w lo hi b → (w.setCell ⟨g, o, none⟩ v).cell? ⟨b, o', none⟩ = w.cell? ⟨b, o', none⟩ := fun b o' h => World.cell?_setCell_other _ _ _ _ (by intro e; injection e with e; have := h.1; omega)
theorem StS.set' {w : World} {lo hi : Nat} {ks : List St} {A : Option Addr} (h : StS w (Between w lo hi) ks A) {g : Nat} (hg : g < lo) (o : Nat) (v : Value) : StS (w.setCell ⟨g, o, none⟩ v) (Between (w.setCell ⟨g, o, none⟩ v) lo hi) ks A :=
  h.keep (set_keep hg o v) (fun _ h => ⟨h.1, h.2.1, h.2.2.set _ _⟩)
theorem StS.wide {w : World} {lo hi lo' hi' : Nat} {ks : List St} {A : Option Addr} (h : StS w (Between w lo hi) ks A) (h1 : lo' ≤ lo) (h2 : hi ≤ hi') : StS w (Between w lo' hi') ks A :=
  h.keep (fun _ _ _ => rfl) (fun _ h => ⟨Nat.le_trans h1 h.1, Nat.lt_of_lt_of_le h.2.1 h2, h.2.2⟩)
theorem StV.wide {w : World} {lo hi lo' hi' : Nat} {t : St} {v : Value} (h : StV w (Between w lo hi) t v) (h1 : lo' ≤ lo) (h2 : hi ≤ hi') : StV w (Between w lo' hi') t v :=
  h.keep (fun _ _ _ => rfl) (fun _ h => ⟨Nat.le_trans h1 h.1, Nat.lt_of_lt_of_le h.2.1 h2, h.2.2⟩)
theorem StV.lt {w : World} {lo hi B : Nat} {t : St} {v : Value} (h : StV w (Between w lo hi) t v) (hB : hi ≤ B) : StV w (Lt B) t v := h.keep (fun _ _ _ => rfl) fun _ h => Nat.lt_of_lt_of_le h.2.1 hB
theorem StS.lt {w : World} {lo hi B : Nat} {ks : List St} {A : Option Addr} (h : StS w (Between w lo hi) ks A) (hB : hi ≤ B) : StS w (Lt B) ks A := h.keep (fun _ _ _ => rfl) fun _ h => Nat.lt_of_lt_of_le h.2.1 hB
theorem PdS.lt' {w : World} {lo hi B : Nat} {ks : List E} {A : Option Addr} (h : PdS w (Between w lo hi) ks A) (hB : hi ≤ B) : PdS w (Lt B) ks A := h.keep (fun _ _ _ => rfl) fun _ h => Nat.lt_of_lt_of_le h.2.1 hB
theorem szR_lt {r : Int} {b : Nat} (h : r < b) : szR r b = -1 := if_pos h
theorem szR_ge {r : Int} {b : Nat} (h : ¬ r < b) : szR r b = r - b := if_neg h
theorem szR_add {r : Int} {a b : Nat} (_h : ¬ r < a) : szR (r - a) b = szR r (a + b) := by
  unfold szR
  by_cases h' : r - a < b
  · rw [if_pos h', if_pos (by omega)]
  · rw [if_neg h', if_neg (by omega)]; omega
theorem szR_out {r : Int} {a b : Nat} (h : r < a) : szR r (a + b) = -1 := if_pos (by omega)
end Go.Proofs.YtomhomnibikceaaDoor
