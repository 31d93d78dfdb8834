/-
  Plain mathematics of statements and programs: their form, how deep they are nested. Nothing of a program stands here.
-/
import Derived.Test.YtljdbjfbcjigaaaGreatDoorMg10
namespace Go.Proofs.YtljdbjfbcjigaaaGreatDoor
open Go.RowKit

/-- A statement. -/
inductive St where
  | mk (op : Int) (name : ByteArray) (args : List E) (body els : List St)
def St.op : St → Int | .mk o _ _ _ _ => o
def St.name : St → ByteArray | .mk _ s _ _ _ => s
def St.args : St → List E | .mk _ _ a _ _ => a
def St.body : St → List St | .mk _ _ _ b _ => b
def St.els : St → List St | .mk _ _ _ _ e => e
theorem St.eta (t : St) : St.mk t.op t.name t.args t.body t.els = t := by cases t; rfl
theorem St.ext {a b : St} (h1 : a.op = b.op) (h2 : a.name = b.name) (h3 : a.args = b.args) (h4 : a.body = b.body) (h5 : a.els = b.els) : a = b := by
  rw [← St.eta a, ← St.eta b, h1, h2, h3, h4, h5]
instance : Inhabited St := ⟨.mk 0 ⟨#[]⟩ [] [] []⟩
mutual
/-- How many statements one is, with those in it. -/
def sizeT : St → Nat
  | .mk _ _ _ b e => 1 + sizeTL b + sizeTL e
def sizeTL : List St → Nat
  | [] => 0
  | k :: ks => sizeT k + sizeTL ks
end
theorem sizeT_kids (t : St) : sizeT t = 1 + sizeTL t.body + sizeTL t.els := by cases t; rfl
theorem sizeT_pos (t : St) : 0 < sizeT t := by rw [sizeT_kids]; omega
theorem sizeTL_mem : ∀ {ks : List St} {k : St}, k ∈ ks → sizeT k ≤ sizeTL ks
  | x :: ks, k, h => by
    show sizeT k ≤ sizeT x + sizeTL ks
    rcases List.mem_cons.1 h with rfl | h
    · omega
    · have := sizeTL_mem h; omega
theorem sizeTL_get {ks : List St} {i : Nat} (h : i < ks.length) : sizeT ks[i] ≤ sizeTL ks := sizeTL_mem (List.getElem_mem h)
theorem sizeTL_app : ∀ (a b : List St), sizeTL (a ++ b) = sizeTL a + sizeTL b
  | [], b => by show sizeTL b = 0 + sizeTL b; omega
  | x :: a, b => by show sizeT x + sizeTL (a ++ b) = sizeT x + sizeTL a + sizeTL b; rw [sizeTL_app a b]; omega
theorem sizeTL_take {ks : List St} {i : Nat} (h : i < ks.length) : sizeTL (ks.take (i + 1)) = sizeTL (ks.take i) + sizeT ks[i] := by
  rw [List.take_succ_eq_append_getElem h, sizeTL_app]; show _ + (sizeT ks[i] + 0) = _; omega
theorem sizeTL_take_le (ks : List St) (i : Nat) : sizeTL (ks.take i) ≤ sizeTL ks := by
  have h := sizeTL_app (ks.take i) (ks.drop i)
  rw [List.take_append_drop] at h; omega
theorem length_le_sizeTL : ∀ (ks : List St), ks.length ≤ sizeTL ks
  | [] => Nat.le_refl _
  | k :: ks => by have := length_le_sizeTL ks; have := sizeT_pos k; show ks.length + 1 ≤ sizeT k + sizeTL ks; omega
/-- Induction over statements. -/
theorem St.ind {P : St → Prop} (h : ∀ t : St, (∀ k ∈ t.body, P k) → (∀ k ∈ t.els, P k) → P t) : ∀ t, P t := by
  have main : ∀ N t, sizeT t ≤ N → P t := by
    intro N
    induction N with
    | zero => intro t ht; have := sizeT_pos t; omega
    | succ N ih =>
      intro t ht
      rw [sizeT_kids] at ht
      refine h t (fun k hk => ih k ?_) (fun k hk => ih k ?_)
      · have := sizeTL_mem hk; omega
      · have := sizeTL_mem hk; omega
  exact fun t => main _ t (Nat.le_refl _)
mutual
/-- What a statement holds: bytes of names and lengths of lists. -/
def bulkT : St → Nat
  | .mk _ s a b e => s.size + bulkL a + bulkTL b + bulkTL e
def bulkTL : List St → Nat
  | [] => 0
  | k :: ks => 1 + bulkT k + bulkTL ks
end
theorem bulkT_kids (t : St) : bulkT t = t.name.size + bulkL t.args + bulkTL t.body + bulkTL t.els := by cases t; rfl
theorem bulkTL_mem : ∀ {ks : List St} {k : St}, k ∈ ks → bulkT k + 1 ≤ bulkTL ks
  | x :: ks, k, h => by
    show bulkT k + 1 ≤ 1 + bulkT x + bulkTL ks
    rcases List.mem_cons.1 h with rfl | h
    · omega
    · have := bulkTL_mem h; omega
theorem bulkTL_app : ∀ (a b : List St), bulkTL (a ++ b) = bulkTL a + bulkTL b
  | [], b => by show bulkTL b = 0 + bulkTL b; omega
  | x :: a, b => by show 1 + bulkT x + bulkTL (a ++ b) = 1 + bulkT x + bulkTL a + bulkTL b; rw [bulkTL_app a b]; omega
theorem bulkTL_take {ks : List St} {i : Nat} (h : i < ks.length) : bulkTL (ks.take (i + 1)) = bulkTL (ks.take i) + (1 + bulkT ks[i]) := by
  rw [List.take_succ_eq_append_getElem h, bulkTL_app]; show _ + (1 + bulkT ks[i] + 0) = _; omega
mutual
theorem sizeT_bulk : ∀ (t : St), sizeT t ≤ 1 + bulkT t
  | .mk _ s a b e => by have := sizeTL_bulk b; have := sizeTL_bulk e; show 1 + sizeTL b + sizeTL e ≤ 1 + (s.size + bulkL a + bulkTL b + bulkTL e); omega
theorem sizeTL_bulk : ∀ (ks : List St), sizeTL ks ≤ bulkTL ks
  | [] => Nat.le_refl _
  | k :: ks => by have := sizeT_bulk k; have := sizeTL_bulk ks; show sizeT k + sizeTL ks ≤ 1 + bulkT k + bulkTL ks; omega
end
theorem length_le_bulkTL (ks : List St) : ks.length ≤ bulkTL ks := Nat.le_trans (length_le_sizeTL ks) (sizeTL_bulk ks)
theorem bulkTL_rest (ks : List St) (i : Nat) : bulkTL (ks.take i) + (ks.length - i) ≤ bulkTL ks := by
  have h := bulkTL_app (ks.take i) (ks.drop i)
  rw [List.take_append_drop] at h
  have h2 := length_le_bulkTL (ks.drop i)
  rw [List.length_drop] at h2
  omega
mutual
/-- All names and lists are such as memory holds. -/
def SmT : St → Prop
  | .mk _ s a b e => s.size ≤ maxLen ∧ SmL a ∧ a.length ≤ maxLen ∧ b.length ≤ maxLen ∧ SmTL b ∧ e.length ≤ maxLen ∧ SmTL e
def SmTL : List St → Prop
  | [] => True
  | k :: ks => SmT k ∧ SmTL ks
end
theorem SmTL_mem : ∀ {ks : List St} {k : St}, SmTL ks → k ∈ ks → SmT k
  | x :: ks, k, h, hk => by
    rw [SmTL] at h
    rcases List.mem_cons.1 hk with rfl | hk
    · exact h.1
    · exact SmTL_mem h.2 hk
theorem SmTL_mk : ∀ {ks : List St}, (∀ k ∈ ks, SmT k) → SmTL ks
  | [], _ => by rw [SmTL]; trivial
  | x :: ks, h => by rw [SmTL]; exact ⟨h x (by simp), SmTL_mk fun k hk => h k (by simp [hk])⟩
theorem SmT_mk (t : St) : SmT t ↔ t.name.size ≤ maxLen ∧ SmL t.args ∧ t.args.length ≤ maxLen ∧ t.body.length ≤ maxLen ∧ SmTL t.body ∧ t.els.length ≤ maxLen ∧ SmTL t.els := by cases t; rw [SmT]; rfl

/-- Blocks below B. -/
def Lt (B : Nat) : Nat → Prop := fun b => b < B
theorem rd_pd {w : World} {B : Nat} : ∀ (N : Nat) (ks : List E) (A : Option Addr), sizeL ks ≤ N → RdS w B ks A → PdS w (Lt B) ks A := by
  intro N
  induction N with
  | zero =>
    intro ks A hN h
    cases ks with
    | nil => exact .inl rfl
    | cons k ks => have := sizeE_pos k; have : sizeL (k :: ks) = sizeE k + sizeL ks := rfl; omega
  | succ N ih =>
    intro ks A hN h
    rcases h with h | ⟨b, o, e, hb, hr⟩
    · exact .inl h
    · refine .inr ⟨b, o, e, hb, PdC.mk fun i hi => ?_⟩
      obtain ⟨c, A', cap, c3, hr'⟩ := hr.get hi
      refine ⟨c, A', cap, c3, ih _ _ ?_ hr'⟩
      have := sizeL_get hi
      rw [sizeE_kids] at this
      omega
theorem RdS.pd {w : World} {B : Nat} {ks : List E} {A : Option Addr} (h : RdS w B ks A) : PdS w (Lt B) ks A := rd_pd _ _ _ (Nat.le_refl _) h
theorem PdS.lt_rd {w : World} {B : Nat} {ks : List E} {A : Option Addr} (h : PdS w (Lt B) ks A) : RdS w B ks A := h.rd fun _ h => h

/-- Cells from a place on that read as statements; the blocks to which they lead are of a kind. -/
def StC (w : World) (Q : Nat → Prop) : List St → Nat → Nat → Prop
  | [], _, _ => True
  | .mk op s a bd el :: ks, b, o =>
    (w.cell? ⟨b, o, none⟩ = some (.int .i64 op) ∧ w.cell? ⟨b, o + 1, none⟩ = some (.string s)) ∧
    (∃ A cap, w.cell? ⟨b, o + 2, none⟩ = some (.slice A a.length cap) ∧ PdS w Q a A) ∧
    (∃ A cap, w.cell? ⟨b, o + 3, none⟩ = some (.slice A bd.length cap) ∧ (bd = [] ∨ ∃ b' o', A = some ⟨b', o', none⟩ ∧ Q b' ∧ StC w Q bd b' o')) ∧
    (∃ A cap, w.cell? ⟨b, o + 4, none⟩ = some (.slice A el.length cap) ∧ (el = [] ∨ ∃ b' o', A = some ⟨b', o', none⟩ ∧ Q b' ∧ StC w Q el b' o')) ∧ StC w Q ks b (o + 5)
def StS (w : World) (Q : Nat → Prop) (ks : List St) (A : Option Addr) : Prop := ks = [] ∨ ∃ b o, A = some ⟨b, o, none⟩ ∧ Q b ∧ StC w Q ks b o
def StAt (w : World) (Q : Nat → Prop) (t : St) (b o : Nat) : Prop :=
  (w.cell? ⟨b, o, none⟩ = some (.int .i64 t.op) ∧ w.cell? ⟨b, o + 1, none⟩ = some (.string t.name)) ∧
    (∃ A cap, w.cell? ⟨b, o + 2, none⟩ = some (.slice A t.args.length cap) ∧ PdS w Q t.args A) ∧
    (∃ A cap, w.cell? ⟨b, o + 3, none⟩ = some (.slice A t.body.length cap) ∧ StS w Q t.body A) ∧
    (∃ A cap, w.cell? ⟨b, o + 4, none⟩ = some (.slice A t.els.length cap) ∧ StS w Q t.els A)
/-- A statement as a value. -/
def StV (w : World) (Q : Nat → Prop) (t : St) (v : Value) : Prop := ∃ A1 c1 A2 c2 A3 c3, v = .agg #[.int .i64 t.op, .string t.name, .slice A1 t.args.length c1, .slice A2 t.body.length c2, .slice A3 t.els.length c3] ∧ PdS w Q t.args A1 ∧ StS w Q t.body A2 ∧ StS w Q t.els A3
theorem StC_cons (w : World) (Q : Nat → Prop) (t : St) (ks : List St) (b o : Nat) : StC w Q (t :: ks) b o ↔ StAt w Q t b o ∧ StC w Q ks b (o + 5) := by
  obtain ⟨op, s, a, bd, el⟩ := t
  unfold StAt StS
  rw [StC]
  simp only [St.op, St.name, St.args, St.body, St.els, and_assoc]
theorem StC.get {w : World} {Q : Nat → Prop} : ∀ {ks : List St} {b o : Nat}, StC w Q ks b o → ∀ {i : Nat} (h : i < ks.length), StAt w Q ks[i] b (o + i * 5)
  | [], _, _, _, i, h => absurd h (by simp)
  | e :: ks, b, o, hr, 0, _ => by
    rw [StC_cons] at hr
    have e1 : o + 0 * 5 = o := by omega
    rw [e1]; exact hr.1
  | e :: ks, b, o, hr, i + 1, h => by
    rw [StC_cons] at hr
    have := StC.get hr.2 (i := i) (by simpa using h)
    have e1 : o + 5 + i * 5 = o + (i + 1) * 5 := by omega
    rw [e1] at this
    exact this
theorem StC.mk {w : World} {Q : Nat → Prop} : ∀ {ks : List St} {b o : Nat}, (∀ i, (h : i < ks.length) → StAt w Q ks[i] b (o + i * 5)) → StC w Q ks b o
  | [], _, _, _ => by rw [StC]; trivial
  | e :: ks, b, o, h => by
    rw [StC_cons]
    refine ⟨?_, StC.mk fun i hi => ?_⟩
    · have := h 0 (by simp)
      have e1 : o + 0 * 5 = o := by omega
      rw [e1] at this; exact this
    have := h (i + 1) (by simpa using hi)
    have e1 : o + (i + 1) * 5 = o + 5 + i * 5 := by omega
    rw [e1] at this
    exact this
theorem st_keep {w w' : World} {Q Q' : Nat → Prop} (hc : ∀ b o, Q b → w'.cell? ⟨b, o, none⟩ = w.cell? ⟨b, o, none⟩) (hB : ∀ b, Q b → Q' b) : ∀ (N : Nat) (ks : List St) (A : Option Addr), sizeTL ks ≤ N → StS w Q ks A → StS w' Q' ks A := by
  intro N
  induction N with
  | zero =>
    intro ks A hN h
    cases ks with
    | nil => exact .inl rfl
    | cons k ks => have := sizeT_pos k; have : sizeTL (k :: ks) = sizeT k + sizeTL ks := rfl; omega
  | succ N ih =>
    intro ks A hN h
    rcases h with h | ⟨b, o, e, hb, hr⟩
    · exact .inl h
    · refine .inr ⟨b, o, e, hB _ hb, StC.mk fun i hi => ?_⟩
      obtain ⟨⟨c0, c1⟩, ⟨A1, p1, c2, r1⟩, ⟨A2, p2, c3, r2⟩, A3, p3, c4, r3⟩ := hr.get hi
      have hz := sizeTL_get hi
      rw [sizeT_kids] at hz
      exact ⟨⟨(hc _ _ hb).trans c0, (hc _ _ hb).trans c1⟩, ⟨A1, p1, (hc _ _ hb).trans c2, r1.keep hc hB⟩, ⟨A2, p2, (hc _ _ hb).trans c3, ih _ _ (by omega) r2⟩, A3, p3, (hc _ _ hb).trans c4, ih _ _ (by omega) r3⟩
theorem StS.keep {w w' : World} {Q Q' : Nat → Prop} {ks : List St} {A : Option Addr} (h : StS w Q ks A) (hc : ∀ b o, Q b → w'.cell? ⟨b, o, none⟩ = w.cell? ⟨b, o, none⟩) (hB : ∀ b, Q b → Q' b) : StS w' Q' ks A :=
  st_keep hc hB _ _ _ (Nat.le_refl _) h
theorem StV.keep {w w' : World} {Q Q' : Nat → Prop} {t : St} {v : Value} (h : StV w Q t v) (hc : ∀ b o, Q b → w'.cell? ⟨b, o, none⟩ = w.cell? ⟨b, o, none⟩) (hB : ∀ b, Q b → Q' b) : StV w' Q' t v := by
  obtain ⟨A1, c1, A2, c2, A3, c3, e, p1, p2, p3⟩ := h
  exact ⟨A1, c1, A2, c2, A3, c3, e, p1.keep hc hB, p2.keep hc hB, p3.keep hc hB⟩
theorem lt_keep {w w' : World} {B : Nat} (hb : Below B w w') : ∀ b o, Lt B b → w'.cell? ⟨b, o, none⟩ = w.cell? ⟨b, o, none⟩ := fun b _ h => hb.cell (p := ⟨b, _, none⟩) h
theorem PdS.on {w w' : World} {B B' : Nat} {ks : List E} {A : Option Addr} (h : PdS w (Lt B) ks A) (hb : Below B w w') (hB : B ≤ B') : PdS w' (Lt B') ks A := h.keep (lt_keep hb) fun _ h => Nat.lt_of_lt_of_le h hB
theorem StS.on {w w' : World} {B B' : Nat} {ks : List St} {A : Option Addr} (h : StS w (Lt B) ks A) (hb : Below B w w') (hB : B ≤ B') : StS w' (Lt B') ks A := h.keep (lt_keep hb) fun _ h => Nat.lt_of_lt_of_le h hB
theorem StV.on {w w' : World} {B B' : Nat} {t : St} {v : Value} (h : StV w (Lt B) t v) (hb : Below B w w') (hB : B ≤ B') : StV w' (Lt B') t v := h.keep (lt_keep hb) fun _ h => Nat.lt_of_lt_of_le h hB
theorem StS.at_ {w : World} {Q : Nat → Prop} {ks : List St} {A : Option Addr} (h : StS w Q ks A) {i : Nat} (hi : i < ks.length) : ∃ b o, A = some ⟨b, o, none⟩ ∧ Q b ∧ StAt w Q ks[i] b (o + i * 5) := by
  rcases h with rfl | ⟨b, o, e, hb, hr⟩
  · exact absurd hi (by simp)
  · exact ⟨b, o, e, hb, hr.get hi⟩
theorem btw_keep {w w' : World} {lo hi : Nat} (hb : Below hi w w') : ∀ b o, Between w lo hi b → w'.cell? ⟨b, o, none⟩ = w.cell? ⟨b, o, none⟩ := fun b _ h => hb.cell (p := ⟨b, _, none⟩) h.2.1
theorem btw_later {w w' : World} {lo hi lo' hi' : Nat} (hb : Below hi w w') (h1 : lo' ≤ lo) (h2 : hi ≤ hi') : ∀ b, Between w lo hi b → Between w' lo' hi' b := fun _ h => ⟨Nat.le_trans h1 h.1, Nat.lt_of_lt_of_le h.2.1 h2, h.2.2.below hb h.2.1⟩
theorem StS.later {w w' : World} {lo hi : Nat} {ks : List St} {A : Option Addr} (h : StS w (Between w lo hi) ks A) (hb : Below hi w w') {lo' hi' : Nat} (h1 : lo' ≤ lo) (h2 : hi ≤ hi') : StS w' (Between w' lo' hi') ks A :=
  h.keep (btw_keep hb) (btw_later hb h1 h2)
theorem StV.later {w w' : World} {lo hi : Nat} {t : St} {v : Value} (h : StV w (Between w lo hi) t v) (hb : Below hi w w') {lo' hi' : Nat} (h1 : lo' ≤ lo) (h2 : hi ≤ hi') : StV w' (Between w' lo' hi') t v :=
  h.keep (btw_keep hb) (btw_later hb h1 h2)
theorem set_keep {w : World} {lo hi g : Nat} (hg : g < lo) (o : Nat) (v : Value) : ∀ b o', Between w lo hi b → (w.setCell ⟨g, o, none⟩ v).cell? ⟨b, o', none⟩ = w.cell? ⟨b, o', none⟩ := fun b o' h => World.cell?_setCell_other _ _ _ _ (by intro e; injection e with e; have := h.1; omega)
theorem StS.set' {w : World} {lo hi : Nat} {ks : List St} {A : Option Addr} (h : StS w (Between w lo hi) ks A) {g : Nat} (hg : g < lo) (o : Nat) (v : Value) : StS (w.setCell ⟨g, o, none⟩ v) (Between (w.setCell ⟨g, o, none⟩ v) lo hi) ks A :=
  h.keep (set_keep hg o v) (fun _ h => ⟨h.1, h.2.1, h.2.2.set _ _⟩)
theorem StS.wide {w : World} {lo hi lo' hi' : Nat} {ks : List St} {A : Option Addr} (h : StS w (Between w lo hi) ks A) (h1 : lo' ≤ lo) (h2 : hi ≤ hi') : StS w (Between w lo' hi') ks A :=
  h.keep (fun _ _ _ => rfl) (fun _ h => ⟨Nat.le_trans h1 h.1, Nat.lt_of_lt_of_le h.2.1 h2, h.2.2⟩)
theorem StV.wide {w : World} {lo hi lo' hi' : Nat} {t : St} {v : Value} (h : StV w (Between w lo hi) t v) (h1 : lo' ≤ lo) (h2 : hi ≤ hi') : StV w (Between w lo' hi') t v :=
  h.keep (fun _ _ _ => rfl) (fun _ h => ⟨Nat.le_trans h1 h.1, Nat.lt_of_lt_of_le h.2.1 h2, h.2.2⟩)
theorem StV.lt {w : World} {lo hi B : Nat} {t : St} {v : Value} (h : StV w (Between w lo hi) t v) (hB : hi ≤ B) : StV w (Lt B) t v := h.keep (fun _ _ _ => rfl) fun _ h => Nat.lt_of_lt_of_le h.2.1 hB
theorem StS.lt {w : World} {lo hi B : Nat} {ks : List St} {A : Option Addr} (h : StS w (Between w lo hi) ks A) (hB : hi ≤ B) : StS w (Lt B) ks A := h.keep (fun _ _ _ => rfl) fun _ h => Nat.lt_of_lt_of_le h.2.1 hB
theorem PdS.lt' {w : World} {lo hi B : Nat} {ks : List E} {A : Option Addr} (h : PdS w (Between w lo hi) ks A) (hB : hi ≤ B) : PdS w (Lt B) ks A := h.keep (fun _ _ _ => rfl) fun _ h => Nat.lt_of_lt_of_le h.2.1 hB
theorem szR_lt {r : Int} {b : Nat} (h : r < b) : szR r b = -1 := if_pos h
theorem szR_ge {r : Int} {b : Nat} (h : ¬ r < b) : szR r b = r - b := if_neg h
theorem szR_add {r : Int} {a b : Nat} (_h : ¬ r < a) : szR (r - a) b = szR r (a + b) := by
  unfold szR
  by_cases h' : r - a < b
  · rw [if_pos h', if_pos (by omega)]
  · rw [if_neg h', if_neg (by omega)]; omega
theorem szR_out {r : Int} {a b : Nat} (h : r < a) : szR r (a + b) = -1 := if_pos (by omega)
end Go.Proofs.YtljdbjfbcjigaaaGreatDoor

namespace Go.Proofs.YtljdbjfbcjigaaaGreatDoor
open Go.RowKit

/-- A function. -/
structure Fu where
  name : ByteArray
  params : List ByteArray
  body : List St
instance : Inhabited Fu := ⟨⟨⟨#[]⟩, [], []⟩⟩
def bulkS : List ByteArray → Nat
  | [] => 0
  | s :: l => 1 + s.size + bulkS l
theorem bulkS_app : ∀ (a b : List ByteArray), bulkS (a ++ b) = bulkS a + bulkS b
  | [], b => by show bulkS b = 0 + bulkS b; omega
  | x :: a, b => by show 1 + x.size + bulkS (a ++ b) = 1 + x.size + bulkS a + bulkS b; rw [bulkS_app a b]; omega
theorem length_le_bulkS : ∀ (a : List ByteArray), a.length ≤ bulkS a
  | [] => Nat.le_refl _
  | x :: a => by have := length_le_bulkS a; show a.length + 1 ≤ 1 + x.size + bulkS a; omega
theorem bulkS_take {ks : List ByteArray} {i : Nat} (h : i < ks.length) : bulkS (ks.take (i + 1)) = bulkS (ks.take i) + (1 + ks[i].size) := by
  rw [List.take_succ_eq_append_getElem h, bulkS_app]; show _ + (1 + ks[i].size + 0) = _; omega
theorem bulkS_rest (ks : List ByteArray) (i : Nat) : bulkS (ks.take i) + (ks.length - i) ≤ bulkS ks := by
  have h := bulkS_app (ks.take i) (ks.drop i)
  rw [List.take_append_drop] at h
  have h2 := length_le_bulkS (ks.drop i)
  rw [List.length_drop] at h2
  omega
def bulkF (f : Fu) : Nat := f.name.size + bulkS f.params + bulkTL f.body
def bulkFL : List Fu → Nat
  | [] => 0
  | f :: l => 1 + bulkF f + bulkFL l
theorem bulkFL_app : ∀ (a b : List Fu), bulkFL (a ++ b) = bulkFL a + bulkFL b
  | [], b => by show bulkFL b = 0 + bulkFL b; omega
  | x :: a, b => by show 1 + bulkF x + bulkFL (a ++ b) = 1 + bulkF x + bulkFL a + bulkFL b; rw [bulkFL_app a b]; omega
theorem length_le_bulkFL : ∀ (a : List Fu), a.length ≤ bulkFL a
  | [] => Nat.le_refl _
  | x :: a => by have := length_le_bulkFL a; show a.length + 1 ≤ 1 + bulkF x + bulkFL a; omega
theorem bulkFL_take {ks : List Fu} {i : Nat} (h : i < ks.length) : bulkFL (ks.take (i + 1)) = bulkFL (ks.take i) + (1 + bulkF ks[i]) := by
  rw [List.take_succ_eq_append_getElem h, bulkFL_app]; show _ + (1 + bulkF ks[i] + 0) = _; omega
theorem bulkFL_rest (ks : List Fu) (i : Nat) : bulkFL (ks.take i) + (ks.length - i) ≤ bulkFL ks := by
  have h := bulkFL_app (ks.take i) (ks.drop i)
  rw [List.take_append_drop] at h
  have h2 := length_le_bulkFL (ks.drop i)
  rw [List.length_drop] at h2
  omega
theorem bulkFL_mem : ∀ {ks : List Fu} {k : Fu}, k ∈ ks → bulkF k + 1 ≤ bulkFL ks
  | x :: ks, k, h => by
    show bulkF k + 1 ≤ 1 + bulkF x + bulkFL ks
    rcases List.mem_cons.1 h with rfl | h
    · omega
    · have := bulkFL_mem h; omega
theorem bulkS_mem : ∀ {ks : List ByteArray} {k : ByteArray}, k ∈ ks → k.size + 1 ≤ bulkS ks
  | x :: ks, k, h => by
    show k.size + 1 ≤ 1 + x.size + bulkS ks
    rcases List.mem_cons.1 h with rfl | h
    · omega
    · have := bulkS_mem h; omega
/-- All names and lists are such as memory holds. -/
def SmF (f : Fu) : Prop := f.name.size ≤ maxLen ∧ (∀ s ∈ f.params, s.size ≤ maxLen) ∧ f.params.length ≤ maxLen ∧ f.body.length ≤ maxLen ∧ SmTL f.body
def SmP (p : List Fu) : Prop := p.length ≤ maxLen ∧ ∀ f ∈ p, SmF f

/-- A slice of texts. -/
def StrS (w : World) (Q : Nat → Prop) (ss : List ByteArray) (A : Option Addr) : Prop := ss = [] ∨ ∃ b o, A = some ⟨b, o, none⟩ ∧ Q b ∧ ∀ i, (h : i < ss.length) → w.cell? ⟨b, o + i, none⟩ = some (.string ss[i])
def FuAt (w : World) (Q : Nat → Prop) (f : Fu) (b o : Nat) : Prop :=
  w.cell? ⟨b, o, none⟩ = some (.string f.name) ∧ (∃ A cap, w.cell? ⟨b, o + 1, none⟩ = some (.slice A f.params.length cap) ∧ StrS w Q f.params A) ∧ (∃ A cap, w.cell? ⟨b, o + 2, none⟩ = some (.slice A f.body.length cap) ∧ StS w Q f.body A)
def FuS (w : World) (Q : Nat → Prop) (fs : List Fu) (A : Option Addr) : Prop := fs = [] ∨ ∃ b o, A = some ⟨b, o, none⟩ ∧ Q b ∧ ∀ i, (h : i < fs.length) → FuAt w Q fs[i] b (o + i * 3)
/-- A function as a value; a program as a value. -/
def FuV (w : World) (Q : Nat → Prop) (f : Fu) (v : Value) : Prop := ∃ A1 c1 A2 c2, v = .agg #[.string f.name, .slice A1 f.params.length c1, .slice A2 f.body.length c2] ∧ StrS w Q f.params A1 ∧ StS w Q f.body A2
def PrV (w : World) (Q : Nat → Prop) (p : List Fu) (v : Value) : Prop := ∃ A c, v = .agg #[.slice A p.length c] ∧ FuS w Q p A
theorem StrS.keep {w w' : World} {Q Q' : Nat → Prop} {ks : List ByteArray} {A : Option Addr} (h : StrS w Q ks A) (hc : ∀ b o, Q b → w'.cell? ⟨b, o, none⟩ = w.cell? ⟨b, o, none⟩) (hB : ∀ b, Q b → Q' b) : StrS w' Q' ks A := by
  rcases h with h | ⟨b, o, e, hb, hr⟩
  · exact .inl h
  · exact .inr ⟨b, o, e, hB _ hb, fun i hi => (hc _ _ hb).trans (hr i hi)⟩
theorem FuAt.keep {w w' : World} {Q Q' : Nat → Prop} {f : Fu} {b o : Nat} (h : FuAt w Q f b o) (hb : Q b) (hc : ∀ b o, Q b → w'.cell? ⟨b, o, none⟩ = w.cell? ⟨b, o, none⟩) (hB : ∀ b, Q b → Q' b) : FuAt w' Q' f b o := by
  obtain ⟨c0, ⟨A1, p1, c1, r1⟩, A2, p2, c2, r2⟩ := h
  exact ⟨(hc _ _ hb).trans c0, ⟨A1, p1, (hc _ _ hb).trans c1, r1.keep hc hB⟩, A2, p2, (hc _ _ hb).trans c2, r2.keep hc hB⟩
theorem FuS.keep {w w' : World} {Q Q' : Nat → Prop} {ks : List Fu} {A : Option Addr} (h : FuS w Q ks A) (hc : ∀ b o, Q b → w'.cell? ⟨b, o, none⟩ = w.cell? ⟨b, o, none⟩) (hB : ∀ b, Q b → Q' b) : FuS w' Q' ks A := by
  rcases h with h | ⟨b, o, e, hb, hr⟩
  · exact .inl h
  · exact .inr ⟨b, o, e, hB _ hb, fun i hi => (hr i hi).keep hb hc hB⟩
theorem FuV.keep {w w' : World} {Q Q' : Nat → Prop} {f : Fu} {v : Value} (h : FuV w Q f v) (hc : ∀ b o, Q b → w'.cell? ⟨b, o, none⟩ = w.cell? ⟨b, o, none⟩) (hB : ∀ b, Q b → Q' b) : FuV w' Q' f v := by
  obtain ⟨A1, c1, A2, c2, e, p1, p2⟩ := h
  exact ⟨A1, c1, A2, c2, e, p1.keep hc hB, p2.keep hc hB⟩
theorem PrV.keep {w w' : World} {Q Q' : Nat → Prop} {p : List Fu} {v : Value} (h : PrV w Q p v) (hc : ∀ b o, Q b → w'.cell? ⟨b, o, none⟩ = w.cell? ⟨b, o, none⟩) (hB : ∀ b, Q b → Q' b) : PrV w' Q' p v := by
  obtain ⟨A1, c1, e, p1⟩ := h
  exact ⟨A1, c1, e, p1.keep hc hB⟩
theorem StrS.on {w w' : World} {B B' : Nat} {ks : List ByteArray} {A : Option Addr} (h : StrS w (Lt B) ks A) (hb : Below B w w') (hB : B ≤ B') : StrS w' (Lt B') ks A := h.keep (lt_keep hb) fun _ h => Nat.lt_of_lt_of_le h hB
theorem FuS.on {w w' : World} {B B' : Nat} {ks : List Fu} {A : Option Addr} (h : FuS w (Lt B) ks A) (hb : Below B w w') (hB : B ≤ B') : FuS w' (Lt B') ks A := h.keep (lt_keep hb) fun _ h => Nat.lt_of_lt_of_le h hB
theorem FuV.on {w w' : World} {B B' : Nat} {f : Fu} {v : Value} (h : FuV w (Lt B) f v) (hb : Below B w w') (hB : B ≤ B') : FuV w' (Lt B') f v := h.keep (lt_keep hb) fun _ h => Nat.lt_of_lt_of_le h hB
theorem PrV.on {w w' : World} {B B' : Nat} {p : List Fu} {v : Value} (h : PrV w (Lt B) p v) (hb : Below B w w') (hB : B ≤ B') : PrV w' (Lt B') p v := h.keep (lt_keep hb) fun _ h => Nat.lt_of_lt_of_le h hB
theorem FuS.at_ {w : World} {Q : Nat → Prop} {ks : List Fu} {A : Option Addr} (h : FuS w Q ks A) {i : Nat} (hi : i < ks.length) : ∃ b o, A = some ⟨b, o, none⟩ ∧ Q b ∧ FuAt w Q ks[i] b (o + i * 3) := by
  rcases h with rfl | ⟨b, o, e, hb, hr⟩
  · exact absurd hi (by simp)
  · exact ⟨b, o, e, hb, hr i hi⟩
theorem StrS.at_ {w : World} {Q : Nat → Prop} {ks : List ByteArray} {A : Option Addr} (h : StrS w Q ks A) {i : Nat} (hi : i < ks.length) : ∃ b o, A = some ⟨b, o, none⟩ ∧ Q b ∧ w.cell? ⟨b, o + i, none⟩ = some (.string ks[i]) := by
  rcases h with rfl | ⟨b, o, e, hb, hr⟩
  · exact absurd hi (by simp)
  · exact ⟨b, o, e, hb, hr i hi⟩
theorem StrS.later {w w' : World} {lo hi : Nat} {ks : List ByteArray} {A : Option Addr} (h : StrS w (Between w lo hi) ks A) (hb : Below hi w w') {lo' hi' : Nat} (h1 : lo' ≤ lo) (h2 : hi ≤ hi') : StrS w' (Between w' lo' hi') ks A :=
  h.keep (btw_keep hb) (btw_later hb h1 h2)
theorem FuS.later {w w' : World} {lo hi : Nat} {ks : List Fu} {A : Option Addr} (h : FuS w (Between w lo hi) ks A) (hb : Below hi w w') {lo' hi' : Nat} (h1 : lo' ≤ lo) (h2 : hi ≤ hi') : FuS w' (Between w' lo' hi') ks A :=
  h.keep (btw_keep hb) (btw_later hb h1 h2)
theorem PrV.later {w w' : World} {lo hi : Nat} {p : List Fu} {v : Value} (h : PrV w (Between w lo hi) p v) (hb : Below hi w w') {lo' hi' : Nat} (h1 : lo' ≤ lo) (h2 : hi ≤ hi') : PrV w' (Between w' lo' hi') p v :=
  h.keep (btw_keep hb) (btw_later hb h1 h2)
theorem StrS.set' {w : World} {lo hi : Nat} {ks : List ByteArray} {A : Option Addr} (h : StrS w (Between w lo hi) ks A) {g : Nat} (hg : g < lo) (o : Nat) (v : Value) : StrS (w.setCell ⟨g, o, none⟩ v) (Between (w.setCell ⟨g, o, none⟩ v) lo hi) ks A :=
  h.keep (set_keep hg o v) (fun _ h => ⟨h.1, h.2.1, h.2.2.set _ _⟩)
theorem FuS.set' {w : World} {lo hi : Nat} {ks : List Fu} {A : Option Addr} (h : FuS w (Between w lo hi) ks A) {g : Nat} (hg : g < lo) (o : Nat) (v : Value) : FuS (w.setCell ⟨g, o, none⟩ v) (Between (w.setCell ⟨g, o, none⟩ v) lo hi) ks A :=
  h.keep (set_keep hg o v) (fun _ h => ⟨h.1, h.2.1, h.2.2.set _ _⟩)
theorem btw_wide {w : World} {lo hi lo' hi' : Nat} (h1 : lo' ≤ lo) (h2 : hi ≤ hi') : ∀ b, Between w lo hi b → Between w lo' hi' b := fun _ h => ⟨Nat.le_trans h1 h.1, Nat.lt_of_lt_of_le h.2.1 h2, h.2.2⟩
theorem StrS.wide {w : World} {lo hi lo' hi' : Nat} {ks : List ByteArray} {A : Option Addr} (h : StrS w (Between w lo hi) ks A) (h1 : lo' ≤ lo) (h2 : hi ≤ hi') : StrS w (Between w lo' hi') ks A := h.keep (fun _ _ _ => rfl) (btw_wide h1 h2)
theorem FuS.wide {w : World} {lo hi lo' hi' : Nat} {ks : List Fu} {A : Option Addr} (h : FuS w (Between w lo hi) ks A) (h1 : lo' ≤ lo) (h2 : hi ≤ hi') : FuS w (Between w lo' hi') ks A := h.keep (fun _ _ _ => rfl) (btw_wide h1 h2)
theorem FuS.lt {w : World} {lo hi B : Nat} {ks : List Fu} {A : Option Addr} (h : FuS w (Between w lo hi) ks A) (hB : hi ≤ B) : FuS w (Lt B) ks A := h.keep (fun _ _ _ => rfl) fun _ h => Nat.lt_of_lt_of_le h.2.1 hB
theorem PrV.lt {w : World} {lo hi B : Nat} {p : List Fu} {v : Value} (h : PrV w (Between w lo hi) p v) (hB : hi ≤ B) : PrV w (Lt B) p v := h.keep (fun _ _ _ => rfl) fun _ h => Nat.lt_of_lt_of_le h.2.1 hB
end Go.Proofs.YtljdbjfbcjigaaaGreatDoor

namespace Go.Proofs.YtljdbjfbcjigaaaGreatDoor

def argN (op : Int) : Nat := if op = 4 then 2 else 1
noncomputable def nameFit (op : Int) (s : ByteArray) : Bool := if op = 1 ∨ op = 2 then nameB s else decide (s.size = 0)
noncomputable def argOk (op : Int) (e : E) : Bool := validE e && (decide (op ≠ 8) || decide (e.op = 13))
noncomputable def argsFit (op : Int) (al : List E) : Bool := decide (al.length = argN op) && al.all (argOk op)
def bodyFit (op : Int) (n : Nat) : Bool := decide (n = 0 ∨ op = 5 ∨ op = 6)
def elseFit (op : Int) (n : Nat) : Bool := decide (n = 0 ∨ op = 5)
/-- What an Op asks of a statement, but for what is in its Body and its Else. -/
noncomputable def restFit (op : Int) (s : ByteArray) (al : List E) (nb ne : Nat) : Bool := nameFit op s && argsFit op al && bodyFit op nb && elseFit op ne
noncomputable def headT (t : St) : Bool := decide (1 ≤ t.op ∧ t.op ≤ 8) && restFit t.op t.name t.args t.body.length t.els.length
/-- A statement that is nested at most so deep. -/
noncomputable def formT : Nat → St → Bool
  | 0, _ => false
  | d + 1, t => headT t && (t.body.all (formT d) && t.els.all (formT d))
theorem formT_succ (d : Nat) (t : St) : formT (d + 1) t = (headT t && (t.body.all (formT d) && t.els.all (formT d))) := rfl
mutual
/-- How deep statements are nested. -/
def nestT : St → Nat
  | .mk _ _ _ b e => 1 + max (nestTL b) (nestTL e)
def nestTL : List St → Nat
  | [] => 0
  | k :: ks => max (nestT k) (nestTL ks)
end
theorem nestT_kids (t : St) : nestT t = 1 + max (nestTL t.body) (nestTL t.els) := by cases t; rfl
theorem nestTL_app : ∀ (a b : List St), nestTL (a ++ b) = max (nestTL a) (nestTL b)
  | [], b => by show nestTL b = max 0 (nestTL b); omega
  | x :: a, b => by show max (nestT x) (nestTL (a ++ b)) = max (max (nestT x) (nestTL a)) (nestTL b); rw [nestTL_app a b]; omega
theorem nestTL_take {ks : List St} {i : Nat} (h : i < ks.length) : nestTL (ks.take (i + 1)) = max (nestTL (ks.take i)) (nestT ks[i]) := by
  rw [List.take_succ_eq_append_getElem h, nestTL_app]; show max _ (max (nestT ks[i]) 0) = _; omega
theorem nestTL_pos {ks : List St} (h : ks ≠ []) : 1 ≤ nestTL ks := by
  cases ks with
  | nil => exact absurd rfl h
  | cons k ks => have := nestT_kids k; show 1 ≤ max (nestT k) (nestTL ks); omega
theorem nestTL_mem : ∀ {ks : List St} {k : St}, k ∈ ks → nestT k ≤ nestTL ks
  | x :: ks, k, h => by
    show nestT k ≤ max (nestT x) (nestTL ks)
    rcases List.mem_cons.1 h with rfl | h
    · omega
    · have := nestTL_mem h; omega
theorem nestTL_take_le (ks : List St) (i : Nat) : nestTL (ks.take i) ≤ nestTL ks := by
  have h := nestTL_app (ks.take i) (ks.drop i)
  rw [List.take_append_drop] at h; omega
mutual
theorem nestT_le : ∀ (t : St), nestT t ≤ sizeT t
  | .mk _ _ _ b e => by have := nestTL_le b; have := nestTL_le e; show 1 + max (nestTL b) (nestTL e) ≤ 1 + sizeTL b + sizeTL e; omega
theorem nestTL_le : ∀ (ks : List St), nestTL ks ≤ sizeTL ks
  | [] => Nat.le_refl _
  | k :: ks => by have := nestT_le k; have := nestTL_le ks; show max (nestT k) (nestTL ks) ≤ sizeT k + sizeTL ks; omega
end
/-- The first i of a list have a property. -/
def allTo {α : Type} (p : α → Bool) (ks : List α) (i : Nat) : Prop := ∀ j, (h : j < ks.length) → j < i → p ks[j] = true
theorem allTo_zero {α : Type} (p : α → Bool) (ks : List α) : allTo p ks 0 := fun j _ hj => absurd hj (by omega)
theorem allTo_succ {α : Type} {p : α → Bool} {ks : List α} {i : Nat} (h : allTo p ks i) (hi : i < ks.length) (hv : p ks[i] = true) : allTo p ks (i + 1) := by
  intro j hj hji
  by_cases e : j = i
  · subst e; exact hv
  · exact h j hj (by omega)
theorem all_of {α : Type} {p : α → Bool} {ks : List α} (h : allTo p ks ks.length) : ks.all p = true := by
  rw [List.all_eq_true]
  intro k hk
  obtain ⟨j, hj, rfl⟩ := List.getElem_of_mem hk
  exact h j hj hj
theorem all_bad {α : Type} {p : α → Bool} {ks : List α} {i : Nat} (hi : i < ks.length) (h : p ks[i] = false) : ks.all p = false := by
  rw [Bool.eq_false_iff]
  intro hall
  have := List.all_eq_true.1 hall _ (List.getElem_mem hi)
  rw [h] at this; cases this
theorem all_get {α : Type} {p : α → Bool} {ks : List α} (h : ks.all p = true) {i : Nat} (hi : i < ks.length) : p ks[i] = true := List.all_eq_true.1 h _ (List.getElem_mem hi)

/-- A function that is one; a program that is one. -/
noncomputable def headF (f : Fu) : Bool := nameB f.name && (decide (f.params.length ≤ 3) && f.params.all nameB)
noncomputable def fnB (f : Fu) : Bool := headF f && f.body.all (formT 4)
def countP : List Fu → Nat
  | [] => 0
  | f :: l => sizeTL f.body + countP l
theorem countP_app : ∀ (a b : List Fu), countP (a ++ b) = countP a + countP b
  | [], b => by show countP b = 0 + countP b; omega
  | x :: a, b => by show sizeTL x.body + countP (a ++ b) = sizeTL x.body + countP a + countP b; rw [countP_app a b]; omega
theorem countP_take {ks : List Fu} {i : Nat} (h : i < ks.length) : countP (ks.take (i + 1)) = countP (ks.take i) + sizeTL ks[i].body := by
  rw [List.take_succ_eq_append_getElem h, countP_app]; show _ + (sizeTL ks[i].body + 0) = _; omega
theorem countP_take_le (ks : List Fu) (i : Nat) : countP (ks.take i) ≤ countP ks := by
  have h := countP_app (ks.take i) (ks.drop i)
  rw [List.take_append_drop] at h; omega
theorem countP_bulk : ∀ (p : List Fu), countP p ≤ bulkFL p
  | [] => Nat.le_refl _
  | f :: l => by have := countP_bulk l; have := sizeTL_bulk f.body; show sizeTL f.body + countP l ≤ 1 + (f.name.size + bulkS f.params + bulkTL f.body) + bulkFL l; omega
def nestP : List Fu → Nat
  | [] => 0
  | f :: l => max (nestTL f.body) (nestP l)
theorem nestP_app : ∀ (a b : List Fu), nestP (a ++ b) = max (nestP a) (nestP b)
  | [], b => by show nestP b = max 0 (nestP b); omega
  | x :: a, b => by show max (nestTL x.body) (nestP (a ++ b)) = max (max (nestTL x.body) (nestP a)) (nestP b); rw [nestP_app a b]; omega
theorem nestP_take {ks : List Fu} {i : Nat} (h : i < ks.length) : nestP (ks.take (i + 1)) = max (nestP (ks.take i)) (nestTL ks[i].body) := by
  rw [List.take_succ_eq_append_getElem h, nestP_app]; show max _ (max (nestTL ks[i].body) 0) = _; omega
theorem nestP_le : ∀ (p : List Fu), nestP p ≤ countP p
  | [] => Nat.le_refl _
  | f :: l => by have := nestP_le l; have := nestTL_le f.body; show max (nestTL f.body) (nestP l) ≤ sizeTL f.body + countP l; omega
noncomputable def progB (p : List Fu) : Bool := decide (1 ≤ p.length ∧ p.length ≤ 4) && (p.all fnB && decide (countP p ≤ 40))
end Go.Proofs.YtljdbjfbcjigaaaGreatDoor
