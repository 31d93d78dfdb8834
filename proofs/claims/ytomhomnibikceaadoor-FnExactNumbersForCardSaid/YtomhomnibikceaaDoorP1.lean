/-
  Functions and programs: their parts; in memory, with what is known of their blocks. Nothing of a program stands here.
-/
import Derived.Test.YtomhomnibikceaaDoorT1
namespace Go.Proofs.YtomhomnibikceaaDoor
open Go.RowKit

/-- A function. -/
structure Fu where
  name : ByteArray
  params : List ByteArray
  body : List St
instance : Inhabited Fu := ⟨⟨⟨#[]⟩, [], []⟩⟩
def bulkS : List ByteArray → Nat
  | [] => 0
  | s :: l => 1 + s.size + bulkS l
theorem bulkS_app : ∀ (a b : List ByteArray), bulkS (a ++ b) = bulkS a + bulkS b
  | [], b => by show bulkS b = 0 + bulkS b; omega
  | x :: a, b => by show 1 + x.size + bulkS (a ++ b) = 1 + x.size + bulkS a + bulkS b; rw [bulkS_app a b]; omega
theorem length_le_bulkS : ∀ (a : List ByteArray), a.length ≤ bulkS a
  | [] => Nat.le_refl _
  | x :: a => by have := length_le_bulkS a; show a.length + 1 ≤ 1 + x.size + bulkS a; omega
theorem bulkS_take {ks : List ByteArray} {i : Nat} (h : i < ks.length) : bulkS (ks.take (i + 1)) = bulkS (ks.take i) + (1 + ks[i].size) := by
  rw [List.take_succ_eq_append_getElem h, bulkS_app]; show _ + (1 + ks[i].size + 0) = _; omega
theorem bulkS_rest (ks : List ByteArray) (i : Nat) : bulkS (ks.take i) + (ks.length - i) ≤ bulkS ks := by
  have h := bulkS_app (ks.take i) (ks.drop i)
  rw [List.take_append_drop] at h
  have h2 := length_le_bulkS (ks.drop i)
  rw [List.length_drop] at h2
  omega
def bulkF (f : Fu) : Nat := f.name.size + bulkS f.params + bulkTL f.body
def bulkFL : List Fu → Nat
  | [] => 0
  | f :: l => 1 + bulkF f + bulkFL l
theorem bulkFL_app : ∀ (a b : List Fu), bulkFL (a ++ b) = bulkFL a + bulkFL b
  | [], b => by show bulkFL b = 0 + bulkFL b; omega
  | x :: a, b => by show 1 + bulkF x + bulkFL (a ++ b) = 1 + bulkF x + bulkFL a + bulkFL b; rw [bulkFL_app a b]; omega
theorem length_le_bulkFL : ∀ (a : List Fu), a.length ≤ bulkFL a
  | [] => Nat.le_refl _
  | x :: a => by have := length_le_bulkFL a; show a.length + 1 ≤ 1 + bulkF x + bulkFL a; omega
theorem bulkFL_take {ks : List Fu} {i : Nat} (h : i < ks.length) : bulkFL (ks.take (i + 1)) = bulkFL (ks.take i) + (1 + bulkF ks[i]) := by
  rw [List.take_succ_eq_append_getElem h, bulkFL_app]; show _ + (1 + bulkF ks[i] + 0) = _; omega
theorem bulkFL_rest (ks : List Fu) (i : Nat) : bulkFL (ks.take i) + (ks.length - i) ≤ bulkFL ks := by
  have h := bulkFL_app (ks.take i) (ks.drop i)
  rw [List.take_append_drop] at h
  have h2 := length_le_bulkFL (ks.drop i)
  rw [List.length_drop] at h2
  omega
theorem bulkFL_mem : ∀ {ks : List Fu} {k : Fu}, k ∈ ks → bulkF k + 1 ≤ bulkFL ks
  | x :: ks, k, h => by
    show bulkF k + 1 ≤ 1 + bulkF x + bulkFL ks
    rcases List.mem_cons.1 h with rfl | h
    · omega
    · have := bulkFL_mem h; omega
theorem bulkS_mem : ∀ {ks : List ByteArray} {k : ByteArray}, k ∈ ks → k.size + 1 ≤ bulkS ks
  | x :: ks, k, h => by
    show k.size + 1 ≤ 1 + x.size + bulkS ks
    rcases List.mem_cons.1 h with rfl | h
    · omega
    · have := bulkS_mem h; omega
/-- All names and lists are such as memory holds. -/
def SmF (f : Fu) : Prop := f.name.size ≤ maxLen ∧ (∀ s ∈ f.params, s.size ≤ maxLen) ∧ f.params.length ≤ maxLen ∧ f.body.length ≤ maxLen ∧ SmTL f.body
def SmP (p : List Fu) : Prop := p.length ≤ maxLen ∧ ∀ f ∈ p, SmF f

/-- A slice of texts. -/
def StrS (w : World) (Q : Nat → Prop) (ss : List ByteArray) (A : Option Addr) : Prop := ss = [] ∨ ∃ b o, A = some ⟨b, o, none⟩ ∧ Q b ∧ ∀ i, (h : i < ss.length) → w.cell? ⟨b, o + i, none⟩ = some (.string ss[i])
def FuAt (w : World) (Q : Nat → Prop) (f : Fu) (b o : Nat) : Prop :=
  w.cell? ⟨b, o, none⟩ = some (.string f.name) ∧ (∃ A cap, w.cell? ⟨b, o + 1, none⟩ = some (.slice A f.params.length cap) ∧ StrS w Q f.params A) ∧ (∃ A cap, w.cell? ⟨b, o + 2, none⟩ = some (.slice A f.body.length cap) ∧ StS w Q f.body A)
def FuS (w : World) (Q : Nat → Prop) (fs : List Fu) (A : Option Addr) : Prop := fs = [] ∨ ∃ b o, A = some ⟨b, o, none⟩ ∧ Q b ∧ ∀ i, (h : i < fs.length) → FuAt w Q fs[i] b (o + i * 3)
/-- A function as a value; a program as a value. -/
def FuV (w : World) (Q : Nat → Prop) (f : Fu) (v : Value) : Prop := ∃ A1 c1 A2 c2, v = .agg #[.string f.name, .slice A1 f.params.length c1, .slice A2 f.body.length c2] ∧ StrS w Q f.params A1 ∧ StS w Q f.body A2
def PrV (w : World) (Q : Nat → Prop) (p : List Fu) (v : Value) : Prop := ∃ A c, v = .agg #[.slice A p.length c] ∧ FuS w Q p A
theorem StrS.keep {w w' : World} {Q Q' : Nat → Prop} {ks : List ByteArray} {A : Option Addr} (h : StrS w Q ks A) (hc : ∀ b o, Q b → w'.cell? ⟨b, o, none⟩ = w.cell? ⟨b, o, none⟩) (hB : ∀ b, Q b → Q' b) : StrS w' Q' ks A := by
  rcases h with h | ⟨b, o, e, hb, hr⟩
  · exact .inl h
  · exact .inr ⟨b, o, e, hB _ hb, fun i hi => (hc _ _ hb).trans (hr i hi)⟩
theorem FuAt.keep {w w' : World} {Q Q' : Nat → Prop} {f : Fu} {b o : Nat} (h : FuAt w Q f b o) (hb : Q b) (hc : ∀ b o, Q b → w'.cell? ⟨b, o, none⟩ = w.cell? ⟨b, o, none⟩) (hB : ∀ b, Q b → Q' b) : FuAt w' Q' f b o := by
  obtain ⟨c0, ⟨A1, p1, c1, r1⟩, A2, p2, c2, r2⟩ := h
  exact ⟨(hc _ _ hb).trans c0, ⟨A1, p1, (hc _ _ hb).trans c1, r1.keep hc hB⟩, A2, p2, (hc _ _ hb).trans c2, r2.keep hc hB⟩
theorem FuS.keep {w w' : World} {Q Q' : Nat → Prop} {ks : List Fu} {A : Option Addr} (h : FuS w Q ks A) (hc : ∀ b o, Q b → w'.cell? ⟨b, o, none⟩ = w.cell? ⟨b, o, none⟩) (hB : ∀ b, Q b → Q' b) : FuS w' Q' ks A := by
  rcases h with h | ⟨b, o, e, hb, hr⟩
  · exact .inl h
  · exact .inr ⟨b, o, e, hB _ hb, fun i hi => (hr i hi).keep hb hc hB⟩
theorem FuV.keep {w w' : World} {Q Q' : Nat → Prop} {f : Fu} {v : Value} (h : FuV w Q f v) (hc : ∀ b o, Q b → w'.cell? ⟨b, o, none⟩ = w.cell? ⟨b, o, none⟩) (hB : ∀ b, Q b → Q' b) : FuV w' Q' f v := by
  obtain ⟨A1, c1, A2, c2, e, p1, p2⟩ := h
  exact ⟨A1, c1, A2, c2, e, p1.keep hc hB, p2.keep hc hB⟩
theorem PrV.keep {w w' : World} {Q Q' : Nat → Prop} {p : List Fu} {v : Value} (h : PrV w Q p v) (hc : ∀ b o, Q b → w'.cell? ⟨b, o, none⟩ = w.cell? ⟨b, o, none⟩) (hB : ∀ b, Q b → Q' b) : PrV w' Q' p v := by
  obtain ⟨A1, c1, e, p1⟩ := h
  exact ⟨A1, c1, e, p1.keep hc hB⟩
theorem StrS.on {w w' : World} {B B' : Nat} {ks : List ByteArray} {A : Option Addr} (h : StrS w (Lt B) ks A) (hb : Below B w w') (hB : B ≤ B') : StrS w' (Lt B') ks A := h.keep (lt_keep hb) fun _ h => Nat.lt_of_lt_of_le h hB
theorem FuS.on {w w' : World} {B B' : Nat} {ks : List Fu} {A : Option Addr} (h : FuS w (Lt B) ks A) (hb : Below B w w') (hB : B ≤ B') : FuS w' (Lt B') ks A := h.keep (lt_keep hb) fun _ h => Nat.lt_of_lt_of_le h hB
theorem FuV.on {w w' : World} {B B' : Nat} {f : Fu} {v : Value} (h : FuV w (Lt B) f v) (hb : Below B w w') (hB : B ≤ B') : FuV w' (Lt B') f v := h.keep (lt_keep hb) fun _ h => Nat.lt_of_lt_of_le h hB
theorem PrV.on {w w' : World} {B B' : Nat} {p : List Fu} {v : Value} (h : PrV w (Lt B) p v) (hb : Below B w w') (hB : B ≤ B') : PrV w' (Lt B') p v := h.keep (lt_keep hb) fun _ h => Nat.lt_of_lt_of_le h hB
theorem FuS.at_ {w : World} {Q : Nat → Prop} {ks : List Fu} {A : Option Addr} (h : FuS w Q ks A) {i : Nat} (hi : i < ks.length) : ∃ b o, A = some ⟨b, o, none⟩ ∧ Q b ∧ FuAt w Q ks[i] b (o + i * 3) := by
  rcases h with rfl | ⟨b, o, e, hb, hr⟩
  · exact absurd hi (by simp)
  · exact ⟨b, o, e, hb, hr i hi⟩
theorem StrS.at_ {w : World} {Q : Nat → Prop} {ks : List ByteArray} {A : Option Addr} (h : StrS w Q ks A) {i : Nat} (hi : i < ks.length) : ∃ b o, A = some ⟨b, o, none⟩ ∧ Q b ∧ w.cell? ⟨b, o + i, none⟩ = some (.string ks[i]) := by
  rcases h with rfl | ⟨b, o, e, hb, hr⟩
  · exact absurd hi (by simp)
  · exact ⟨b, o, e, hb, hr i hi⟩
theorem StrS.later {w w' : World} {lo hi : Nat} {ks : List ByteArray} {A : Option Addr} (h : StrS w (Between w lo hi) ks A) (hb : Below hi w w') {lo' hi' : Nat} (h1 : lo' ≤ lo) (h2 : hi ≤ hi') : StrS w' (Between w' lo' hi') ks A :=
  h.keep (btw_keep hb) (btw_later hb h1 h2)
theorem FuS.later {w w' : World} {lo hi : Nat} {ks : List Fu} {A : Option Addr} (h : FuS w (Between w lo hi) ks A) (hb : Below hi w w') {lo' hi' : Nat} (h1 : lo' ≤ lo) (h2 : hi ≤ hi') : FuS w' (Between w' lo' hi') ks A :=
  h.keep (btw_keep hb) (btw_later hb h1 h2)
theorem PrV.later {w w' : World} {lo hi : Nat} {p : List Fu} {v : Value} (h : PrV w (Between w lo hi) p v) (hb : Below hi w w') {lo' hi' : Nat} (h1 : lo' ≤ lo) (h2 : hi ≤ hi') : PrV w' (Between w' lo' hi') p v :=
  h.keep (btw_keep hb) (btw_later hb h1 h2)
theorem StrS.set' {w : World} {lo hi : Nat} {ks : List ByteArray} {A : Option Addr} (h : StrS w (Between w lo hi) ks A) {g : Nat} (hg : g < lo) (o : Nat) (v : Value) : StrS (w.setCell ⟨g, o, none⟩ v) (Between (w.setCell ⟨g, o, none⟩ v) lo hi) ks A :=
  h.keep (set_keep hg o v) (fun _ h => ⟨h.1, h.2.1, h.2.2.set _ _⟩)
theorem FuS.set' {w : World} {lo hi : Nat} {ks : List Fu} {A : Option Addr} (h : FuS w (Between w lo hi) ks A) {g : Nat} (hg : g < lo) (o : Nat) (v : Value) : FuS (w.setCell ⟨g, o, none⟩ v) (Between (w.setCell ⟨g, o, none⟩ v) lo hi) ks A :=
  h.keep (set_keep hg o v) (fun _ h => ⟨h.1, h.2.1, h.2.2.set _ _⟩)
theorem btw_wide {w : World} {lo hi lo' hi' : Nat} (h1 : lo' ≤ lo) (h2 : hi ≤ hi') : ∀ b, Between w lo hi b → Between w lo' hi' b := fun _ h => ⟨Nat.le_trans h1 h.1, Nat.lt_of_lt_of_le h.2.1 h2, h.2.2⟩
theorem StrS.wide {w : World} {lo hi lo' hi' : Nat} {ks : List ByteArray} {A : Option Addr} (h : StrS w (Between w lo hi) ks A) (h1 : lo' ≤ lo) (h2 : hi ≤ hi') : StrS w (Between w lo' hi') ks A := h.keep (fun _ _ _ => rfl) (btw_wide h1 h2)
theorem FuS.wide {w : World} {lo hi lo' hi' : Nat} {ks : List Fu} {A : Option Addr} (h : FuS w (Between w lo hi) ks A) (h1 : lo' ≤ lo) (h2 : hi ≤ hi') : FuS w (Between w lo' hi') ks A := h.keep (fun _ _ _ => rfl) (btw_wide h1 h2)
theorem FuS.lt {w : World} {lo hi B : Nat} {ks : List Fu} {A : Option Addr} (h : FuS w (Between w lo hi) ks A) (hB : hi ≤ B) : FuS w (Lt B) ks A := h.keep (fun _ _ _ => rfl) fun _ h => Nat.lt_of_lt_of_le h.2.1 hB
theorem PrV.lt {w : World} {lo hi B : Nat} {p : List Fu} {v : Value} (h : PrV w (Between w lo hi) p v) (hB : hi ≤ B) : PrV w (Lt B) p v := h.keep (fun _ _ _ => rfl) fun _ h => Nat.lt_of_lt_of_le h.2.1 hB
end Go.Proofs.YtomhomnibikceaaDoor
