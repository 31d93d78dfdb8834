/-
  Units: their parts; units in memory, with what is known of their blocks. Nothing of a program stands here.
-/
import Derived.Test.YtomhomnibikceaaDoorT1
import Derived.Test.YtomhomnibikceaaDoorOX
namespace Go.Proofs.YtomhomnibikceaaDoor
open Go.RowKit

/-- A list whose items stand k cells apart; its block is of a kind. -/
def URow {α : Type} (Q : Nat → Prop) (k : Nat) (P : α → Nat → Nat → Prop) (xs : List α) (A : Option Addr) : Prop :=
  xs = [] ∨ ∃ b o, A = some ⟨b, o, none⟩ ∧ Q b ∧ ∀ i, (h : i < xs.length) → P xs[i] b (o + i * k)
theorem URow.at_ {α : Type} {Q : Nat → Prop} {k : Nat} {P : α → Nat → Nat → Prop} {xs : List α} {A : Option Addr} (h : URow Q k P xs A) {i : Nat} (hi : i < xs.length) :
    ∃ b o, A = some ⟨b, o, none⟩ ∧ Q b ∧ P xs[i] b (o + i * k) := by
  rcases h with rfl | ⟨b, o, e, hb, hr⟩
  · exact absurd hi (by simp)
  · exact ⟨b, o, e, hb, hr i hi⟩
theorem URow.keep {α : Type} {Q Q' : Nat → Prop} {k : Nat} {P P' : α → Nat → Nat → Prop} {xs : List α} {A : Option Addr} (h : URow Q k P xs A) (hQ : ∀ b, Q b → Q' b) (hP : ∀ x b o, Q b → P x b o → P' x b o) : URow Q' k P' xs A := by
  rcases h with h | ⟨b, o, e, hb, hr⟩
  · exact .inl h
  · exact .inr ⟨b, o, e, hQ b hb, fun i hi => hP _ _ _ hb (hr i hi)⟩
def NumS (w : World) (Q : Nat → Prop) (xs : List Int) (A : Option Addr) : Prop := URow Q 1 (fun x b o => w.cell? ⟨b, o, none⟩ = some (.int .i64 x)) xs A
theorem NumS.at_ {w : World} {Q : Nat → Prop} {xs : List Int} {A : Option Addr} (h : NumS w Q xs A) {i : Nat} (hi : i < xs.length) :
    ∃ b o, A = some ⟨b, o, none⟩ ∧ Q b ∧ w.cell? ⟨b, o + i, none⟩ = some (.int .i64 xs[i]) := by
  obtain ⟨b, o, e, hb, hc⟩ := URow.at_ h hi
  rw [Nat.mul_one] at hc
  exact ⟨b, o, e, hb, hc⟩
theorem NumS.mk {w : World} {Q : Nat → Prop} {xs : List Int} {b o : Nat} (hb : Q b) (h : ∀ i, (h : i < xs.length) → w.cell? ⟨b, o + i, none⟩ = some (.int .i64 xs[i])) : NumS w Q xs (some ⟨b, o, none⟩) :=
  .inr ⟨b, o, rfl, hb, fun i hi => by rw [Nat.mul_one]; exact h i hi⟩
/-- What the cells of blocks of a kind tell, and nothing else. -/
def Kp (R : World → (Nat → Prop) → Prop) : Prop := ∀ (w w' : World) (Q Q' : Nat → Prop), R w Q → (∀ b o, Q b → w'.cell? ⟨b, o, none⟩ = w.cell? ⟨b, o, none⟩) → (∀ b, Q b → Q' b) → R w' Q'
section
variable {R : World → (Nat → Prop) → Prop} (k : Kp R)
include k
theorem Kp.on {w w' : World} {B B' : Nat} (h : R w (Lt B)) (hb : Below B w w') (hB : B ≤ B') : R w' (Lt B') := k _ _ _ _ h (lt_keep hb) fun _ h => Nat.lt_of_lt_of_le h hB
theorem Kp.later {w w' : World} {lo hi : Nat} (h : R w (Between w lo hi)) (hb : Below hi w w') {lo' hi' : Nat} (h1 : lo' ≤ lo) (h2 : hi ≤ hi') : R w' (Between w' lo' hi') := k _ _ _ _ h (btw_keep hb) (btw_later hb h1 h2)
theorem Kp.put {w : World} {lo : Nat} (h : R w (Between w lo w.heap.size)) {g : Nat} (hg : g < lo) (o : Nat) (v : Value) : R (w.setCell ⟨g, o, none⟩ v) (Between (w.setCell ⟨g, o, none⟩ v) lo (w.setCell ⟨g, o, none⟩ v).heap.size) := by
  rw [show (w.setCell ⟨g, o, none⟩ v).heap.size = w.heap.size by simp]
  exact k _ _ _ _ h (set_keep hg o v) fun _ h => ⟨h.1, h.2.1, h.2.2.set _ _⟩
theorem Kp.wide {w : World} {lo hi lo' hi' : Nat} (h : R w (Between w lo hi)) (h1 : lo' ≤ lo) (h2 : hi ≤ hi') : R w (Between w lo' hi') :=
  k _ _ _ _ h (fun _ _ _ => rfl) fun _ h => ⟨Nat.le_trans h1 h.1, Nat.lt_of_lt_of_le h.2.1 h2, h.2.2⟩
theorem Kp.lt {w : World} {lo hi B : Nat} (h : R w (Between w lo hi)) (hB : hi ≤ B) : R w (Lt B) := k _ _ _ _ h (fun _ _ _ => rfl) fun _ h => Nat.lt_of_lt_of_le h.2.1 hB
end
/-- How much a list holds. -/
def bulkR {α : Type} (f : α → Nat) : List α → Nat
  | [] => 0
  | x :: xs => 1 + f x + bulkR f xs
theorem bulkR_app {α : Type} (f : α → Nat) : ∀ (a b : List α), bulkR f (a ++ b) = bulkR f a + bulkR f b
  | [], b => by show bulkR f b = 0 + bulkR f b; omega
  | x :: a, b => by show 1 + f x + bulkR f (a ++ b) = 1 + f x + bulkR f a + bulkR f b; rw [bulkR_app f a b]; omega
theorem bulkR_mem {α : Type} {f : α → Nat} : ∀ {ks : List α} {k : α}, k ∈ ks → f k + 1 ≤ bulkR f ks
  | x :: ks, k, h => by
    show f k + 1 ≤ 1 + f x + bulkR f ks
    rcases List.mem_cons.1 h with rfl | h
    · omega
    · have := bulkR_mem (f := f) h; omega
theorem length_le_bulkR {α : Type} (f : α → Nat) : ∀ (ks : List α), ks.length ≤ bulkR f ks
  | [] => Nat.le_refl _
  | k :: ks => by have := length_le_bulkR f ks; show ks.length + 1 ≤ 1 + f k + bulkR f ks; omega
theorem bulkR_take {α : Type} {f : α → Nat} {ks : List α} {i : Nat} (h : i < ks.length) : bulkR f (ks.take (i + 1)) = bulkR f (ks.take i) + (1 + f ks[i]) := by
  rw [List.take_succ_eq_append_getElem h, bulkR_app]; show _ + (1 + f ks[i] + 0) = _; omega
theorem bulkR_rest {α : Type} (f : α → Nat) (ks : List α) (i : Nat) : bulkR f (ks.take i) + (ks.length - i) ≤ bulkR f ks := by
  have h := bulkR_app f (ks.take i) (ks.drop i)
  rw [List.take_append_drop] at h
  have h2 := length_le_bulkR f (ks.drop i)
  rw [List.length_drop] at h2
  omega
/-- A list is such as memory holds. -/
def SmR {α : Type} (p : α → Prop) (xs : List α) : Prop := xs.length ≤ maxLen ∧ ∀ x ∈ xs, p x
theorem urow_flat {w : World} {base : Nat} {e : TypeId} {size n cap g : Nat} {xs : List Value} (h : w.ownsRow base e size (.slice (some ⟨g, 0, none⟩) n cap) n xs) : Flat w g := by
  rcases h.2 with ⟨e1, _⟩ | ⟨g', cap', cur, e1, _, e2, _⟩
  · cases e1
  · injection e1 with e1
    injection e1 with e1
    injection e1 with e1
    subst e1
    exact ⟨_, _, e2⟩
theorem NumS.kp (xs : List Int) (A : Option Addr) : Kp fun w Q => NumS w Q xs A := fun _ _ _ _ h hc hQ => URow.keep h hQ fun _ b o hb hx => (hc b o hb).trans hx
theorem NumS.on {xs : List Int} {A : Option Addr} {w w' : World} {B B' : Nat} (h : NumS w (Lt B) xs A) (hb : Below B w w') (hB : B ≤ B') : NumS w' (Lt B') xs A := (NumS.kp _ _).on h hb hB
theorem NumS.later {xs : List Int} {A : Option Addr} {w w' : World} {lo hi : Nat} (h : NumS w (Between w lo hi) xs A) (hb : Below hi w w') {lo' hi' : Nat} (h1 : lo' ≤ lo) (h2 : hi ≤ hi') : NumS w' (Between w' lo' hi') xs A := (NumS.kp _ _).later h hb h1 h2
theorem NumS.put {xs : List Int} {A : Option Addr} {w : World} {lo : Nat} (h : NumS w (Between w lo w.heap.size) xs A) {g : Nat} (hg : g < lo) (o : Nat) (u : Value) : NumS (w.setCell ⟨g, o, none⟩ u) (Between (w.setCell ⟨g, o, none⟩ u) lo (w.setCell ⟨g, o, none⟩ u).heap.size) xs A := (NumS.kp _ _).put h hg o u
theorem NumS.wide {xs : List Int} {A : Option Addr} {w : World} {lo hi lo' hi' : Nat} (h : NumS w (Between w lo hi) xs A) (h1 : lo' ≤ lo) (h2 : hi ≤ hi') : NumS w (Between w lo' hi') xs A := (NumS.kp _ _).wide h h1 h2
theorem NumS.lt {xs : List Int} {A : Option Addr} {w : World} {lo hi B : Nat} (h : NumS w (Between w lo hi) xs A) (hB : hi ≤ B) : NumS w (Lt B) xs A := (NumS.kp _ _).lt h hB
structure Ph where
  to : Int
  args : List Int
def PhAt (w : World) (Q : Nat → Prop) (x : Ph) (b o : Nat) : Prop := w.cell? ⟨b, o, none⟩ = some (.int .i64 x.to) ∧ (∃ A c, w.cell? ⟨b, o + 1, none⟩ = some (.slice A x.args.length c) ∧ NumS w Q x.args A)
/-- As a value. -/
def PhV (w : World) (Q : Nat → Prop) (x : Ph) (v : Value) : Prop := ∃ A1 c1, v = .agg #[.int .i64 x.to, .slice A1 x.args.length c1] ∧ NumS w Q x.args A1
def PhS (w : World) (Q : Nat → Prop) (xs : List Ph) (A : Option Addr) : Prop := URow Q 2 (PhAt w Q) xs A
theorem PhAt.keep {w w' : World} {Q Q' : Nat → Prop} {x : Ph} {b o : Nat} (h : PhAt w Q x b o) (hb : Q b) (hc : ∀ b o, Q b → w'.cell? ⟨b, o, none⟩ = w.cell? ⟨b, o, none⟩) (hQ : ∀ b, Q b → Q' b) : PhAt w' Q' x b o := by
  obtain ⟨h0, ⟨A1, c1, h1, r1⟩⟩ := h
  exact ⟨(hc _ _ hb).trans h0, ⟨A1, c1, (hc _ _ hb).trans h1, NumS.kp _ _ _ _ _ _ r1 hc hQ⟩⟩
theorem PhS.kp (xs : List Ph) (A : Option Addr) : Kp fun w Q => PhS w Q xs A := fun _ _ _ _ h hc hQ => URow.keep h hQ fun _ _ _ hb hx => hx.keep hb hc hQ
theorem PhS.on {xs : List Ph} {A : Option Addr} {w w' : World} {B B' : Nat} (h : PhS w (Lt B) xs A) (hb : Below B w w') (hB : B ≤ B') : PhS w' (Lt B') xs A := (PhS.kp _ _).on h hb hB
theorem PhS.later {xs : List Ph} {A : Option Addr} {w w' : World} {lo hi : Nat} (h : PhS w (Between w lo hi) xs A) (hb : Below hi w w') {lo' hi' : Nat} (h1 : lo' ≤ lo) (h2 : hi ≤ hi') : PhS w' (Between w' lo' hi') xs A := (PhS.kp _ _).later h hb h1 h2
theorem PhS.put {xs : List Ph} {A : Option Addr} {w : World} {lo : Nat} (h : PhS w (Between w lo w.heap.size) xs A) {g : Nat} (hg : g < lo) (o : Nat) (u : Value) : PhS (w.setCell ⟨g, o, none⟩ u) (Between (w.setCell ⟨g, o, none⟩ u) lo (w.setCell ⟨g, o, none⟩ u).heap.size) xs A := (PhS.kp _ _).put h hg o u
theorem PhS.wide {xs : List Ph} {A : Option Addr} {w : World} {lo hi lo' hi' : Nat} (h : PhS w (Between w lo hi) xs A) (h1 : lo' ≤ lo) (h2 : hi ≤ hi') : PhS w (Between w lo' hi') xs A := (PhS.kp _ _).wide h h1 h2
theorem PhS.lt {xs : List Ph} {A : Option Addr} {w : World} {lo hi B : Nat} (h : PhS w (Between w lo hi) xs A) (hB : hi ≤ B) : PhS w (Lt B) xs A := (PhS.kp _ _).lt h hB
theorem PhV.kp (x : Ph) (v : Value) : Kp fun w Q => PhV w Q x v := by
  intro w w' Q Q' h hc hQ
  obtain ⟨A1, c1, e, r1⟩ := h
  exact ⟨A1, c1, e, NumS.kp _ _ _ _ _ _ r1 hc hQ⟩
theorem PhV.on {x : Ph} {v : Value} {w w' : World} {B B' : Nat} (h : PhV w (Lt B) x v) (hb : Below B w w') (hB : B ≤ B') : PhV w' (Lt B') x v := (PhV.kp _ _).on h hb hB
theorem PhV.later {x : Ph} {v : Value} {w w' : World} {lo hi : Nat} (h : PhV w (Between w lo hi) x v) (hb : Below hi w w') {lo' hi' : Nat} (h1 : lo' ≤ lo) (h2 : hi ≤ hi') : PhV w' (Between w' lo' hi') x v := (PhV.kp _ _).later h hb h1 h2
theorem PhV.put {x : Ph} {v : Value} {w : World} {lo : Nat} (h : PhV w (Between w lo w.heap.size) x v) {g : Nat} (hg : g < lo) (o : Nat) (u : Value) : PhV (w.setCell ⟨g, o, none⟩ u) (Between (w.setCell ⟨g, o, none⟩ u) lo (w.setCell ⟨g, o, none⟩ u).heap.size) x v := (PhV.kp _ _).put h hg o u
theorem PhV.wide {x : Ph} {v : Value} {w : World} {lo hi lo' hi' : Nat} (h : PhV w (Between w lo hi) x v) (h1 : lo' ≤ lo) (h2 : hi ≤ hi') : PhV w (Between w lo' hi') x v := (PhV.kp _ _).wide h h1 h2
theorem PhV.lt {x : Ph} {v : Value} {w : World} {lo hi B : Nat} (h : PhV w (Between w lo hi) x v) (hB : hi ≤ B) : PhV w (Lt B) x v := (PhV.kp _ _).lt h hB
def bulkPh (x : Ph) : Nat := x.args.length
def SmPh (x : Ph) : Prop := x.args.length ≤ maxLen
structure Ik where
  op : Int
  to : Int
  args : List Int
  n : Int
def IkAt (w : World) (Q : Nat → Prop) (x : Ik) (b o : Nat) : Prop := w.cell? ⟨b, o, none⟩ = some (.int .i64 x.op) ∧ w.cell? ⟨b, o + 1, none⟩ = some (.int .i64 x.to) ∧ (∃ A c, w.cell? ⟨b, o + 2, none⟩ = some (.slice A x.args.length c) ∧ NumS w Q x.args A) ∧ w.cell? ⟨b, o + 3, none⟩ = some (.int .i64 x.n)
/-- As a value. -/
def IkV (w : World) (Q : Nat → Prop) (x : Ik) (v : Value) : Prop := ∃ A2 c2, v = .agg #[.int .i64 x.op, .int .i64 x.to, .slice A2 x.args.length c2, .int .i64 x.n] ∧ NumS w Q x.args A2
def IkS (w : World) (Q : Nat → Prop) (xs : List Ik) (A : Option Addr) : Prop := URow Q 4 (IkAt w Q) xs A
theorem IkAt.keep {w w' : World} {Q Q' : Nat → Prop} {x : Ik} {b o : Nat} (h : IkAt w Q x b o) (hb : Q b) (hc : ∀ b o, Q b → w'.cell? ⟨b, o, none⟩ = w.cell? ⟨b, o, none⟩) (hQ : ∀ b, Q b → Q' b) : IkAt w' Q' x b o := by
  obtain ⟨h0, h1, ⟨A2, c2, h2, r2⟩, h3⟩ := h
  exact ⟨(hc _ _ hb).trans h0, (hc _ _ hb).trans h1, ⟨A2, c2, (hc _ _ hb).trans h2, NumS.kp _ _ _ _ _ _ r2 hc hQ⟩, (hc _ _ hb).trans h3⟩
theorem IkS.kp (xs : List Ik) (A : Option Addr) : Kp fun w Q => IkS w Q xs A := fun _ _ _ _ h hc hQ => URow.keep h hQ fun _ _ _ hb hx => hx.keep hb hc hQ
theorem IkS.on {xs : List Ik} {A : Option Addr} {w w' : World} {B B' : Nat} (h : IkS w (Lt B) xs A) (hb : Below B w w') (hB : B ≤ B') : IkS w' (Lt B') xs A := (IkS.kp _ _).on h hb hB
theorem IkS.later {xs : List Ik} {A : Option Addr} {w w' : World} {lo hi : Nat} (h : IkS w (Between w lo hi) xs A) (hb : Below hi w w') {lo' hi' : Nat} (h1 : lo' ≤ lo) (h2 : hi ≤ hi') : IkS w' (Between w' lo' hi') xs A := (IkS.kp _ _).later h hb h1 h2
theorem IkS.put {xs : List Ik} {A : Option Addr} {w : World} {lo : Nat} (h : IkS w (Between w lo w.heap.size) xs A) {g : Nat} (hg : g < lo) (o : Nat) (u : Value) : IkS (w.setCell ⟨g, o, none⟩ u) (Between (w.setCell ⟨g, o, none⟩ u) lo (w.setCell ⟨g, o, none⟩ u).heap.size) xs A := (IkS.kp _ _).put h hg o u
theorem IkS.wide {xs : List Ik} {A : Option Addr} {w : World} {lo hi lo' hi' : Nat} (h : IkS w (Between w lo hi) xs A) (h1 : lo' ≤ lo) (h2 : hi ≤ hi') : IkS w (Between w lo' hi') xs A := (IkS.kp _ _).wide h h1 h2
theorem IkS.lt {xs : List Ik} {A : Option Addr} {w : World} {lo hi B : Nat} (h : IkS w (Between w lo hi) xs A) (hB : hi ≤ B) : IkS w (Lt B) xs A := (IkS.kp _ _).lt h hB
theorem IkV.kp (x : Ik) (v : Value) : Kp fun w Q => IkV w Q x v := by
  intro w w' Q Q' h hc hQ
  obtain ⟨A2, c2, e, r2⟩ := h
  exact ⟨A2, c2, e, NumS.kp _ _ _ _ _ _ r2 hc hQ⟩
theorem IkV.on {x : Ik} {v : Value} {w w' : World} {B B' : Nat} (h : IkV w (Lt B) x v) (hb : Below B w w') (hB : B ≤ B') : IkV w' (Lt B') x v := (IkV.kp _ _).on h hb hB
theorem IkV.later {x : Ik} {v : Value} {w w' : World} {lo hi : Nat} (h : IkV w (Between w lo hi) x v) (hb : Below hi w w') {lo' hi' : Nat} (h1 : lo' ≤ lo) (h2 : hi ≤ hi') : IkV w' (Between w' lo' hi') x v := (IkV.kp _ _).later h hb h1 h2
theorem IkV.put {x : Ik} {v : Value} {w : World} {lo : Nat} (h : IkV w (Between w lo w.heap.size) x v) {g : Nat} (hg : g < lo) (o : Nat) (u : Value) : IkV (w.setCell ⟨g, o, none⟩ u) (Between (w.setCell ⟨g, o, none⟩ u) lo (w.setCell ⟨g, o, none⟩ u).heap.size) x v := (IkV.kp _ _).put h hg o u
theorem IkV.wide {x : Ik} {v : Value} {w : World} {lo hi lo' hi' : Nat} (h : IkV w (Between w lo hi) x v) (h1 : lo' ≤ lo) (h2 : hi ≤ hi') : IkV w (Between w lo' hi') x v := (IkV.kp _ _).wide h h1 h2
theorem IkV.lt {x : Ik} {v : Value} {w : World} {lo hi B : Nat} (h : IkV w (Between w lo hi) x v) (hB : hi ≤ B) : IkV w (Lt B) x v := (IkV.kp _ _).lt h hB
def bulkIk (x : Ik) : Nat := x.args.length
def SmIk (x : Ik) : Prop := x.args.length ≤ maxLen
structure Bk where
  phis : List Ph
  ins : List Ik
  jump : Int
  on : Int
  next : List Int
def BkAt (w : World) (Q : Nat → Prop) (x : Bk) (b o : Nat) : Prop := (∃ A c, w.cell? ⟨b, o, none⟩ = some (.slice A x.phis.length c) ∧ PhS w Q x.phis A) ∧ (∃ A c, w.cell? ⟨b, o + 1, none⟩ = some (.slice A x.ins.length c) ∧ IkS w Q x.ins A) ∧ w.cell? ⟨b, o + 2, none⟩ = some (.int .i64 x.jump) ∧ w.cell? ⟨b, o + 3, none⟩ = some (.int .i64 x.on) ∧ (∃ A c, w.cell? ⟨b, o + 4, none⟩ = some (.slice A x.next.length c) ∧ NumS w Q x.next A)
/-- As a value. -/
def BkV (w : World) (Q : Nat → Prop) (x : Bk) (v : Value) : Prop := ∃ A0 c0 A1 c1 A4 c4, v = .agg #[.slice A0 x.phis.length c0, .slice A1 x.ins.length c1, .int .i64 x.jump, .int .i64 x.on, .slice A4 x.next.length c4] ∧ PhS w Q x.phis A0 ∧ IkS w Q x.ins A1 ∧ NumS w Q x.next A4
def BkS (w : World) (Q : Nat → Prop) (xs : List Bk) (A : Option Addr) : Prop := URow Q 5 (BkAt w Q) xs A
theorem BkAt.keep {w w' : World} {Q Q' : Nat → Prop} {x : Bk} {b o : Nat} (h : BkAt w Q x b o) (hb : Q b) (hc : ∀ b o, Q b → w'.cell? ⟨b, o, none⟩ = w.cell? ⟨b, o, none⟩) (hQ : ∀ b, Q b → Q' b) : BkAt w' Q' x b o := by
  obtain ⟨⟨A0, c0, h0, r0⟩, ⟨A1, c1, h1, r1⟩, h2, h3, ⟨A4, c4, h4, r4⟩⟩ := h
  exact ⟨⟨A0, c0, (hc _ _ hb).trans h0, PhS.kp _ _ _ _ _ _ r0 hc hQ⟩, ⟨A1, c1, (hc _ _ hb).trans h1, IkS.kp _ _ _ _ _ _ r1 hc hQ⟩, (hc _ _ hb).trans h2, (hc _ _ hb).trans h3, ⟨A4, c4, (hc _ _ hb).trans h4, NumS.kp _ _ _ _ _ _ r4 hc hQ⟩⟩
theorem BkS.kp (xs : List Bk) (A : Option Addr) : Kp fun w Q => BkS w Q xs A := fun _ _ _ _ h hc hQ => URow.keep h hQ fun _ _ _ hb hx => hx.keep hb hc hQ
theorem BkS.on {xs : List Bk} {A : Option Addr} {w w' : World} {B B' : Nat} (h : BkS w (Lt B) xs A) (hb : Below B w w') (hB : B ≤ B') : BkS w' (Lt B') xs A := (BkS.kp _ _).on h hb hB
theorem BkS.later {xs : List Bk} {A : Option Addr} {w w' : World} {lo hi : Nat} (h : BkS w (Between w lo hi) xs A) (hb : Below hi w w') {lo' hi' : Nat} (h1 : lo' ≤ lo) (h2 : hi ≤ hi') : BkS w' (Between w' lo' hi') xs A := (BkS.kp _ _).later h hb h1 h2
theorem BkS.put {xs : List Bk} {A : Option Addr} {w : World} {lo : Nat} (h : BkS w (Between w lo w.heap.size) xs A) {g : Nat} (hg : g < lo) (o : Nat) (u : Value) : BkS (w.setCell ⟨g, o, none⟩ u) (Between (w.setCell ⟨g, o, none⟩ u) lo (w.setCell ⟨g, o, none⟩ u).heap.size) xs A := (BkS.kp _ _).put h hg o u
theorem BkS.wide {xs : List Bk} {A : Option Addr} {w : World} {lo hi lo' hi' : Nat} (h : BkS w (Between w lo hi) xs A) (h1 : lo' ≤ lo) (h2 : hi ≤ hi') : BkS w (Between w lo' hi') xs A := (BkS.kp _ _).wide h h1 h2
theorem BkS.lt {xs : List Bk} {A : Option Addr} {w : World} {lo hi B : Nat} (h : BkS w (Between w lo hi) xs A) (hB : hi ≤ B) : BkS w (Lt B) xs A := (BkS.kp _ _).lt h hB
theorem BkV.kp (x : Bk) (v : Value) : Kp fun w Q => BkV w Q x v := by
  intro w w' Q Q' h hc hQ
  obtain ⟨A0, c0, A1, c1, A4, c4, e, r0, r1, r4⟩ := h
  exact ⟨A0, c0, A1, c1, A4, c4, e, PhS.kp _ _ _ _ _ _ r0 hc hQ, IkS.kp _ _ _ _ _ _ r1 hc hQ, NumS.kp _ _ _ _ _ _ r4 hc hQ⟩
theorem BkV.on {x : Bk} {v : Value} {w w' : World} {B B' : Nat} (h : BkV w (Lt B) x v) (hb : Below B w w') (hB : B ≤ B') : BkV w' (Lt B') x v := (BkV.kp _ _).on h hb hB
theorem BkV.later {x : Bk} {v : Value} {w w' : World} {lo hi : Nat} (h : BkV w (Between w lo hi) x v) (hb : Below hi w w') {lo' hi' : Nat} (h1 : lo' ≤ lo) (h2 : hi ≤ hi') : BkV w' (Between w' lo' hi') x v := (BkV.kp _ _).later h hb h1 h2
theorem BkV.put {x : Bk} {v : Value} {w : World} {lo : Nat} (h : BkV w (Between w lo w.heap.size) x v) {g : Nat} (hg : g < lo) (o : Nat) (u : Value) : BkV (w.setCell ⟨g, o, none⟩ u) (Between (w.setCell ⟨g, o, none⟩ u) lo (w.setCell ⟨g, o, none⟩ u).heap.size) x v := (BkV.kp _ _).put h hg o u
theorem BkV.wide {x : Bk} {v : Value} {w : World} {lo hi lo' hi' : Nat} (h : BkV w (Between w lo hi) x v) (h1 : lo' ≤ lo) (h2 : hi ≤ hi') : BkV w (Between w lo' hi') x v := (BkV.kp _ _).wide h h1 h2
theorem BkV.lt {x : Bk} {v : Value} {w : World} {lo hi B : Nat} (h : BkV w (Between w lo hi) x v) (hB : hi ≤ B) : BkV w (Lt B) x v := (BkV.kp _ _).lt h hB
def bulkBk (x : Bk) : Nat := bulkR bulkPh x.phis + bulkR bulkIk x.ins + x.next.length
def SmBk (x : Bk) : Prop := SmR SmPh x.phis ∧ SmR SmIk x.ins ∧ x.next.length ≤ maxLen
structure Cd where
  params : Int
  regs : Int
  blocks : List Bk
def CdAt (w : World) (Q : Nat → Prop) (x : Cd) (b o : Nat) : Prop := w.cell? ⟨b, o, none⟩ = some (.int .i64 x.params) ∧ w.cell? ⟨b, o + 1, none⟩ = some (.int .i64 x.regs) ∧ (∃ A c, w.cell? ⟨b, o + 2, none⟩ = some (.slice A x.blocks.length c) ∧ BkS w Q x.blocks A)
/-- As a value. -/
def CdV (w : World) (Q : Nat → Prop) (x : Cd) (v : Value) : Prop := ∃ A2 c2, v = .agg #[.int .i64 x.params, .int .i64 x.regs, .slice A2 x.blocks.length c2] ∧ BkS w Q x.blocks A2
def CdS (w : World) (Q : Nat → Prop) (xs : List Cd) (A : Option Addr) : Prop := URow Q 3 (CdAt w Q) xs A
theorem CdAt.keep {w w' : World} {Q Q' : Nat → Prop} {x : Cd} {b o : Nat} (h : CdAt w Q x b o) (hb : Q b) (hc : ∀ b o, Q b → w'.cell? ⟨b, o, none⟩ = w.cell? ⟨b, o, none⟩) (hQ : ∀ b, Q b → Q' b) : CdAt w' Q' x b o := by
  obtain ⟨h0, h1, ⟨A2, c2, h2, r2⟩⟩ := h
  exact ⟨(hc _ _ hb).trans h0, (hc _ _ hb).trans h1, ⟨A2, c2, (hc _ _ hb).trans h2, BkS.kp _ _ _ _ _ _ r2 hc hQ⟩⟩
theorem CdS.kp (xs : List Cd) (A : Option Addr) : Kp fun w Q => CdS w Q xs A := fun _ _ _ _ h hc hQ => URow.keep h hQ fun _ _ _ hb hx => hx.keep hb hc hQ
theorem CdS.on {xs : List Cd} {A : Option Addr} {w w' : World} {B B' : Nat} (h : CdS w (Lt B) xs A) (hb : Below B w w') (hB : B ≤ B') : CdS w' (Lt B') xs A := (CdS.kp _ _).on h hb hB
theorem CdS.later {xs : List Cd} {A : Option Addr} {w w' : World} {lo hi : Nat} (h : CdS w (Between w lo hi) xs A) (hb : Below hi w w') {lo' hi' : Nat} (h1 : lo' ≤ lo) (h2 : hi ≤ hi') : CdS w' (Between w' lo' hi') xs A := (CdS.kp _ _).later h hb h1 h2
theorem CdS.put {xs : List Cd} {A : Option Addr} {w : World} {lo : Nat} (h : CdS w (Between w lo w.heap.size) xs A) {g : Nat} (hg : g < lo) (o : Nat) (u : Value) : CdS (w.setCell ⟨g, o, none⟩ u) (Between (w.setCell ⟨g, o, none⟩ u) lo (w.setCell ⟨g, o, none⟩ u).heap.size) xs A := (CdS.kp _ _).put h hg o u
theorem CdS.wide {xs : List Cd} {A : Option Addr} {w : World} {lo hi lo' hi' : Nat} (h : CdS w (Between w lo hi) xs A) (h1 : lo' ≤ lo) (h2 : hi ≤ hi') : CdS w (Between w lo' hi') xs A := (CdS.kp _ _).wide h h1 h2
theorem CdS.lt {xs : List Cd} {A : Option Addr} {w : World} {lo hi B : Nat} (h : CdS w (Between w lo hi) xs A) (hB : hi ≤ B) : CdS w (Lt B) xs A := (CdS.kp _ _).lt h hB
theorem CdV.kp (x : Cd) (v : Value) : Kp fun w Q => CdV w Q x v := by
  intro w w' Q Q' h hc hQ
  obtain ⟨A2, c2, e, r2⟩ := h
  exact ⟨A2, c2, e, BkS.kp _ _ _ _ _ _ r2 hc hQ⟩
theorem CdV.on {x : Cd} {v : Value} {w w' : World} {B B' : Nat} (h : CdV w (Lt B) x v) (hb : Below B w w') (hB : B ≤ B') : CdV w' (Lt B') x v := (CdV.kp _ _).on h hb hB
theorem CdV.later {x : Cd} {v : Value} {w w' : World} {lo hi : Nat} (h : CdV w (Between w lo hi) x v) (hb : Below hi w w') {lo' hi' : Nat} (h1 : lo' ≤ lo) (h2 : hi ≤ hi') : CdV w' (Between w' lo' hi') x v := (CdV.kp _ _).later h hb h1 h2
theorem CdV.put {x : Cd} {v : Value} {w : World} {lo : Nat} (h : CdV w (Between w lo w.heap.size) x v) {g : Nat} (hg : g < lo) (o : Nat) (u : Value) : CdV (w.setCell ⟨g, o, none⟩ u) (Between (w.setCell ⟨g, o, none⟩ u) lo (w.setCell ⟨g, o, none⟩ u).heap.size) x v := (CdV.kp _ _).put h hg o u
theorem CdV.wide {x : Cd} {v : Value} {w : World} {lo hi lo' hi' : Nat} (h : CdV w (Between w lo hi) x v) (h1 : lo' ≤ lo) (h2 : hi ≤ hi') : CdV w (Between w lo' hi') x v := (CdV.kp _ _).wide h h1 h2
theorem CdV.lt {x : Cd} {v : Value} {w : World} {lo hi B : Nat} (h : CdV w (Between w lo hi) x v) (hB : hi ≤ B) : CdV w (Lt B) x v := (CdV.kp _ _).lt h hB
def bulkCd (x : Cd) : Nat := bulkR bulkBk x.blocks
def SmCd (x : Cd) : Prop := SmR SmBk x.blocks
structure Un where
  codes : List Cd
def UnAt (w : World) (Q : Nat → Prop) (x : Un) (b o : Nat) : Prop := (∃ A c, w.cell? ⟨b, o, none⟩ = some (.slice A x.codes.length c) ∧ CdS w Q x.codes A)
/-- As a value. -/
def UnV (w : World) (Q : Nat → Prop) (x : Un) (v : Value) : Prop := ∃ A0 c0, v = .agg #[.slice A0 x.codes.length c0] ∧ CdS w Q x.codes A0
def UnS (w : World) (Q : Nat → Prop) (xs : List Un) (A : Option Addr) : Prop := URow Q 1 (UnAt w Q) xs A
theorem UnAt.keep {w w' : World} {Q Q' : Nat → Prop} {x : Un} {b o : Nat} (h : UnAt w Q x b o) (hb : Q b) (hc : ∀ b o, Q b → w'.cell? ⟨b, o, none⟩ = w.cell? ⟨b, o, none⟩) (hQ : ∀ b, Q b → Q' b) : UnAt w' Q' x b o := by
  obtain ⟨A0, c0, h0, r0⟩ := h
  exact ⟨A0, c0, (hc _ _ hb).trans h0, CdS.kp _ _ _ _ _ _ r0 hc hQ⟩
theorem UnS.kp (xs : List Un) (A : Option Addr) : Kp fun w Q => UnS w Q xs A := fun _ _ _ _ h hc hQ => URow.keep h hQ fun _ _ _ hb hx => hx.keep hb hc hQ
theorem UnS.on {xs : List Un} {A : Option Addr} {w w' : World} {B B' : Nat} (h : UnS w (Lt B) xs A) (hb : Below B w w') (hB : B ≤ B') : UnS w' (Lt B') xs A := (UnS.kp _ _).on h hb hB
theorem UnS.later {xs : List Un} {A : Option Addr} {w w' : World} {lo hi : Nat} (h : UnS w (Between w lo hi) xs A) (hb : Below hi w w') {lo' hi' : Nat} (h1 : lo' ≤ lo) (h2 : hi ≤ hi') : UnS w' (Between w' lo' hi') xs A := (UnS.kp _ _).later h hb h1 h2
theorem UnS.put {xs : List Un} {A : Option Addr} {w : World} {lo : Nat} (h : UnS w (Between w lo w.heap.size) xs A) {g : Nat} (hg : g < lo) (o : Nat) (u : Value) : UnS (w.setCell ⟨g, o, none⟩ u) (Between (w.setCell ⟨g, o, none⟩ u) lo (w.setCell ⟨g, o, none⟩ u).heap.size) xs A := (UnS.kp _ _).put h hg o u
theorem UnS.wide {xs : List Un} {A : Option Addr} {w : World} {lo hi lo' hi' : Nat} (h : UnS w (Between w lo hi) xs A) (h1 : lo' ≤ lo) (h2 : hi ≤ hi') : UnS w (Between w lo' hi') xs A := (UnS.kp _ _).wide h h1 h2
theorem UnS.lt {xs : List Un} {A : Option Addr} {w : World} {lo hi B : Nat} (h : UnS w (Between w lo hi) xs A) (hB : hi ≤ B) : UnS w (Lt B) xs A := (UnS.kp _ _).lt h hB
theorem UnV.kp (x : Un) (v : Value) : Kp fun w Q => UnV w Q x v := by
  intro w w' Q Q' h hc hQ
  obtain ⟨A0, c0, e, r0⟩ := h
  exact ⟨A0, c0, e, CdS.kp _ _ _ _ _ _ r0 hc hQ⟩
theorem UnV.on {x : Un} {v : Value} {w w' : World} {B B' : Nat} (h : UnV w (Lt B) x v) (hb : Below B w w') (hB : B ≤ B') : UnV w' (Lt B') x v := (UnV.kp _ _).on h hb hB
theorem UnV.later {x : Un} {v : Value} {w w' : World} {lo hi : Nat} (h : UnV w (Between w lo hi) x v) (hb : Below hi w w') {lo' hi' : Nat} (h1 : lo' ≤ lo) (h2 : hi ≤ hi') : UnV w' (Between w' lo' hi') x v := (UnV.kp _ _).later h hb h1 h2
theorem UnV.put {x : Un} {v : Value} {w : World} {lo : Nat} (h : UnV w (Between w lo w.heap.size) x v) {g : Nat} (hg : g < lo) (o : Nat) (u : Value) : UnV (w.setCell ⟨g, o, none⟩ u) (Between (w.setCell ⟨g, o, none⟩ u) lo (w.setCell ⟨g, o, none⟩ u).heap.size) x v := (UnV.kp _ _).put h hg o u
theorem UnV.wide {x : Un} {v : Value} {w : World} {lo hi lo' hi' : Nat} (h : UnV w (Between w lo hi) x v) (h1 : lo' ≤ lo) (h2 : hi ≤ hi') : UnV w (Between w lo' hi') x v := (UnV.kp _ _).wide h h1 h2
theorem UnV.lt {x : Un} {v : Value} {w : World} {lo hi B : Nat} (h : UnV w (Between w lo hi) x v) (hB : hi ≤ B) : UnV w (Lt B) x v := (UnV.kp _ _).lt h hB
def bulkUn (x : Un) : Nat := bulkR bulkCd x.codes
def SmUn (x : Un) : Prop := SmR SmCd x.codes
end Go.Proofs.YtomhomnibikceaaDoor
