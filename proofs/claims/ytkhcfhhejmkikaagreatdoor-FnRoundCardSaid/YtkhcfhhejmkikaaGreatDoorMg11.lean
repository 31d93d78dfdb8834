/-
  What the laws' own helpers do with expressions: a copy in new memory.
-/
import Derived.Test.YtkhcfhhejmkikaaGreatDoorMg4
import Derived.Deep.RegionHeld3
namespace Go.Proofs.YtkhcfhhejmkikaaGreatDoor
open Go.RowKit

/-- Cells from a place on that read as Kids; the blocks to which they lead are of a kind. -/
def PdC (w : World) (S : Nat → Prop) : List E → Nat → Nat → Prop
  | [], _, _ => True
  | .mk op n s ks' :: ks, b, o =>
    (w.cell? ⟨b, o, none⟩ = some (.int .i64 op) ∧ w.cell? ⟨b, o + 1, none⟩ = some (.int .i64 n) ∧ w.cell? ⟨b, o + 2, none⟩ = some (.string s)) ∧
    (∃ A cap, w.cell? ⟨b, o + 3, none⟩ = some (.slice A ks'.length cap) ∧ (ks' = [] ∨ ∃ b' o', A = some ⟨b', o', none⟩ ∧ S b' ∧ PdC w S ks' b' o')) ∧ PdC w S ks b (o + 4)
def PdS (w : World) (S : Nat → Prop) (ks : List E) (A : Option Addr) : Prop := ks = [] ∨ ∃ b o, A = some ⟨b, o, none⟩ ∧ S b ∧ PdC w S ks b o
def PdAt (w : World) (S : Nat → Prop) (e : E) (b o : Nat) : Prop :=
  (w.cell? ⟨b, o, none⟩ = some (.int .i64 e.op) ∧ w.cell? ⟨b, o + 1, none⟩ = some (.int .i64 e.n) ∧ w.cell? ⟨b, o + 2, none⟩ = some (.string e.name)) ∧
    ∃ A cap, w.cell? ⟨b, o + 3, none⟩ = some (.slice A e.kids.length cap) ∧ PdS w S e.kids A
theorem PdC_cons (w : World) (S : Nat → Prop) (e : E) (ks : List E) (b o : Nat) : PdC w S (e :: ks) b o ↔ PdAt w S e b o ∧ PdC w S ks b (o + 4) := by
  obtain ⟨op, n, s, ks'⟩ := e
  unfold PdAt PdS
  rw [PdC]
  simp only [E.op, E.n, E.name, E.kids, and_assoc]
theorem PdC.get {w : World} {S : Nat → Prop} : ∀ {ks : List E} {b o : Nat}, PdC w S ks b o → ∀ {i : Nat} (h : i < ks.length), PdAt w S ks[i] b (o + i * 4)
  | [], _, _, _, i, h => absurd h (by simp)
  | e :: ks, b, o, hr, 0, _ => by
    rw [PdC_cons] at hr
    have e1 : o + 0 * 4 = o := by omega
    rw [e1]; exact hr.1
  | e :: ks, b, o, hr, i + 1, h => by
    rw [PdC_cons] at hr
    have := PdC.get hr.2 (i := i) (by simpa using h)
    have e1 : o + 4 + i * 4 = o + (i + 1) * 4 := by omega
    rw [e1] at this
    exact this
theorem PdC.mk {w : World} {S : Nat → Prop} : ∀ {ks : List E} {b o : Nat}, (∀ i, (h : i < ks.length) → PdAt w S ks[i] b (o + i * 4)) → PdC w S ks b o
  | [], _, _, _ => by rw [PdC]; trivial
  | e :: ks, b, o, h => by
    rw [PdC_cons]
    refine ⟨?_, PdC.mk fun i hi => ?_⟩
    · have := h 0 (by simp)
      have e1 : o + 0 * 4 = o := by omega
      rw [e1] at this; exact this
    have := h (i + 1) (by simpa using hi)
    have e1 : o + (i + 1) * 4 = o + 4 + i * 4 := by omega
    rw [e1] at this
    exact this
theorem pd_keep {w w' : World} {S S' : Nat → Prop} (hc : ∀ b o, S b → w'.cell? ⟨b, o, none⟩ = w.cell? ⟨b, o, none⟩) (hB : ∀ b, S b → S' b) : ∀ (N : Nat) (ks : List E) (A : Option Addr), sizeL ks ≤ N → PdS w S ks A → PdS w' S' ks A := by
  intro N
  induction N with
  | zero =>
    intro ks A hN h
    cases ks with
    | nil => exact .inl rfl
    | cons k ks => have := sizeE_pos k; have : sizeL (k :: ks) = sizeE k + sizeL ks := rfl; omega
  | succ N ih =>
    intro ks A hN h
    rcases h with h | ⟨b, o, e, hb, hr⟩
    · exact .inl h
    · refine .inr ⟨b, o, e, hB _ hb, PdC.mk fun i hi => ?_⟩
      obtain ⟨⟨c0, c1, c2⟩, A', cap, c3, hr'⟩ := hr.get hi
      refine ⟨⟨(hc _ _ hb).trans c0, (hc _ _ hb).trans c1, (hc _ _ hb).trans c2⟩, A', cap, (hc _ _ hb).trans c3, ih _ _ ?_ hr'⟩
      have := sizeL_get hi
      rw [sizeE_kids] at this
      omega
theorem PdS.keep {w w' : World} {S S' : Nat → Prop} {ks : List E} {A : Option Addr} (h : PdS w S ks A) (hc : ∀ b o, S b → w'.cell? ⟨b, o, none⟩ = w.cell? ⟨b, o, none⟩) (hB : ∀ b, S b → S' b) : PdS w' S' ks A :=
  pd_keep hc hB _ _ _ (Nat.le_refl _) h
theorem pd_rd {w : World} {S : Nat → Prop} {B : Nat} (hB : ∀ b, S b → b < B) : ∀ (N : Nat) (ks : List E) (A : Option Addr), sizeL ks ≤ N → PdS w S ks A → RdS w B ks A := by
  intro N
  induction N with
  | zero =>
    intro ks A hN h
    cases ks with
    | nil => exact .inl rfl
    | cons k ks => have := sizeE_pos k; have : sizeL (k :: ks) = sizeE k + sizeL ks := rfl; omega
  | succ N ih =>
    intro ks A hN h
    rcases h with h | ⟨b, o, e, hb, hr⟩
    · exact .inl h
    · refine .inr ⟨b, o, e, hB _ hb, RdC.mk fun i hi => ?_⟩
      obtain ⟨c, A', cap, c3, hr'⟩ := hr.get hi
      refine ⟨c, A', cap, c3, ih _ _ ?_ hr'⟩
      have := sizeL_get hi
      rw [sizeE_kids] at this
      omega
theorem PdS.rd {w : World} {S : Nat → Prop} {B : Nat} {ks : List E} {A : Option Addr} (h : PdS w S ks A) (hB : ∀ b, S b → b < B) : RdS w B ks A := pd_rd hB _ _ _ (Nat.le_refl _) h

/-- A block of cells that no string shares. -/
def Flat (w : World) (b : Nat) : Prop := ∃ cs t, w.heap[b]? = some (.cells cs t (0, 0))
theorem Flat.below {w w' : World} {B b : Nat} (h : Flat w b) (hb : Below B w w') (hlt : b < B) : Flat w' b := by
  obtain ⟨cs, t, h⟩ := h
  exact ⟨cs, t, by rw [hb.block b hlt]; exact h⟩
theorem Flat.set {w : World} {b : Nat} (h : Flat w b) (p : Addr) (v : Value) : Flat (w.setCell p v) b := by
  obtain ⟨cs, t, h⟩ := h
  unfold Flat World.setCell
  dsimp only
  by_cases e : p.block = b
  · subst e
    rw [Array.getElem?_modify, if_pos rfl, h]
    exact ⟨_, _, rfl⟩
  · rw [Array.getElem?_modify, if_neg e]
    exact ⟨cs, t, h⟩
/-- The blocks that a call has made. -/
def Between (w : World) (lo hi : Nat) (b : Nat) : Prop := lo ≤ b ∧ b < hi ∧ Flat w b
theorem PdS.between_rd {w : World} {lo : Nat} {ks : List E} {A : Option Addr} (h : PdS w (Between w lo w.heap.size) ks A) : RdS w w.heap.size ks A := h.rd fun _ h => h.2.1
theorem PdS.later {w w' : World} {lo hi : Nat} {ks : List E} {A : Option Addr} (h : PdS w (Between w lo hi) ks A) (hb : Below hi w w') {lo' hi' : Nat} (h1 : lo' ≤ lo) (h2 : hi ≤ hi') : PdS w' (Between w' lo' hi') ks A :=
  h.keep (fun b _ h => hb.cell (p := ⟨b, _, none⟩) h.2.1) (fun _ h => ⟨Nat.le_trans h1 h.1, Nat.lt_of_lt_of_le h.2.1 h2, h.2.2.below hb h.2.1⟩)
/-- A block ahead of all others is written. -/
theorem PdS.set' {w : World} {lo hi : Nat} {ks : List E} {A : Option Addr} (h : PdS w (Between w lo hi) ks A) {g : Nat} (hg : g < lo) (o : Nat) (v : Value) : PdS (w.setCell ⟨g, o, none⟩ v) (Between (w.setCell ⟨g, o, none⟩ v) lo hi) ks A :=
  h.keep (fun b o' h => World.cell?_setCell_other _ _ _ _ (by intro e; injection e with e; have := h.1; omega)) (fun _ h => ⟨h.1, h.2.1, h.2.2.set _ _⟩)
theorem PdS.set {w : World} {g hi : Nat} {ks : List E} {A : Option Addr} (h : PdS w (Between w (g + 1) hi) ks A) (o : Nat) (v : Value) : PdS (w.setCell ⟨g, o, none⟩ v) (Between (w.setCell ⟨g, o, none⟩ v) (g + 1) hi) ks A :=
  h.set' (Nat.lt_succ_self g) o v
theorem PdS.wide {w : World} {lo hi lo' hi' : Nat} {ks : List E} {A : Option Addr} (h : PdS w (Between w lo hi) ks A) (h1 : lo' ≤ lo) (h2 : hi ≤ hi') : PdS w (Between w lo' hi') ks A :=
  h.keep (fun _ _ _ => rfl) (fun _ h => ⟨Nat.le_trans h1 h.1, Nat.lt_of_lt_of_le h.2.1 h2, h.2.2⟩)

mutual
/-- All names and lists are such as memory holds. -/
def SmE : E → Prop
  | .mk _ _ s ks => s.size ≤ maxLen ∧ ks.length ≤ maxLen ∧ SmL ks
def SmL : List E → Prop
  | [] => True
  | k :: ks => SmE k ∧ SmL ks
end
theorem SmL_mem : ∀ {ks : List E} {k : E}, SmL ks → k ∈ ks → SmE k
  | x :: ks, k, h, hk => by
    rw [SmL] at h
    rcases List.mem_cons.1 hk with rfl | hk
    · exact h.1
    · exact SmL_mem h.2 hk
theorem SmL_mk : ∀ {ks : List E}, (∀ k ∈ ks, SmE k) → SmL ks
  | [], _ => by rw [SmL]; trivial
  | x :: ks, h => by rw [SmL]; exact ⟨h x (by simp), SmL_mk fun k hk => h k (by simp [hk])⟩
theorem SmE_mk (e : E) : SmE e ↔ e.name.size ≤ maxLen ∧ e.kids.length ≤ maxLen ∧ SmL e.kids := by cases e; rw [SmE]; rfl
mutual
theorem SmE_of_bulk : ∀ (e : E), bulkE e ≤ 1048576 → SmE e
  | .mk _ _ s ks, h => by
    have h : s.size + bulkL ks ≤ 1048576 := h
    have := sizeL_bulk ks
    have := length_le_sizeL ks
    rw [SmE]; exact ⟨by unfold maxLen; omega, by unfold maxLen; omega, SmL_of_bulk ks (by omega)⟩
theorem SmL_of_bulk : ∀ (ks : List E), bulkL ks ≤ 1048576 → SmL ks
  | [], _ => by rw [SmL]; trivial
  | k :: ks, h => by
    have h : 1 + bulkE k + bulkL ks ≤ 1048576 := h
    rw [SmL]; exact ⟨SmE_of_bulk k (by omega), SmL_of_bulk ks (by omega)⟩
end
theorem bulkL_drop (ks : List E) (i : Nat) : ks.length - i ≤ bulkL (ks.drop i) := by
  have h1 := length_le_sizeL (ks.drop i)
  have h2 := sizeL_bulk (ks.drop i)
  rw [List.length_drop] at h1
  omega
theorem bulkL_rest (ks : List E) (i : Nat) : bulkL (ks.take i) + (ks.length - i) ≤ bulkL ks := by
  have h := bulkL_app (ks.take i) (ks.drop i)
  rw [List.take_append_drop] at h
  have := bulkL_drop ks i
  omega
/-- What szExpr returns. -/
def szR (left : Int) (b : Nat) : Int := if left < b then -1 else left - b
theorem szR_no {b : Nat} (h : 1048576 < b) : szR 1048576 b = -1 := if_pos (by omega)
theorem szR_yes {b : Nat} (h : ¬ 1048576 < b) : szR 1048576 b = 1048576 - b := if_neg (by omega)
end Go.Proofs.YtkhcfhhejmkikaaGreatDoor

namespace Go.Proofs.YtkhcfhhejmkikaaGreatDoor
open Go.RowKit
set_option maxRecDepth 100000

/-- A number, and new blocks at most. -/
def IntB (n : Int) (w : World) (e : Ending) (w' : World) : Prop := e = .returned (.int .i64 n) ∧ Below w.heap.size w w'
theorem box4 (w : World) (v0 v1 v2 v3 : Value) (t : TypeId) :
    (w.alloc (.cells #[v0, v1, v2, v3] t)).cell? ⟨w.heap.size, 0, none⟩ = some v0 ∧ (w.alloc (.cells #[v0, v1, v2, v3] t)).cell? ⟨w.heap.size, 1, none⟩ = some v1 ∧ (w.alloc (.cells #[v0, v1, v2, v3] t)).cell? ⟨w.heap.size, 2, none⟩ = some v2 ∧ (w.alloc (.cells #[v0, v1, v2, v3] t)).cell? ⟨w.heap.size, 3, none⟩ = some v3 ∧ w.heap.size < (w.alloc (.cells #[v0, v1, v2, v3] t)).heap.size ∧ Below w.heap.size w (w.alloc (.cells #[v0, v1, v2, v3] t)) :=
  ⟨alloc_cell w _ _ _ 0, alloc_cell w _ _ _ 1, alloc_cell w _ _ _ 2, alloc_cell w _ _ _ 3, by rw [World.size_alloc]; omega, (Below.refl _ _).alloc (Nat.le_refl _) _⟩
theorem ret_int' {k : IntKind} {a b : Int} (h : a = b) : Ending.returned (.int k a) = .returned (.int k b) := by rw [h]


open Classical in
/-- Are two expressions one? -/
noncomputable def eqB (a b : E) : Bool := decide (a = b)
open Classical in
noncomputable def eqLB (a b : List E) : Bool := decide (a = b)
def EqE (a : E) : Prop := ∀ (b : E) (A : Option Addr) (cap : Nat) (A' : Option Addr) (cap' : Nat) (w : World), RdS w w.heap.size a.kids A → RdS w w.heap.size b.kids A' → bulkE a ≤ 2000000 → bulkE b ≤ 2000000 →
  Calls Tryz.prog 11 #[exV a A cap, exV b A' cap'] w (BoolB (eqB a b) w)
def EqL (ks : List E) : Prop := ∀ (ls : List E) (A : Option Addr) (cap : Nat) (A' : Option Addr) (cap' : Nat) (w : World), RdS w w.heap.size ks A → RdS w w.heap.size ls A' → bulkL ks ≤ 2000000 → bulkL ls ≤ 2000000 →
  Calls Tryz.prog 31 #[.slice A ks.length cap, .slice A' ls.length cap'] w (BoolB (eqLB ks ls) w)
open Classical in
theorem eqB_same (op n : Int) (s : ByteArray) (ks ls : List E) : eqB (.mk op n s ks) (.mk op n s ls) = eqLB ks ls := by
  unfold eqB eqLB
  rw [Bool.eq_iff_iff, decide_eq_true_eq, decide_eq_true_eq]
  exact ⟨fun h => by injection h, fun h => by rw [h]⟩
open Classical in
theorem eqB_no {a b : E} (h : a ≠ b) : eqB a b = false := by unfold eqB; rw [decide_eq_false_iff_not]; exact h
open Classical in
theorem eqLB_no {a b : List E} (h : a ≠ b) : eqLB a b = false := by unfold eqLB; rw [decide_eq_false_iff_not]; exact h
open Classical in
theorem eqB_yes (a : E) : eqB a a = true := by unfold eqB; rw [decide_eq_true_eq]
open Classical in
theorem eqB_iff (a b : E) : eqB a b = true ↔ a = b := by unfold eqB; rw [decide_eq_true_eq]
set_option maxHeartbeats 1000000 in
theorem eqExpr_of (a : E) (H : EqL a.kids) : EqE a := by
  intro b A cap A' cap' w hR hR' hl hsb
  unfold exV
  obtain ⟨op, n, s, ks⟩ := a
  obtain ⟨op', n', s', ls⟩ := b
  replace hl : bulkL ks ≤ 2000000 := by have h : s.size + bulkL ks ≤ 2000000 := hl; omega
  replace hsb : bulkL ls ≤ 2000000 := by have h : s'.size + bulkL ls ≤ 2000000 := hsb; omega
  dsimp only [E.op, E.n, E.name, E.kids] at *
  have hb := two_boxes w (.cells #[.int .i64 op, .int .i64 n, .string s, .slice A ks.length cap] 24) (.cells #[.int .i64 op', .int .i64 n', .string s', .slice A' ls.length cap'] 24)
  by_cases h1 : op = op'
  · subst h1
    have p1 : (op != op) = false := by simp
    by_cases h2 : n = n'
    · subst h2
      have p2 : (n != n) = false := by simp
      by_cases h3 : s = s'
      · subst h3
        have p3 : (s.toList == s.toList) = true := by simp
        have CS := H ls A cap A' cap' _ (hR.on hb hb.size) (hR'.on hb hb.size) hl hsb
        have HQ := Lib.hid (eqB_same op n s ks ls)
        clear H hR hR'
        generalize eqLB ks ls = z at *
        replace CS := Lib.hid CS
        have hbs := hb.size
        cases z
        all_goals
          go_enter Tryz.func11, Tryz.ntmps11
          go_wp2_with ((go_at_call 31; (with_reducible refine Calls.mono CS.out ?_); rintro ee w1 ⟨rfl, hb1⟩; have hb2 := hb.trans (hb1.mono hbs)))
          go_ret
          exact ⟨ret_bool (by rw [HQ.out]), hb2⟩
      · have e2 : (s.toList == s'.toList) = false := str_eq_false h3
        have HC := Lib.hid h3; clear h3 H hR hR'
        go_enter Tryz.func11, Tryz.ntmps11
        go_wp2_with fail
        go_ret
        exact ⟨ret_bool (by rw [eqB_no]; intro h; injection h with _ _ h; exact HC.out h), hb⟩
    · have e1 : (n == n') = false := beq_no h2
      have e2 : (n != n') = true := by rw [bne, e1]; rfl
      have HC := Lib.hid h2; clear h2 H hR hR'
      go_enter Tryz.func11, Tryz.ntmps11
      go_wp2_with fail
      go_ret
      exact ⟨ret_bool (by rw [eqB_no]; intro h; injection h with _ h; exact HC.out h), hb⟩
  · have e1 : (op == op') = false := beq_no h1
    have e2 : (op != op') = true := by rw [bne, e1]; rfl
    have HC := Lib.hid h1; clear h1 H hR hR'
    go_enter Tryz.func11, Tryz.ntmps11
    go_wp2_with fail
    go_ret
    exact ⟨ret_bool (by rw [eqB_no]; intro h; injection h with h; exact HC.out h), hb⟩
theorem SmL_get {ks : List E} (h : SmL ks) {i : Nat} (hi : i < ks.length) : SmE ks[i] := SmL_mem h (List.getElem_mem hi)
open Classical in
set_option maxHeartbeats 2000000 in
theorem eqExprS_of (ks : List E) (H : ∀ k ∈ ks, EqE k) : EqL ks := by
  intro ls A cap A' cap' w hR hR' hks hls
  have hn : ks.length ≤ 2000000 := by have := length_le_sizeL ks; have := sizeL_bulk ks; omega
  have hn' : ls.length ≤ 2000000 := by have := length_le_sizeL ls; have := sizeL_bulk ls; omega
  have HKS := Lib.hid hks
  have HLS := Lib.hid hls
  clear hks hls
  have HK := fun i (h : i < ks.length) => H _ (List.getElem_mem h)
  clear H
  unfold EqE exV at HK
  replace HK := Lib.hid HK
  have HR := Lib.hid hR
  have HR' := Lib.hid hR'
  clear hR hR'
  by_cases hl : ks.length = ls.length
  · have e1 : ((ks.length : Int) == (ls.length : Int)) = true := by rw [beq_iff_eq]; omega
    have e2 : ((ks.length : Int) != (ls.length : Int)) = false := by rw [bne, e1]; rfl
    have HL := Lib.hid hl; clear hl
    go_enter Tryz.func31, Tryz.ntmps31
    go_wp2_with fail
    clear e1 e2
    go_loopw [5] (fun i wr => ∃ (k : Nat), k ≤ ks.length ∧ i = .int .i64 k ∧ (∀ j, (h : j < ks.length) → (h' : j < ls.length) → j < k → ks[j] = ls[j]) ∧ Below w.heap.size w wr) (fun i _ => ks.length - (intOf i).toNat)
    case atStart => exact ⟨0, Nat.zero_le _, rfl, fun j _ _ hj => absurd hj (by omega), Below.refl _ _⟩
    case round =>
      obtain ⟨k, hk, rfl, hall, hb⟩ := hrel
      by_cases hlt : k < ks.length
      · have hlt' : k < ls.length := by have := HL.out; omega
        have hbs := hb.size
        obtain ⟨b, o, rfl, hB, ⟨c0, c1, c2⟩, A1, cap1, c3, hr⟩ := (HR.out.below hb).at_ hlt
        obtain ⟨b', o', rfl, hB', ⟨d0, d1, d2⟩, A2, cap2, d3, hr'⟩ := (HR'.out.below hb).at_ hlt'
        have hm1 : bulkE ks[k] ≤ 2000000 := by have := bulkL_mem (List.getElem_mem hlt); have := HKS.out; omega
        have hm2 : bulkE ls[k] ≤ 2000000 := by have := bulkL_mem (List.getElem_mem hlt'); have := HLS.out; omega
        have CK := HK.out k hlt ls[k] A1 cap1 A2 cap2 wr.drew ((hr.below (Below.refl _ wr).drew).more hbs) ((hr'.below (Below.refl _ wr).drew).more hbs) hm1 hm2
        have HA := Lib.hid hall; clear hall hm1 hm2 hr hr'
        generalize hs0 : ks[k] = x at *
        generalize hs1 : ls[k] = x' at *
        have HS := Lib.hid hs0; clear hs0
        have HS' := Lib.hid hs1; clear hs1
        obtain ⟨op, n, s, kk⟩ := x
        obtain ⟨op', n', s', kk'⟩ := x'
        dsimp only [E.op, E.n, E.name, E.kids] at c0 c1 c2 c3 d0 d1 d2 d3 CK
        have hBr : b < wr.heap.size := Nat.lt_of_lt_of_le hB hbs
        have hBr' : b' < wr.heap.size := Nat.lt_of_lt_of_le hB' hbs
        go_wp2_with fail
        cases hd : eqB (E.mk op n s kk) (E.mk op' n' s' kk')
        · rw [hd] at CK
          replace CK := Lib.hid CK
          have hne : ks ≠ ls := by
            intro e
            have h1 := HS.out
            have h2 := HS'.out
            simp only [e] at h1
            rw [← h1, ← h2, eqB_yes] at hd
            cases hd
          have HN := Lib.hid hne
          clear hne hd
          go_region_held3 (fun u => u.cell? ⟨b, o + k * 4, none⟩ = some (.int .i64 op) ∧ u.cell? ⟨b, o + k * 4 + 1, none⟩ = some (.int .i64 n) ∧ u.cell? ⟨b, o + k * 4 + 2, none⟩ = some (.string s) ∧ u.cell? ⟨b, o + k * 4 + 3, none⟩ = some (.slice A1 kk.length cap1) ∧ u.cell? ⟨b', o' + k * 4, none⟩ = some (.int .i64 op') ∧ u.cell? ⟨b', o' + k * 4 + 1, none⟩ = some (.int .i64 n') ∧ u.cell? ⟨b', o' + k * 4 + 2, none⟩ = some (.string s') ∧ u.cell? ⟨b', o' + k * 4 + 3, none⟩ = some (.slice A2 kk'.length cap2)) (go_keep)
            (first | (go_at_call 11; (with_reducible refine Calls.mono CK.out ?_); rintro e w' ⟨rfl, hb1⟩; have g0 := (hb1.cell (p := ⟨b, o + k * 4, none⟩) hBr).trans c0; have g1 := (hb1.cell (p := ⟨b, o + k * 4 + 1, none⟩) hBr).trans c1; have g2 := (hb1.cell (p := ⟨b, o + k * 4 + 2, none⟩) hBr).trans c2; have g3 := (hb1.cell (p := ⟨b, o + k * 4 + 3, none⟩) hBr).trans c3; have q0 := (hb1.cell (p := ⟨b', o' + k * 4, none⟩) hBr').trans d0; have q1 := (hb1.cell (p := ⟨b', o' + k * 4 + 1, none⟩) hBr').trans d1; have q2 := (hb1.cell (p := ⟨b', o' + k * 4 + 2, none⟩) hBr').trans d2; have q3 := (hb1.cell (p := ⟨b', o' + k * 4 + 3, none⟩) hBr').trans d3))
          have hb2 := hb.drew.trans (hb1.mono hbs)
          clear hb hb1
          go_wp2_with fail
          go_ret
          exact ⟨ret_bool (by rw [eqLB_no HN.out]), hb2⟩
        · rw [hd] at CK
          replace CK := Lib.hid CK
          have HD := Lib.hid ((eqB_iff _ _).1 hd)
          clear hd
          go_region_held3 (fun u => u.cell? ⟨b, o + k * 4, none⟩ = some (.int .i64 op) ∧ u.cell? ⟨b, o + k * 4 + 1, none⟩ = some (.int .i64 n) ∧ u.cell? ⟨b, o + k * 4 + 2, none⟩ = some (.string s) ∧ u.cell? ⟨b, o + k * 4 + 3, none⟩ = some (.slice A1 kk.length cap1) ∧ u.cell? ⟨b', o' + k * 4, none⟩ = some (.int .i64 op') ∧ u.cell? ⟨b', o' + k * 4 + 1, none⟩ = some (.int .i64 n') ∧ u.cell? ⟨b', o' + k * 4 + 2, none⟩ = some (.string s') ∧ u.cell? ⟨b', o' + k * 4 + 3, none⟩ = some (.slice A2 kk'.length cap2)) (go_keep)
            (first | (go_at_call 11; (with_reducible refine Calls.mono CK.out ?_); rintro e w' ⟨rfl, hb1⟩; have g0 := (hb1.cell (p := ⟨b, o + k * 4, none⟩) hBr).trans c0; have g1 := (hb1.cell (p := ⟨b, o + k * 4 + 1, none⟩) hBr).trans c1; have g2 := (hb1.cell (p := ⟨b, o + k * 4 + 2, none⟩) hBr).trans c2; have g3 := (hb1.cell (p := ⟨b, o + k * 4 + 3, none⟩) hBr).trans c3; have q0 := (hb1.cell (p := ⟨b', o' + k * 4, none⟩) hBr').trans d0; have q1 := (hb1.cell (p := ⟨b', o' + k * 4 + 1, none⟩) hBr').trans d1; have q2 := (hb1.cell (p := ⟨b', o' + k * 4 + 2, none⟩) hBr').trans d2; have q3 := (hb1.cell (p := ⟨b', o' + k * 4 + 3, none⟩) hBr').trans d3))
          have hb2 := hb.drew.trans (hb1.mono hbs)
          clear hb hb1
          go_wp2_with fail
          go_roundw
          case rel => exact ⟨k + 1, by omega, by go_num, fun j h1 h2 hjk => by
            by_cases e : j = k
            · subst e; exact (HS.out.trans HD.out).trans HS'.out.symm
            · exact HA.out j h1 h2 (by omega), hb2⟩
          case measure => simp only [intOf]; omega
      · obtain rfl : k = ks.length := by omega
        go_wp2_with fail
        go_ret
        refine ⟨ret_bool ?_, hb⟩
        unfold eqLB
        rw [eq_comm, decide_eq_true_eq]
        exact List.ext_getElem HL.out (fun j h1 h2 => hall j h1 h2 h1)
  · have e1 : ((ks.length : Int) == (ls.length : Int)) = false := by rw [beq_eq_false_iff_ne]; omega
    have e2 : ((ks.length : Int) != (ls.length : Int)) = true := by rw [bne, e1]; rfl
    have HL := Lib.hid hl; clear hl
    go_enter Tryz.func31, Tryz.ntmps31
    go_wp2_with fail
    go_ret
    exact ⟨ret_bool (by rw [eqLB_no (fun e => HL.out (by rw [e]))]), Below.refl _ _⟩
theorem eqExpr_any (a : E) : EqE a := by
  refine E.ind (P := fun e => EqE e) ?_ a
  intro e ih
  exact eqExpr_of e (eqExprS_of _ fun k hk => ih k hk)
theorem eqExpr_self (e : E) (h : bulkE e ≤ 1048576) (A : Option Addr) (cap : Nat) (A' : Option Addr) (cap' : Nat) (w : World) (h1 : RdS w w.heap.size e.kids A) (h2 : RdS w w.heap.size e.kids A') :
    Calls Tryz.prog 11 #[exV e A cap, exV e A' cap'] w (BoolB true w) := by
  have := eqExpr_any e e A cap A' cap' w h1 h2 (by omega) (by omega)
  rw [eqB_yes] at this
  exact this
end Go.Proofs.YtkhcfhhejmkikaaGreatDoor

namespace Go.Proofs.YtkhcfhhejmkikaaGreatDoor
open Go.RowKit
set_option maxRecDepth 100000

/-- The first k Kids stand in a row of block g; what they lead to lies behind it. -/
def toPart (ks : List E) (g : Nat) (w : World) (k : Nat) (xs : List Value) : Prop := xs.length = ks.length * 4 ∧ ∀ j, (h : j < ks.length) → j < k →
  xs[j * 4]? = some (.int .i64 ks[j].op) ∧ xs[j * 4 + 1]? = some (.int .i64 ks[j].n) ∧ xs[j * 4 + 2]? = some (.string ks[j].name) ∧
    ∃ A, xs[j * 4 + 3]? = some (.slice A ks[j].kids.length ks[j].kids.length) ∧ PdS w (Between w (g + 1) w.heap.size) ks[j].kids A
theorem toPart.later {ks : List E} {g k : Nat} {w w' : World} {xs : List Value} (h : toPart ks g w k xs) (hb : Below w.heap.size w w') : toPart ks g w' k xs := by
  refine ⟨h.1, fun j hj hk => ?_⟩
  obtain ⟨a, b, c, A, d, e⟩ := h.2 j hj hk
  exact ⟨a, b, c, A, d, e.later hb (Nat.le_refl _) hb.size⟩
theorem toPart.set {ks : List E} {g k : Nat} {w : World} {xs : List Value} (h : toPart ks g w k xs) (o : Nat) (v : Value) : toPart ks g (w.setCell ⟨g, o, none⟩ v) k xs := by
  refine ⟨h.1, fun j hj hk => ?_⟩
  obtain ⟨a, b, c, A, d, e⟩ := h.2 j hj hk
  have e' := e.set o v
  have hz : (w.setCell ⟨g, o, none⟩ v).heap.size = w.heap.size := by simp
  rw [hz]
  exact ⟨a, b, c, A, d, e'⟩
theorem toPart.step {ks : List E} {g k : Nat} {w : World} {xs : List Value} (h : toPart ks g w k xs) (hk : k < ks.length) {op n : Int} {s : ByteArray} {kk : List E} (he : ks[k] = .mk op n s kk) {A : Option Addr} (hp : PdS w (Between w (g + 1) w.heap.size) kk A) :
    toPart ks g w (k + 1) ((((xs.set (k * 4) (.int .i64 op)).set (k * 4 + 1) (.int .i64 n)).set (k * 4 + 2) (.string s)).set (k * 4 + 3) (.slice A kk.length kk.length)) := by
  have hl := h.1
  obtain ⟨e0, e1, e2, e3⟩ : op = ks[k].op ∧ n = ks[k].n ∧ s = ks[k].name ∧ kk = ks[k].kids := by rw [he]; exact ⟨rfl, rfl, rfl, rfl⟩
  clear he
  subst e0 e1 e2 e3
  refine ⟨by simpa using hl, fun j hj hjk => ?_⟩
  by_cases e : j = k
  · subst e
    refine ⟨?_, ?_, ?_, A, ?_, hp⟩
    · rw [List.getElem?_set_ne (by omega), List.getElem?_set_ne (by omega), List.getElem?_set_ne (by omega), List.getElem?_set_self (by omega)]
    · rw [List.getElem?_set_ne (by omega), List.getElem?_set_ne (by omega), List.getElem?_set_self (by rw [List.length_set]; omega)]
    · rw [List.getElem?_set_ne (by omega), List.getElem?_set_self (by rw [List.length_set, List.length_set]; omega)]
    · rw [List.getElem?_set_self (by rw [List.length_set, List.length_set, List.length_set]; omega)]
  · obtain ⟨a, b, c, A', d, e'⟩ := h.2 j hj (by omega)
    refine ⟨?_, ?_, ?_, A', ?_, e'⟩
    all_goals
      rw [List.getElem?_set_ne (by omega), List.getElem?_set_ne (by omega), List.getElem?_set_ne (by omega), List.getElem?_set_ne (by omega)]
      assumption
theorem toPart.zero {ks : List E} {g : Nat} {w : World} {xs : List Value} (h : xs.length = ks.length * 4) : toPart ks g w 0 xs := ⟨h, fun j _ hj => absurd hj (by omega)⟩
theorem row_flat {w : World} {base : Nat} {e : TypeId} {size n cap g : Nat} {xs : List Value} (h : w.ownsRow base e size (.slice (some ⟨g, 0, none⟩) n cap) n xs) : Flat w g := by
  rcases h.2 with ⟨e1, _⟩ | ⟨g', cap', cur, e1, _, e2, _⟩
  · cases e1
  · injection e1 with e1
    injection e1 with e1
    injection e1 with e1
    subst e1
    exact ⟨_, _, e2⟩
theorem toPart.done {ks : List E} {g : Nat} {w : World} {xs : List Value} {base : Nat} {e : TypeId} {cap : Nat} (h : toPart ks g w ks.length xs) (ho : w.ownsRow base e 4 (.slice (some ⟨g, 0, none⟩) ks.length cap) ks.length xs) :
    PdS w (Between w g w.heap.size) ks (some ⟨g, 0, none⟩) := by
  have hg := ho.lt g rfl
  refine .inr ⟨g, 0, rfl, ⟨Nat.le_refl _, hg.2, row_flat ho⟩, PdC.mk fun i hi => ?_⟩
  obtain ⟨a, b, c, A, d, e'⟩ := h.2 i hi hi
  have hl := h.1
  have cell : ∀ j, i * 4 ≤ j → j < i * 4 + 4 → w.cell? ⟨g, 0 + j, none⟩ = xs[j]? := by
    intro j _ hj
    rw [Nat.zero_add]
    exact ho.cellAt j (by omega)
  refine ⟨⟨(cell _ (by omega) (by omega)).trans a, (cell _ (by omega) (by omega)).trans b, (cell _ (by omega) (by omega)).trans c⟩, A, _, (cell _ (by omega) (by omega)).trans d, ?_⟩
  exact e'.wide (Nat.le_succ _) (Nat.le_refl _)
def ToRet (e : E) (w : World) (ee : Ending) (w' : World) : Prop := (∃ A, ee = .returned (exV e A e.kids.length) ∧ PdS w' (Between w' w.heap.size w'.heap.size) e.kids A) ∧ Below w.heap.size w w'
def ToLRet (ks : List E) (w : World) (ee : Ending) (w' : World) : Prop := (∃ A, ee = .returned (.slice A ks.length ks.length) ∧ PdS w' (Between w' w.heap.size w'.heap.size) ks A) ∧ Below w.heap.size w w'
theorem exprInfo : (Tryz.prog.info? 24).map (fun i => (i.zero, i.size, i.bytes)) = some (some (.agg #[.int .i64 0, .int .i64 0, .string ⟨#[]⟩, .slice none 0 0]), 4, 56) := by kernel_rfl

/-- Three new blocks, of which two are known. -/
theorem three_blocks (w : World) (a : Obj) (z0 z1 z2 z3 v0 v1 v2 v3 : Value) (t t' : TypeId) (w1 : World)
    (hb : Below (((w.alloc a).alloc (.cells #[z0, z1, z2, z3] t)).alloc (.cells #[v0, v1, v2, v3] t')).heap.size (((w.alloc a).alloc (.cells #[z0, z1, z2, z3] t)).alloc (.cells #[v0, v1, v2, v3] t')) w1) :
    (w1.cell? ⟨w.heap.size + 1 + 1, 0, none⟩ = some v0 ∧ w1.cell? ⟨w.heap.size + 1 + 1, 1, none⟩ = some v1 ∧ w1.cell? ⟨w.heap.size + 1 + 1, 2, none⟩ = some v2 ∧ w1.cell? ⟨w.heap.size + 1 + 1, 3, none⟩ = some v3) ∧
    (w1.cell? ⟨w.heap.size + 1, 0, none⟩ = some z0 ∧ w1.cell? ⟨w.heap.size + 1, 1, none⟩ = some z1 ∧ w1.cell? ⟨w.heap.size + 1, 2, none⟩ = some z2 ∧ w1.cell? ⟨w.heap.size + 1, 3, none⟩ = some z3) ∧
    (∀ o, w1.frozen? ⟨w.heap.size + 1 + 1, o, none⟩ = false) ∧ (∀ o, w1.frozen? ⟨w.heap.size + 1, o, none⟩ = false) ∧ w.heap.size + 1 + 1 < w1.heap.size ∧ Below w.heap.size w w1 := by
  have s1 : (w.alloc a).heap.size = w.heap.size + 1 := World.size_alloc _ _
  have s2 : ((w.alloc a).alloc (.cells #[z0, z1, z2, z3] t)).heap.size = w.heap.size + 1 + 1 := by rw [World.size_alloc, s1]
  have s3 : (((w.alloc a).alloc (.cells #[z0, z1, z2, z3] t)).alloc (.cells #[v0, v1, v2, v3] t')).heap.size = w.heap.size + 1 + 1 + 1 := by rw [World.size_alloc, s2]
  have hz := hb.size
  rw [s3] at hz
  have hal := (Below.refl _ ((w.alloc a).alloc (.cells #[z0, z1, z2, z3] t))).alloc (Nat.le_refl _) (.cells #[v0, v1, v2, v3] t')
  have A := fun k => alloc_cell ((w.alloc a).alloc (.cells #[z0, z1, z2, z3] t)) #[v0, v1, v2, v3] t' (0, 0) k
  have Z := fun k => alloc_cell (w.alloc a) #[z0, z1, z2, z3] t (0, 0) k
  have AF := fun k => alloc_frozen ((w.alloc a).alloc (.cells #[z0, z1, z2, z3] t)) #[v0, v1, v2, v3] t' k
  have ZF := fun k => alloc_frozen (w.alloc a) #[z0, z1, z2, z3] t k
  rw [s2] at A AF
  rw [s1] at Z ZF
  have h1 : ∀ k, w1.cell? ⟨w.heap.size + 1 + 1, k, none⟩ = _ := fun k => (hb.cell (p := ⟨w.heap.size + 1 + 1, k, none⟩) (by show w.heap.size + 1 + 1 < _; rw [s3]; omega)).trans (A k)
  have h2 : ∀ k, w1.cell? ⟨w.heap.size + 1, k, none⟩ = _ := fun k => ((hb.cell (p := ⟨w.heap.size + 1, k, none⟩) (by show w.heap.size + 1 < _; rw [s3]; omega)).trans (hal.cell (p := ⟨w.heap.size + 1, k, none⟩) (by show w.heap.size + 1 < _; rw [s2]; omega))).trans (Z k)
  refine ⟨⟨h1 0, h1 1, h1 2, h1 3⟩, ⟨h2 0, h2 1, h2 2, h2 3⟩, fun k => (hb.frozen (p := ⟨w.heap.size + 1 + 1, k, none⟩) (by show w.heap.size + 1 + 1 < _; rw [s3]; omega)).trans (AF k), fun k => ((hb.frozen (p := ⟨w.heap.size + 1, k, none⟩) (by show w.heap.size + 1 < _; rw [s3]; omega)).trans (hal.frozen (p := ⟨w.heap.size + 1, k, none⟩) (by show w.heap.size + 1 < _; rw [s2]; omega))).trans (ZF k), by omega, ?_⟩
  exact ((((Below.refl _ _).alloc (Nat.le_refl _) _).alloc (by rw [s1]; omega) _).alloc (by rw [s2]; omega) _).trans (hb.mono (by rw [s3]; omega))
end Go.Proofs.YtkhcfhhejmkikaaGreatDoor
