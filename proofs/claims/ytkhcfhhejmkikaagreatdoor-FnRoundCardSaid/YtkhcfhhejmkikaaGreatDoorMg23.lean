/-
  The program's cursor over words: take, takeOp.
-/
import Derived.Test.YtkhcfhhejmkikaaGreatDoorMg4
import Derived.Test.YtkhcfhhejmkikaaGreatDoorMg7
import Derived.Test.YtkhcfhhejmkikaaGreatDoorMg10
import Derived.Test.YtkhcfhhejmkikaaGreatDoorMg18
import Derived.Deep.QuietTactic
import Derived.BigQuiet
namespace Go.Proofs.YtkhcfhhejmkikaaGreatDoor

theorem isT_drop (ws : List W) (k : Nat) (t : ByteArray) : isT (ws.drop k) t = if h : k < ws.length then decide (ws[k].2 = t) else false := by
  by_cases h : k < ws.length
  · rw [dif_pos h, List.drop_eq_getElem_cons h]; rfl
  · rw [dif_neg h, List.drop_eq_nil_of_le (by omega)]; rfl
theorem isT_lt {ws : List W} {k : Nat} {t : ByteArray} (h : isT (ws.drop k) t = true) : ∃ h : k < ws.length, ws[k].2 = t := by
  rw [isT_drop] at h
  split at h
  · rename_i hk; exact ⟨hk, of_decide_eq_true h⟩
  · cases h
theorem tail_drop (ws : List W) (k : Nat) : (ws.drop k).tail = ws.drop (k + 1) := by rw [List.tail_drop]
theorem suf_drop {r ws : List W} (h : r <:+ ws) : r = ws.drop (ws.length - r.length) := by
  obtain ⟨t, rfl⟩ := h
  rw [List.length_append, show t.length + r.length - r.length = t.length by omega, List.drop_left]
/-- What is left behind a place is what is left from a later place on. -/
theorem suf_place {r ws : List W} {k : Nat} (h : r <:+ ws.drop k) (hl : r.length < (ws.drop k).length) : ∃ k', k < k' ∧ k' ≤ ws.length ∧ r = ws.drop k' ∧ ws.length - r.length = k' := by
  have h2 := suf_drop (h.trans (List.drop_suffix _ _))
  rw [List.length_drop] at hl
  exact ⟨ws.length - r.length, by omega, by omega, h2, rfl⟩
def hitO (l : Nat) (ws : List W) (op : Int) : Bool := decide (lvl op = l) && isT ws (sgnS op)
theorem opAt_first {l : Nat} {ws : List W} {k : Int} (h3 : 3 ≤ k) (h10 : k ≤ 10) (hno : ∀ j : Int, 3 ≤ j → j < k → hitO l ws j = false) (hp : hitO l ws k = true) : opAt l ws = some k := by
  show List.find? (hitO l ws) [3, 4, 5, 6, 7, 8, 9, 10] = some k
  have hk : k = 3 ∨ k = 4 ∨ k = 5 ∨ k = 6 ∨ k = 7 ∨ k = 8 ∨ k = 9 ∨ k = 10 := by omega
  rcases hk with rfl | rfl | rfl | rfl | rfl | rfl | rfl | rfl
  · simp [hp]
  · simp [hp, hno 3 (by omega) (by omega)]
  · simp [hp, hno 3 (by omega) (by omega), hno 4 (by omega) (by omega)]
  · simp [hp, hno 3 (by omega) (by omega), hno 4 (by omega) (by omega), hno 5 (by omega) (by omega)]
  · simp [hp, hno 3 (by omega) (by omega), hno 4 (by omega) (by omega), hno 5 (by omega) (by omega), hno 6 (by omega) (by omega)]
  · simp [hp, hno 3 (by omega) (by omega), hno 4 (by omega) (by omega), hno 5 (by omega) (by omega), hno 6 (by omega) (by omega), hno 7 (by omega) (by omega)]
  · simp [hp, hno 3 (by omega) (by omega), hno 4 (by omega) (by omega), hno 5 (by omega) (by omega), hno 6 (by omega) (by omega), hno 7 (by omega) (by omega), hno 8 (by omega) (by omega)]
  · simp [hp, hno 3 (by omega) (by omega), hno 4 (by omega) (by omega), hno 5 (by omega) (by omega), hno 6 (by omega) (by omega), hno 7 (by omega) (by omega), hno 8 (by omega) (by omega), hno 9 (by omega) (by omega)]
theorem opAt_no {l : Nat} {ws : List W} (hno : ∀ j : Int, 3 ≤ j → j < 11 → hitO l ws j = false) : opAt l ws = none := by
  show List.find? (hitO l ws) [3, 4, 5, 6, 7, 8, 9, 10] = none
  simp [hno 3 (by omega) (by omega), hno 4 (by omega) (by omega), hno 5 (by omega) (by omega), hno 6 (by omega) (by omega), hno 7 (by omega) (by omega), hno 8 (by omega) (by omega), hno 9 (by omega) (by omega), hno 10 (by omega) (by omega)]
theorem hit_step {l : Nat} {ws : List W} {k : Int} (hno : ∀ j : Int, 3 ≤ j → j < k → hitO l ws j = false) (h : hitO l ws k = false) : ∀ j : Int, 3 ≤ j → j < k + 1 → hitO l ws j = false := by
  intro j h1 h2
  by_cases e : j = k
  · subst e; exact h
  · exact hno j h1 (by omega)
/-- The op of a level that stands next, or 0. -/
def opN (l : Nat) (ws : List W) : Int := (opAt l ws).getD 0
theorem aheadAt_eq (ws : List W) : aheadAt ws = if isT ws (sgnS 11) = true then some 11 else if isT ws (sgnS 12) = true then some 12 else none := by
  show List.find? (fun op => isT ws (sgnS op)) [11, 12] = _
  cases h1 : isT ws (sgnS 11)
  · cases h2 : isT ws (sgnS 12) <;> simp [List.find?, h1, h2]
  · simp [List.find?, h1]

/-- The index behind what was read, or -1. -/
def nextI {α : Type} (n : Nat) : Option (α × List W) → Int
  | none => -1
  | some p => ((n - p.2.length : Nat) : Int)
theorem nextI_bd {α : Type} (n : Nat) (r : Option (α × List W)) : -1 ≤ nextI n r ∧ nextI n r ≤ n := by
  cases r with
  | none => show -1 ≤ (-1 : Int) ∧ (-1 : Int) ≤ n; omega
  | some p => show -1 ≤ ((n - p.2.length : Nat) : Int) ∧ ((n - p.2.length : Nat) : Int) ≤ n; omega
theorem nextI_at {α : Type} {ws : List W} (x : α) {k : Nat} (hk : k ≤ ws.length) : nextI ws.length (some (x, ws.drop k)) = (k : Int) := by
  show ((ws.length - (ws.drop k).length : Nat) : Int) = _
  rw [List.length_drop]; omega

/-- What a read expression holds at most. -/
structure RdBulk (nm : ByteArray → Int) (m : Nat) : Prop where
  L : ∀ l ws e r, (∀ x ∈ ws, x.2.size ≤ 4) → rdL nm m l ws = some (e, r) → r <:+ ws ∧ bulkE e + 1 + 6 * r.length ≤ 6 * ws.length
  O : ∀ l x ws e r, (∀ x ∈ ws, x.2.size ≤ 4) → rdO nm m l x ws = some (e, r) → r <:+ ws ∧ bulkE e + 6 * r.length ≤ bulkE x + 6 * ws.length
  T : ∀ ws e r, (∀ x ∈ ws, x.2.size ≤ 4) → rdT nm m ws = some (e, r) → r <:+ ws ∧ bulkE e + 1 + 6 * r.length ≤ 6 * ws.length
  W : ∀ ws e r, (∀ x ∈ ws, x.2.size ≤ 4) → rdW nm m ws = some (e, r) → r <:+ ws ∧ bulkE e + 1 + 6 * r.length ≤ 6 * ws.length
  C : ∀ ws ks r, (∀ x ∈ ws, x.2.size ≤ 4) → rdC nm m ws = some (ks, r) → r <:+ ws ∧ bulkL ks + 6 * r.length ≤ 6 * ws.length
  K : ∀ acc ws ks r, (∀ x ∈ ws, x.2.size ≤ 4) → rdK nm m acc ws = some (ks, r) → r <:+ ws ∧ bulkL ks + 6 * r.length ≤ bulkL acc + 6 * ws.length
theorem suf_le {r ws : List W} (h : r <:+ ws) (hs : ∀ x ∈ ws, x.2.size ≤ 4) : ∀ x ∈ r, x.2.size ≤ 4 := fun x hx => hs x (h.subset hx)
theorem bulkE_bin (op : Int) (x y : E) : bulkE (binE op x y) = bulkE x + bulkE y + 2 := by show 0 + (1 + bulkE x + (1 + bulkE y + 0)) = _; omega
theorem bulkE_un (op : Int) (x : E) : bulkE (unE op x) = bulkE x + 1 := by show 0 + (1 + bulkE x + 0) = _; omega
theorem bulkE_call (s : ByteArray) (ks : List E) : bulkE (callE s ks) = s.size + bulkL ks := rfl
theorem rd_bulk (nm : ByteArray → Int) : ∀ m, RdBulk nm m
  | 0 => ⟨fun _ _ _ _ _ h => (by cases h), fun _ _ _ _ _ _ h => (by cases h), fun _ _ _ _ h => (by cases h), fun _ _ _ _ h => (by cases h), fun _ _ _ _ h => (by cases h), fun _ _ _ _ _ h => (by cases h)⟩
  | m + 1 => by
    have ih := rd_bulk nm m
    refine ⟨?_, ?_, ?_, ?_, ?_, ?_⟩
    · intro l ws e r hs h
      have h' : (if 4 < l then rdT nm m ws else (rdL nm m (l + 1) ws).bind fun p => rdO nm m l p.1 p.2) = some (e, r) := h
      split at h'
      · exact ih.T _ _ _ hs h'
      · rw [Option.bind_eq_some_iff] at h'
        obtain ⟨⟨x, r1⟩, h1, h2⟩ := h'
        have a := ih.L _ _ _ _ hs h1
        have b := ih.O _ _ _ _ _ (suf_le a.1 hs) h2
        dsimp only at b
        exact ⟨b.1.trans a.1, by omega⟩
    · intro l x ws e r hs h
      have h' : (match opAt l ws with
        | none => some (x, ws)
        | some op => (rdL nm m (l + 1) ws.tail).bind fun p => rdO nm m l (binE op x p.1) p.2) = some (e, r) := h
      split at h'
      · injection h' with h'; injection h' with h1 h2; subst h1; subst h2
        exact ⟨List.suffix_refl _, by omega⟩
      · rename_i op hop
        obtain ⟨o1, o2, o3, o4⟩ := opAt_some hop
        obtain ⟨w, ws', rfl, ow⟩ := isT_cons o4
        have hs' : ∀ x ∈ ws', x.2.size ≤ 4 := fun x hx => hs x (by simp [hx])
        rw [Option.bind_eq_some_iff] at h'
        obtain ⟨⟨y, r1⟩, h1, h2⟩ := h'
        rw [List.tail_cons] at h1
        have a := ih.L _ _ _ _ hs' h1
        have b := ih.O _ _ _ _ _ (suf_le a.1 hs') h2
        dsimp only at b
        rw [bulkE_bin] at b
        rw [List.length_cons]
        exact ⟨(b.1.trans a.1).trans (List.suffix_cons _ _), by omega⟩
    · intro ws e r hs h
      have h' : (match aheadAt ws with
        | some op => (rdT nm m ws.tail).bind fun p => some (unE op p.1, p.2)
        | none => rdW nm m ws) = some (e, r) := h
      split at h'
      · rename_i op hop
        obtain ⟨o1, o4⟩ := aheadAt_some hop
        obtain ⟨w, ws', rfl, ow⟩ := isT_cons o4
        have hs' : ∀ x ∈ ws', x.2.size ≤ 4 := fun x hx => hs x (by simp [hx])
        rw [Option.bind_eq_some_iff] at h'
        obtain ⟨⟨x, r1⟩, h1, h2⟩ := h'
        injection h2 with h2; injection h2 with h2 h3; subst h2; subst h3
        rw [List.tail_cons] at h1
        have a := ih.T _ _ _ hs' h1
        dsimp only at a ⊢
        rw [bulkE_un, List.length_cons]
        exact ⟨a.1.trans (List.suffix_cons _ _), by omega⟩
      · exact ih.W _ _ _ hs h'
    · intro ws e r hs h
      cases ws with
      | nil => cases h
      | cons w ws =>
        have hs' : ∀ x ∈ ws, x.2.size ≤ 4 := fun x hx => hs x (by simp [hx])
        have hw := hs w (by simp)
        have h' : (if w.2 = lpS then (rdL nm m 1 ws).bind fun p => if isT p.2 rpS = true then some (p.1, p.2.tail) else none
          else if w.1 = 2 then some (numE (nm w.2), ws)
          else if w.1 = 1 then (if isT ws lpS = true then (rdC nm m ws.tail).bind fun p => some (callE w.2 p.1, p.2) else some (varE w.2, ws))
          else none) = some (e, r) := h
        split at h'
        · rw [Option.bind_eq_some_iff] at h'
          obtain ⟨⟨x, r1⟩, h1, h2⟩ := h'
          have a := ih.L _ _ _ _ hs' h1
          dsimp only at h2 a
          split at h2
          · rename_i ht
            obtain ⟨w2, r2, rfl, _⟩ := isT_cons ht
            injection h2 with h2; injection h2 with h2 h3; subst h2; subst h3
            rw [List.length_cons] at a
            rw [List.tail_cons, List.length_cons]
            exact ⟨((List.suffix_cons _ _).trans a.1).trans (List.suffix_cons _ _), by omega⟩
          · cases h2
        · split at h'
          · injection h' with h'; injection h' with h1 h2; subst h1; subst h2
            refine ⟨List.suffix_cons _ _, ?_⟩
            rw [List.length_cons]; show 0 + 0 + 1 + _ ≤ _; omega
          · split at h'
            · split at h'
              · rename_i ht
                obtain ⟨w2, r2, rfl, _⟩ := isT_cons ht
                rw [Option.bind_eq_some_iff] at h'
                obtain ⟨⟨ks, r1⟩, h1, h2⟩ := h'
                injection h2 with h2; injection h2 with h2 h3; subst h2; subst h3
                rw [List.tail_cons] at h1
                have a := ih.C _ _ _ (fun x hx => hs' x (by simp [hx])) h1
                dsimp only at a ⊢
                rw [bulkE_call, List.length_cons, List.length_cons]
                exact ⟨(a.1.trans (List.suffix_cons _ _)).trans (List.suffix_cons _ _), by omega⟩
              · injection h' with h'; injection h' with h1 h2; subst h1; subst h2
                refine ⟨List.suffix_cons _ _, ?_⟩
                rw [List.length_cons]; show w.2.size + 0 + 1 + _ ≤ _; omega
            · cases h'
    · intro ws ks r hs h
      have h' : (if isT ws rpS = true then some ([], ws.tail) else rdK nm m [] ws) = some (ks, r) := h
      split at h'
      · rename_i ht
        obtain ⟨w2, r2, rfl, _⟩ := isT_cons ht
        injection h' with h'; injection h' with h1 h2; subst h1; subst h2
        rw [List.tail_cons, List.length_cons]
        exact ⟨List.suffix_cons _ _, by show 0 + _ ≤ _; omega⟩
      · have a := ih.K _ _ _ _ hs h'
        have e1 : bulkL [] = 0 := rfl
        exact ⟨a.1, by omega⟩
    · intro acc ws ks r hs h
      have h' : ((rdL nm m 1 ws).bind fun p =>
        if isT p.2 rpS = true then some (acc ++ [p.1], p.2.tail)
        else if isT p.2 cmS = true then rdK nm m (acc ++ [p.1]) p.2.tail else none) = some (ks, r) := h
      rw [Option.bind_eq_some_iff] at h'
      obtain ⟨⟨x, r1⟩, h1, h2⟩ := h'
      have a := ih.L _ _ _ _ hs h1
      have hx : bulkL (acc ++ [x]) = bulkL acc + (1 + bulkE x + 0) := by rw [bulkL_app]; rfl
      dsimp only at h2 a
      split at h2
      · rename_i ht
        obtain ⟨w2, r2, rfl, _⟩ := isT_cons ht
        injection h2 with h2; injection h2 with h2 h3; subst h2; subst h3
        rw [List.length_cons] at a
        rw [List.tail_cons, hx]
        exact ⟨(List.suffix_cons _ _).trans a.1, by omega⟩
      · split at h2
        · rename_i ht
          obtain ⟨w2, r2, rfl, _⟩ := isT_cons ht
          rw [List.tail_cons] at h2
          have hs2 := suf_le a.1 hs
          have b := ih.K _ _ _ _ (fun x hx => hs2 x (by simp [hx])) h2
          rw [List.length_cons] at a
          rw [hx] at b
          exact ⟨(b.1.trans (List.suffix_cons _ _)).trans a.1, by omega⟩
        · cases h2
end Go.Proofs.YtkhcfhhejmkikaaGreatDoor

namespace Go.Proofs.YtkhcfhhejmkikaaGreatDoor
open Go.RowKit
set_option maxRecDepth 100000

/-- A cursor at a place of a list of words. -/
structure Cu (w : World) (R : Nat) (A : Option Addr) (cap : Nat) (ws : List W) (k : Nat) : Prop where
  wd : Words w R A ws
  lt : R < w.heap.size
  c0 : w.cell? ⟨R, 0, none⟩ = some (.slice A ws.length cap)
  c1 : w.cell? ⟨R, 1, none⟩ = some (.int .i64 (k : Int))
  f1 : w.frozen? ⟨R, 1, none⟩ = false
  le : k ≤ ws.length
theorem Cu.below {w w' : World} {R cap k : Nat} {A : Option Addr} {ws : List W} (h : Cu w R A cap ws k) (hb : Below w.heap.size w w') : Cu w' R A cap ws k :=
  ⟨h.wd.below (hb.mono (Nat.le_of_lt h.lt)), Nat.lt_of_lt_of_le h.lt hb.size, (hb.cell (p := ⟨R, 0, none⟩) h.lt).trans h.c0, (hb.cell (p := ⟨R, 1, none⟩) h.lt).trans h.c1, (hb.frozen (p := ⟨R, 1, none⟩) h.lt).trans h.f1, h.le⟩
theorem Cu.drew {w : World} {R cap k : Nat} {A : Option Addr} {ws : List W} (h : Cu w R A cap ws k) : Cu w.drew R A cap ws k := h.below (Below.refl _ _).drew
theorem Cu.drewN {w : World} {R cap k : Nat} {A : Option Addr} {ws : List W} (h : Cu w R A cap ws k) (n : Nat) : Cu (w.drewN n) R A cap ws k := h.below (below_drewN (Below.refl _ _) n)
theorem Cu.next {w : World} {R cap k k' : Nat} {A : Option Addr} {ws : List W} (h : Cu w R A cap ws k) (hk : k' ≤ ws.length) : Cu (w.setCell ⟨R, 1, none⟩ (.int .i64 (k' : Int))) R A cap ws k' :=
  ⟨h.wd.below ((Below.refl R w).setCell (p := ⟨R, 1, none⟩) (Nat.le_refl _) _), by simpa using h.lt, by rw [World.cell?_setCell_other _ _ _ _ (by simp)]; exact h.c0, World.cell?_setCell_same _ _ _ h.c1, by rw [World.frozen?_setCell]; exact h.f1, hk⟩
theorem touch_next (w : World) (R : Nat) (v : Value) : Touch R w (w.setCell ⟨R, 1, none⟩ v) := by
  refine ⟨(Below.refl R w).setCell (p := ⟨R, 1, none⟩) (Nat.le_refl _) _, fun b h1 h2 => ?_⟩
  show (w.heap.modify R _)[b]? = _
  rw [Array.getElem?_modify, if_neg (by omega)]
set_option maxHeartbeats 1000000 in
theorem atEnd_any (R cap k : Nat) (A : Option Addr) (ws : List W) (w : World) (h : Cu w R A cap ws k) :
    Calls Tryz.prog 30 #[.pointer (some ⟨R, 0, none⟩)] w fun ee w' => ee = .returned (.bool (decide (k = ws.length))) ∧ w' = w.drew := by
  have c0 := h.c0
  have c1 := h.c1
  have hk := h.le
  clear h
  by_cases he : k = ws.length
  · have q1 : ((k : Int) == (ws.length : Int)) = true := beq_yes (by omega)
    rw [decide_eq_true he]
    clear he
    go_enter Tryz.func30, Tryz.ntmps30
    go_wp2_with fail
    go_region
    all_goals
      go_wp2_with fail
      go_ret
      exact ⟨rfl, rfl⟩
  · have q1 : ((k : Int) == (ws.length : Int)) = false := beq_no (by omega)
    rw [decide_eq_false he]
    clear he
    go_enter Tryz.func30, Tryz.ntmps30
    go_wp2_with fail
    go_region
    all_goals
      go_wp2_with fail
      go_ret
      exact ⟨rfl, rfl⟩
/-- A move of a cursor: of its block one cell turns, and nothing else but new ones. -/
def Mv (R : Nat) (w w' : World) : Prop := Touch R w w' ∧ ∀ o, o ≠ 1 → w'.cell? ⟨R, o, none⟩ = w.cell? ⟨R, o, none⟩
theorem Mv.trans {R : Nat} {a b c : World} (h : Mv R a b) (k : Mv R b c) : Mv R a c := ⟨h.1.trans k.1, fun o ho => (k.2 o ho).trans (h.2 o ho)⟩
theorem Mv.of_below {R : Nat} {a b : World} (h : Below a.heap.size a b) (hR : R < a.heap.size) : Mv R a b := ⟨Touch.of_below h hR, fun o _ => h.cell (p := ⟨R, o, none⟩) hR⟩
theorem Mv.next (w : World) (R : Nat) (v : Value) : Mv R w (w.setCell ⟨R, 1, none⟩ v) := ⟨touch_next w R v, fun o ho => World.cell?_setCell_other _ _ _ _ (by intro e; injection e with _ e; omega)⟩
/-- Taking a text, or not. -/
def TookT (R cap k : Nat) (A : Option Addr) (ws : List W) (t : ByteArray) (w : World) (ee : Ending) (w' : World) : Prop :=
  ee = .returned (.bool (isT (ws.drop k) t)) ∧ Mv R w w' ∧ Cu w' R A cap ws (if isT (ws.drop k) t = true then k + 1 else k)
set_option maxHeartbeats 2000000 in
theorem takeText_any (R cap k : Nat) (A : Option Addr) (ws : List W) (t : ByteArray) (w : World) (h : Cu w R A cap ws k) (hn : ws.length ≤ 600) :
    Calls Tryz.prog 100 #[.pointer (some ⟨R, 0, none⟩), .string t] w (TookT R cap k A ws t w) := by
  have AE := fun n => Lib.hid (atEnd_any R cap k A ws (w.drewN n) (h.drewN n))
  have HC := Lib.hid h
  by_cases hk : k < ws.length
  · obtain ⟨b, o, rfl, hB, d1, d2⟩ := h.wd.at_ hk
    have c0 := h.c0
    have c1 := h.c1
    have f1 := h.f1
    have e0 : decide (k = ws.length) = false := decide_eq_false (by omega)
    rw [e0] at AE
    have HT := Lib.hid (show isT (ws.drop k) t = decide (ws[k].2 = t) by rw [isT_drop, dif_pos hk])
    have hk1 : (0 : Int) ≤ (k : Int) := by omega
    have hk2 : (k : Int) < (ws.length : Int) := by omega
    have hk3 : k ≤ 600 := by omega
    clear h e0
    by_cases he : ws[k].2 = t
    · have q1 := str_eq_true he
      have q2 : (ws[k].2.toList != t.toList) = false := by rw [bne, q1]; rfl
      rw [decide_eq_true he] at HT
      clear he
      generalize ws[k].2 = s at *
      go_enter Tryz.func100, Tryz.ntmps100
      go_wp2_with fail
      go_quiet (first | (go_at_call 30; exact Calls.quiet_of ((AE _).out.mono fun _ _ h => ⟨h.1, 1, h.2⟩)))
      go_wp2_with fail
      go_ret
      refine ⟨by rw [HT.out]; rfl, ?_, ?_⟩
      · exact (Mv.of_below (below_drewN (Below.refl _ w) _) HC.out.lt).trans (Mv.next _ _ _)
      · rw [HT.out, if_pos rfl]
        exact (HC.out.drewN _).next hk
    · have q1 := str_eq_false he
      have q2 : (ws[k].2.toList != t.toList) = true := by rw [bne, q1]; rfl
      rw [decide_eq_false he] at HT
      clear he
      generalize ws[k].2 = s at *
      go_enter Tryz.func100, Tryz.ntmps100
      go_wp2_with fail
      go_quiet (first | (go_at_call 30; exact Calls.quiet_of ((AE _).out.mono fun _ _ h => ⟨h.1, 1, h.2⟩)))
      go_wp2_with fail
      go_ret
      refine ⟨by rw [HT.out]; rfl, ?_, ?_⟩
      · exact Mv.of_below (below_drewN (Below.refl _ w) _) HC.out.lt
      · rw [HT.out, if_neg (by simp)]; exact HC.out.drewN _
  · have e0 : decide (k = ws.length) = true := decide_eq_true (by have := h.le; omega)
    rw [e0] at AE
    have HT := Lib.hid (show isT (ws.drop k) t = false by rw [isT_drop, dif_neg hk])
    clear h e0
    go_enter Tryz.func100, Tryz.ntmps100
    go_wp2_with fail
    go_quiet (first | (go_at_call 30; exact Calls.quiet_of ((AE _).out.mono fun _ _ h => ⟨h.1, 1, h.2⟩)))
    go_wp2_with fail
    go_ret
    refine ⟨by rw [HT.out]; rfl, ?_, ?_⟩
    · exact Mv.of_below (below_drewN (Below.refl _ w) _) HC.out.lt
    · rw [HT.out, if_neg (by simp)]; exact HC.out.drewN _
end Go.Proofs.YtkhcfhhejmkikaaGreatDoor

namespace Go.Proofs.YtkhcfhhejmkikaaGreatDoor
open Go.RowKit
set_option maxRecDepth 100000

/-- Taking an op of a level, or none. -/
def TookO (R cap k l : Nat) (A : Option Addr) (ws : List W) (w : World) (ee : Ending) (w' : World) : Prop :=
  (∃ op : Int, 3 ≤ op ∧ op ≤ 12 ∧ ee = .returned (.tuple #[.int .i64 op, .bool true]) ∧ hitO l (ws.drop k) op = true ∧ (∀ j : Int, 3 ≤ j → j < op → hitO l (ws.drop k) j = false) ∧ Mv R w w' ∧ Cu w' R A cap ws (k + 1)) ∨
  (ee = .returned (.tuple #[.int .i64 0, .bool false]) ∧ (∀ j : Int, 3 ≤ j → j < 13 → hitO l (ws.drop k) j = false) ∧ Mv R w w' ∧ Cu w' R A cap ws k)
set_option maxHeartbeats 4000000 in
theorem takeOp_any (R cap k l : Nat) (A : Option Addr) (ws : List W) (w : World) (h : Cu w R A cap ws k) (hn : ws.length ≤ 600) (T : Sgn w) :
    Calls Tryz.prog 99 #[.pointer (some ⟨R, 0, none⟩), .int .i64 (l : Int)] w (TookO R cap k l A ws w) := by
  obtain ⟨t, fr, hk⟩ := T.row
  have HC := Lib.hid h
  have TT := fun s W hW => Lib.hid (takeText_any R cap k A ws s W hW hn)
  clear T h
  go_enter Tryz.func99, Tryz.ntmps99
  go_wp2_with (with_reducible refine wpList_load_row rfl _ _ rfl _ rfl _ _ _ _ hk Tryz.underlying141 rfl (by kernel_rfl) ?_)
  clear hk
  have hidx := sgTab_at
  unfold sgTab at hidx
  generalize Value.agg sgCells.toArray = KT at *
  have HI := Lib.hid hidx
  clear hidx
  go_loopw [9] (fun i wr => ∃ q : Nat, q ≤ 10 ∧ i = .int .i64 q ∧ (∀ j : Int, 3 ≤ j → j < q + 3 → hitO l (ws.drop k) j = false) ∧ Mv R w wr ∧ Cu wr R A cap ws k) (fun i _ => 10 - (intOf i).toNat)
  case atStart => exact ⟨0, Nat.zero_le _, rfl, fun j h1 h2 => by omega, ⟨Touch.refl _ _, fun _ _ => rfl⟩, HC.out⟩
  case round =>
    obtain ⟨q, hq, rfl, hno, hm, hc⟩ := hrel
    have HN := Lib.hid hno
    have HM := Lib.hid hm
    clear hno hm
    by_cases hlt : q < 10
    · have hi := HI.out q hlt wr
      unfold sgRow at hi
      have hop1 : ((q + 3 : Nat) : Int) = (q : Int) + 3 := by omega
      have HH := Lib.hid (show hitO l (ws.drop k) ((q + 3 : Nat) : Int) = (decide (lvl ((q + 3 : Nat) : Int) = l) && isT (ws.drop k) (sgnS ((q + 3 : Nat) : Int))) from rfl)
      have hal : Below wr.heap.size wr (wr.alloc (.cells #[.int .i64 ((q + 3 : Nat) : Int), .string (sgnS ((q + 3 : Nat) : Int)), .int .i64 ((lvl ((q + 3 : Nat) : Int) : Nat) : Int)] 98)) := (Below.refl _ _).alloc (Nat.le_refl _) _
      have HCA := Lib.hid (hc.below hal)
      have HMA := Lib.hid (HM.out.trans (Mv.of_below hal hc.lt))
      have TT1 := TT (sgnS ((q + 3 : Nat) : Int)) _ HCA.out
      have j0 : (wr.alloc (.cells #[.int .i64 ((q + 3 : Nat) : Int), .string (sgnS ((q + 3 : Nat) : Int)), .int .i64 ((lvl ((q + 3 : Nat) : Int) : Nat) : Int)] 98)).cell? ⟨wr.heap.size, 0, none⟩ = some (.int .i64 ((q + 3 : Nat) : Int)) := alloc_cell wr _ _ (0, 0) 0
      have hbl : R < wr.heap.size := hc.lt
      have hbz : wr.heap.size < (wr.alloc (.cells #[.int .i64 ((q + 3 : Nat) : Int), .string (sgnS ((q + 3 : Nat) : Int)), .int .i64 ((lvl ((q + 3 : Nat) : Int) : Nat) : Int)] 98)).heap.size := by rw [World.size_alloc]; omega
      have J0 := Lib.hid j0
      clear j0
      have hop3 : (3 : Int) ≤ ((q + 3 : Nat) : Int) := by omega
      have hop4 : ((q + 3 : Nat) : Int) ≤ 12 := by omega
      clear hal TT
      by_cases hl : lvl ((q + 3 : Nat) : Int) = l
      · rw [decide_eq_true hl, Bool.true_and] at HH
        have q1 : (((lvl ((q + 3 : Nat) : Int) : Nat) : Int) == (l : Int)) = true := beq_yes (by omega)
        clear hl
        generalize sgnS ((q + 3 : Nat) : Int) = s at *
        generalize lvl ((q + 3 : Nat) : Int) = lv at *
        generalize hg : ((q + 3 : Nat) : Int) = op at *
        have HG := Lib.hid hg
        clear hg hop1
        go_wp2_with fail
        (with_reducible refine Calls.mono TT1.out ?_)
        rintro ee w2 ⟨rfl, hm2, hc2⟩
        cases hb : isT (ws.drop k) s
        · rw [hb] at HH hc2
          have HF := Lib.hid HH.out
          have HM2 := Lib.hid (HMA.out.trans hm2)
          clear HMA hm2 HH hb
          go_wp2_with fail
          go_roundw
          case rel => exact ⟨q + 1, by omega, by go_num, fun j h1 h2 => by
            by_cases e : j = op
            · rw [e]; exact HF.out
            · have := HG.out; exact HN.out j h1 (by omega), HM2.out, hc2⟩
          case measure => simp only [intOf]; omega
        · rw [hb] at HH hc2
          have HF := Lib.hid HH.out
          have HM2 := Lib.hid (HMA.out.trans hm2)
          have j2 := (hm2.1.cell (o := 0) hbl hbz).trans J0.out
          clear HMA hm2 HH hb
          go_wp2_with fail
          go_ret2
          exact .inl ⟨op, hop3, hop4, rfl, HF.out, fun j h1 h2 => HN.out j h1 (by have := HG.out; omega), HM2.out, hc2⟩
      · have HF := Lib.hid (show hitO l (ws.drop k) ((q + 3 : Nat) : Int) = false by rw [HH.out, decide_eq_false hl]; rfl)
        have q1 : (((lvl ((q + 3 : Nat) : Int) : Nat) : Int) == (l : Int)) = false := beq_no (by omega)
        clear hl TT1 HH
        generalize sgnS ((q + 3 : Nat) : Int) = s at *
        generalize lvl ((q + 3 : Nat) : Int) = lv at *
        generalize hg : ((q + 3 : Nat) : Int) = op at *
        have HG := Lib.hid hg
        clear hg hop1
        go_wp2_with fail
        go_roundw
        case rel => exact ⟨q + 1, by omega, by go_num, fun j h1 h2 => by
          by_cases e : j = op
          · rw [e]; exact HF.out
          · have := HG.out; exact HN.out j h1 (by omega), HMA.out, HCA.out⟩
        case measure => simp only [intOf]; omega
    · obtain rfl : q = 10 := by omega
      go_wp2_with fail
      go_ret2
      exact .inr ⟨rfl, fun j h1 h2 => HN.out j h1 (by omega), HM.out, hc⟩
/-- The word that is taken. -/
def TookW (R cap k : Nat) (A : Option Addr) (ws : List W) (z : Int) (s : ByteArray) (w : World) (ee : Ending) (w' : World) : Prop :=
  ee = .returned (.agg #[.int .i64 z, .string s]) ∧ Mv R w w' ∧ Cu w' R A cap ws k
theorem Mv.set {R : Nat} {w w' : World} (h : Mv R w w') {b : Nat} (hb : w.heap.size ≤ b) (hR : R < w.heap.size) (o : Nat) (v : Value) : Mv R w (w'.setCell ⟨b, o, none⟩ v) :=
  ⟨⟨h.1.below.setCell (p := ⟨b, o, none⟩) (by show R ≤ b; omega) v, fun k h1 h2 => by
    show (w'.heap.modify b _)[k]? = _
    rw [Array.getElem?_modify, if_neg (by omega)]
    exact h.1.above k h1 h2⟩, fun o' ho => by rw [World.cell?_setCell_other _ _ _ _ (by intro e; injection e with e; omega)]; exact h.2 o' ho⟩
theorem Mv.drew {R : Nat} {w w' : World} (h : Mv R w w') : Mv R w w'.drew := ⟨⟨h.1.below.drew, h.1.above⟩, h.2⟩
theorem Cu.set {w : World} {R cap k : Nat} {A : Option Addr} {ws : List W} (h : Cu w R A cap ws k) {b : Nat} (hb : R < b) (o : Nat) (v : Value) : Cu (w.setCell ⟨b, o, none⟩ v) R A cap ws k :=
  ⟨h.wd.below ((Below.refl R w).setCell (p := ⟨b, o, none⟩) (Nat.le_of_lt hb) _), by simpa using h.lt, by rw [World.cell?_setCell_other _ _ _ _ (by intro e; injection e with e; omega)]; exact h.c0,
    by rw [World.cell?_setCell_other _ _ _ _ (by intro e; injection e with e; omega)]; exact h.c1, by rw [World.frozen?_setCell]; exact h.f1, h.le⟩
set_option maxHeartbeats 4000000 in
theorem take_yes (R cap k : Nat) (A : Option Addr) (ws : List W) (w : World) (h : Cu w R A cap ws k) (hn : ws.length ≤ 600) (hk : k < ws.length) :
    Calls Tryz.prog 101 #[.pointer (some ⟨R, 0, none⟩)] w (TookW R cap (k + 1) A ws ws[k].1 ws[k].2 w) := by
  have hal : Below w.heap.size w (w.alloc (.cells #[.int .i64 0, .string ⟨#[]⟩] 76)) := (Below.refl _ _).alloc (Nat.le_refl _) _
  have HA := Lib.hid (h.below hal)
  have HM := Lib.hid (Mv.of_below (R := R) hal h.lt)
  have AE := Lib.hid (atEnd_any R cap k A ws _ HA.out)
  have r0 : (w.alloc (.cells #[.int .i64 0, .string ⟨#[]⟩] 76)).cell? ⟨w.heap.size, 0, none⟩ = some (.int .i64 0) := alloc_cell w _ _ (0, 0) 0
  have r1 : (w.alloc (.cells #[.int .i64 0, .string ⟨#[]⟩] 76)).cell? ⟨w.heap.size, 1, none⟩ = some (.string ⟨#[]⟩) := alloc_cell w _ _ (0, 0) 1
  have f0 := alloc_frozen w #[.int .i64 0, .string ⟨#[]⟩] 76 0
  have f1 := alloc_frozen w #[.int .i64 0, .string ⟨#[]⟩] 76 1
  have hlt := h.lt
  have hle := h.le
  obtain ⟨b, o, rfl, hB, d1, d2⟩ := HA.out.wd.at_ hk
  have c0 := HA.out.c0
  have c1 := HA.out.c1
  have g1 := HA.out.f1
  have e0 : decide (k = ws.length) = false := decide_eq_false (by omega)
  rw [e0] at AE
  have hk3 : k ≤ 600 := by omega
  have hk1 : (0 : Int) ≤ (k : Int) := by omega
  have hk2 : (k : Int) < (ws.length : Int) := by omega
  have hne : b ≠ R := by omega
  have hRw : R ≠ w.heap.size := by omega
  have hbw : b ≠ w.heap.size := by omega
  clear h e0 hal
  generalize hs : ws[k].2 = s at *
  generalize hz : ws[k].1 = z at *
  clear hs hz
  go_enter Tryz.func101, Tryz.ntmps101
  go_wp2_with fail
  generalize w.alloc (.cells #[.int .i64 0, .string ⟨#[]⟩] 76) = wa at *
  (with_reducible refine Calls.mono AE.out ?_)
  rintro ee w1 ⟨rfl, rfl⟩
  go_wp2_with fail
  have c0' : (wa.drew.setCell ⟨R, 1, none⟩ (.int .i64 ((k : Int) + 1))).cell? ⟨R, 0, none⟩ = some (.slice (some ⟨b, o, none⟩) ws.length cap) := by rw [World.cell?_setCell_other _ _ _ _ (by simp)]; exact c0
  have c1' : (wa.drew.setCell ⟨R, 1, none⟩ (.int .i64 ((k : Int) + 1))).cell? ⟨R, 1, none⟩ = some (.int .i64 ((k : Int) + 1)) := World.cell?_setCell_same _ _ _ c1
  go_region
  all_goals
    go_wp2_with fail
    refine bodyPost_ret (v := .agg #[.int .i64 z, .string s]) (by simp [results, Tryz.results101, go_sem, r0, r1]) rfl ⟨rfl, ?_, ?_⟩
    · exact (((HM.out.drew.trans (Mv.next _ _ (.int .i64 ((k + 1 : Nat) : Int)))).drew).set (Nat.le_refl _) hlt 0 (.int .i64 z)).set (Nat.le_refl _) hlt 1 (.string s)
    · exact ((HA.out.drew.next (k' := k + 1) hk).drew.set hlt 0 (.int .i64 z)).set hlt 1 (.string s)
set_option maxHeartbeats 4000000 in
theorem take_no (R cap k : Nat) (A : Option Addr) (ws : List W) (w : World) (h : Cu w R A cap ws k) (hk : ¬ k < ws.length) :
    Calls Tryz.prog 101 #[.pointer (some ⟨R, 0, none⟩)] w (TookW R cap k A ws 0 ⟨#[]⟩ w) := by
  have hal : Below w.heap.size w (w.alloc (.cells #[.int .i64 0, .string ⟨#[]⟩] 76)) := (Below.refl _ _).alloc (Nat.le_refl _) _
  have HA := Lib.hid (h.below hal)
  have HM := Lib.hid (Mv.of_below (R := R) hal h.lt)
  have AE := Lib.hid (atEnd_any R cap k A ws _ HA.out)
  have r0 : (w.alloc (.cells #[.int .i64 0, .string ⟨#[]⟩] 76)).cell? ⟨w.heap.size, 0, none⟩ = some (.int .i64 0) := alloc_cell w _ _ (0, 0) 0
  have r1 : (w.alloc (.cells #[.int .i64 0, .string ⟨#[]⟩] 76)).cell? ⟨w.heap.size, 1, none⟩ = some (.string ⟨#[]⟩) := alloc_cell w _ _ (0, 0) 1
  have f0 := alloc_frozen w #[.int .i64 0, .string ⟨#[]⟩] 76 0
  have f1 := alloc_frozen w #[.int .i64 0, .string ⟨#[]⟩] 76 1
  have hlt := h.lt
  have hle := h.le
  have e0 : decide (k = ws.length) = true := decide_eq_true (by omega)
  rw [e0] at AE
  clear h e0 hal
  go_enter Tryz.func101, Tryz.ntmps101
  go_wp2_with fail
  generalize hwa : w.alloc (.cells #[.int .i64 0, .string ⟨#[]⟩] 76) = wa at *
  (with_reducible refine Calls.mono AE.out ?_)
  rintro ee w1 ⟨rfl, rfl⟩
  clear hwa
  go_wp2_with fail
  refine bodyPost_ret (v := .agg #[.int .i64 0, .string ⟨#[]⟩]) (by simp [results, Tryz.results101, go_sem, r0, r1]) rfl ⟨rfl, ?_, ?_⟩
  · exact (HM.out.drew.set (Nat.le_refl _) hlt 0 (.int .i64 0)).set (Nat.le_refl _) hlt 1 (.string ⟨#[]⟩)
  · exact (HA.out.drew.set hlt 0 (.int .i64 0)).set hlt 1 (.string ⟨#[]⟩)
end Go.Proofs.YtkhcfhhejmkikaaGreatDoor
