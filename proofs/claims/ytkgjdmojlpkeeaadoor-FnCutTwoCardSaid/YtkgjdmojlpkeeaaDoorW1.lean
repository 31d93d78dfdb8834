/-
  Words in memory: a slice of words that reads as a list; what the laws' own helpers on words return.
-/
import Derived.Test.YtkgjdmojlpkeeaaDoorChecked
import Derived.Test.YtkgjdmojlpkeeaaDoorMath
import Derived.WalkKit
import Derived.LoopTactic
import Derived.Lib.Hide
import Derived.Outline
import Derived.BigQuiet
import Derived.Deep.QuietTactic
import Derived.WalkSpells
import Derived.WalkLawsBesides
import Derived.Handy
import Derived.Deep.RegionHeld3
namespace Go.Proofs.YtkgjdmojlpkeeaaDoor
open Go.RowKit
set_option maxRecDepth 100000

theorem bcell {W w1 : World} (hb : Below W.heap.size W w1) : ∀ b o, b < W.heap.size → w1.cell? ⟨b, o, none⟩ = W.cell? ⟨b, o, none⟩ :=
  fun b o h => hb.cell (p := ⟨b, o, none⟩) h
theorem alloc_cell (w : World) (cs : Array Value) (t : TypeId) (fr : Nat × Nat) (k : Nat) : (w.alloc (.cells cs t fr)).cell? ⟨w.heap.size, k, none⟩ = cs[k]? := by
  have hb : (w.alloc (.cells cs t fr)).heap[w.heap.size]? = some (.cells cs t fr) := by
    show (w.heap.push (.cells cs t fr))[w.heap.size]? = _
    simp
  unfold World.cell?
  rw [hb]
  rfl
theorem alloc_frozen (w : World) (cs : Array Value) (t : TypeId) (k : Nat) : (w.alloc (.cells cs t (0, 0))).frozen? ⟨w.heap.size, k, none⟩ = false :=
  frozen_of_row _ _ k cs t (by show (w.heap.push (.cells cs t (0, 0)))[w.heap.size]? = _; simp)
/-- What szWord returns. -/
def szW (s : ByteArray) (left : Int) : Int := if left - s.size < 0 then -1 else left - s.size
set_option maxHeartbeats 400000 in
theorem szWord_any (n : Int) (s : ByteArray) (left : Int) (w : World) (hs : s.size ≤ maxLen) (h0 : -1 ≤ left) (h1 : left ≤ 1048576) :
    Calls Tryd.prog 21 #[.agg #[.int .i64 n, .string s], .int .i64 left] w fun e w' => e = .returned (.int .i64 (szW s left)) ∧ Below w.heap.size w w' := by
  unfold maxLen at hs
  unfold szW
  by_cases h : left - s.size < 0
  · rw [if_pos h]
    have h' : left < s.size := by omega
    go_enter Tryd.func21, Tryd.ntmps21
    go_wp2
    go_ret
    exact ⟨rfl, (Below.refl _ _).alloc (Nat.le_refl _) _⟩
  · rw [if_neg h]
    have h' : s.size ≤ left := by omega
    go_enter Tryd.func21, Tryd.ntmps21
    go_wp2
    go_ret
    exact ⟨rfl, (Below.refl _ _).alloc (Nat.le_refl _) _⟩

set_option maxHeartbeats 400000 in
theorem toWord_any (n : Int) (s : ByteArray) (w : World) :
    Calls Tryd.prog 23 #[.agg #[.int .i64 n, .string s]] w fun e w' => e = .returned (.agg #[.int .i64 n, .string s]) ∧ Below w.heap.size w w' := by
  go_enter Tryd.func23, Tryd.ntmps23
  go_wp2
  go_returns
  exact ⟨rfl, (((Below.refl _ _).alloc (Nat.le_refl _) _).alloc (by simp) _).alloc (by simp; omega) _⟩

set_option maxHeartbeats 400000 in
theorem eqWord_any (n : Int) (s : ByteArray) (n' : Int) (s' : ByteArray) (w : World) :
    Calls Tryd.prog 57 #[.agg #[.int .i64 n, .string s], .agg #[.int .i64 n', .string s']] w fun e w' => e = .returned (.bool (decide (n = n' ∧ s = s'))) ∧ Below w.heap.size w w' := by
  by_cases h1 : n = n'
  · subst h1
    by_cases h2 : s = s'
    · subst h2
      have e1 : (n != n) = false := by simp
      have e2 : (s.toList == s.toList) = true := by simp
      go_enter Tryd.func57, Tryd.ntmps57
      go_wp2
      go_ret
      exact ⟨ret_bool (by simp), ((Below.refl _ _).alloc (Nat.le_refl _) _).alloc (by simp) _⟩
    · have e1 : (n != n) = false := by simp
      have e2 : (s.toList == s'.toList) = false := str_eq_false h2
      have HC := Lib.hid h2; clear h2
      go_enter Tryd.func57, Tryd.ntmps57
      go_wp2
      go_ret
      exact ⟨ret_bool (by simp [HC.out]), ((Below.refl _ _).alloc (Nat.le_refl _) _).alloc (by simp) _⟩
  · have e1 : (n == n') = false := by rw [beq_eq_false_iff_ne]; exact h1
    have e2 : (n != n') = true := by rw [bne, e1]; rfl
    have HC := Lib.hid h1; clear h1
    go_enter Tryd.func57, Tryd.ntmps57
    go_wp2
    go_ret
    exact ⟨ret_bool (by simp [HC.out]), ((Below.refl _ _).alloc (Nat.le_refl _) _).alloc (by simp) _⟩

/-- A slice of words that reads as a list; below block B. -/
def Words (w : World) (B : Nat) (A : Option Addr) (ws : List (Int × ByteArray)) : Prop :=
  ws ≠ [] → ∃ b o, A = some ⟨b, o, none⟩ ∧ b < B ∧ ∀ k, (h : k < ws.length) → w.cell? ⟨b, o + k * 2, none⟩ = some (.int .i64 ws[k].1) ∧ w.cell? ⟨b, o + k * 2 + 1, none⟩ = some (.string ws[k].2)
theorem Words.at_ {w : World} {B : Nat} {A : Option Addr} {ws : List (Int × ByteArray)} (h : Words w B A ws) {k : Nat} (hk : k < ws.length) :
    ∃ b o, A = some ⟨b, o, none⟩ ∧ b < B ∧ w.cell? ⟨b, o + k * 2, none⟩ = some (.int .i64 ws[k].1) ∧ w.cell? ⟨b, o + k * 2 + 1, none⟩ = some (.string ws[k].2) := by
  obtain ⟨b, o, e, hb, hc⟩ := h (by intro e; subst e; simp at hk)
  exact ⟨b, o, e, hb, (hc k hk).1, (hc k hk).2⟩
theorem Words.below {w w' : World} {B : Nat} {A : Option Addr} {ws : List (Int × ByteArray)} (h : Words w B A ws) (hb : Below B w w') : Words w' B A ws := by
  intro hne
  obtain ⟨b, o, e, hB, hc⟩ := h hne
  exact ⟨b, o, e, hB, fun k hk => ⟨(hb.cell (p := ⟨b, _, none⟩) hB).trans (hc k hk).1, (hb.cell (p := ⟨b, _, none⟩) hB).trans (hc k hk).2⟩⟩
theorem Words.more {w : World} {B B' : Nat} {A : Option Addr} {ws : List (Int × ByteArray)} (h : Words w B A ws) (hB : B ≤ B') : Words w B' A ws := by
  intro hne
  obtain ⟨b, o, e, hb, hc⟩ := h hne
  exact ⟨b, o, e, by omega, hc⟩
/-- What szWordS comes to behind k words. -/
def szTo (ws : List (Int × ByteArray)) (left : Int) : Nat → Int
  | 0 => left
  | k + 1 => szTo ws left k - (ws.getD k (0, ByteArray.empty)).2.size
theorem szTo_le (ws : List (Int × ByteArray)) (left : Int) (k : Nat) : szTo ws left k ≤ left := by
  induction k with
  | zero => exact Int.le_refl _
  | succ k ih => unfold szTo; omega
set_option maxHeartbeats 400000 in
/-- It returns less than 0, or the words are few and each text is short. -/
theorem szWordS_any (A : Option Addr) (ws : List (Int × ByteArray)) (cap : Nat) (left : Int) (w : World) (hW : Words w w.heap.size A ws) (hs : ∀ x ∈ ws, x.2.size ≤ maxLen) (hn : ws.length ≤ 9223372036854775807) (h0 : 0 ≤ left) (h1 : left ≤ 1048576) :
    Calls Tryd.prog 37 #[.slice A ws.length cap, .int .i64 left] w fun e w' => (∃ r : Int, e = .returned (.int .i64 r) ∧ -1 ≤ r ∧ r ≤ 1048576 ∧ (0 ≤ r → ws.length ≤ 1048576 ∧ ∀ x ∈ ws, x.2.size ≤ 1048576)) ∧ Below w.heap.size w w' := by
  by_cases hl : left < ws.length
  · go_enter Tryd.func37, Tryd.ntmps37
    go_wp2
    go_ret
    exact ⟨⟨-1, rfl, by omega, by omega, by omega⟩, Below.refl _ _⟩
  · have hl' : ws.length ≤ left := by omega
    go_enter Tryd.func37, Tryd.ntmps37
    go_wp2
    go_loopw [1, 5] (fun v i wr => ∃ (k : Nat) (r : Int), k ≤ ws.length ∧ i = .int .i64 k ∧ v = .int .i64 r ∧ 0 ≤ r ∧ r ≤ 1048576 ∧ (∀ j, (h : j < ws.length) → j < k → ws[j].2.size ≤ 1048576) ∧ Below w.heap.size w wr) (fun _ i _ => ws.length - (intOf i).toNat)
    case atStart => exact ⟨0, _, Nat.zero_le _, rfl, rfl, by omega, by omega, fun j _ hj => absurd hj (by omega), Below.refl _ _⟩
    case round =>
      obtain ⟨k, r, hk, rfl, rfl, hr0, hr1, hall, hb⟩ := hrel
      by_cases hlt : k < ws.length
      · obtain ⟨b, o, rfl, hB, hc1, hc2⟩ := (hW.below hb).at_ hlt
        have hsz := hs _ (List.getElem_mem hlt)
        have HA := Lib.hid hall; clear hall
        generalize ws[k].1 = n1 at *
        generalize hs1 : ws[k].2 = s1 at *
        have HS := Lib.hid hs1; clear hs1
        go_wp2_with fail
        refine (szWord_any n1 s1 r _ hsz (by omega) hr1).mono ?_
        rintro e w' ⟨rfl, hb1⟩
        unfold szW
        by_cases hneg : r - s1.size < 0
        · rw [if_pos hneg]
          have hb2 := hb.trans (hb1.mono hb.size)
          clear hb hb1
          go_wp2
          go_ret
          exact ⟨⟨-1, rfl, by omega, by omega, by omega⟩, hb2⟩
        · rw [if_neg hneg]
          have hb2 := hb.trans (hb1.mono hb.size)
          clear hb hb1
          have hge : (s1.size : Int) ≤ r := by omega
          go_wp2
          go_roundw
          case rel => exact ⟨k + 1, r - s1.size, by omega, by go_num, rfl, by omega, by omega, fun j hj hjk => by
            by_cases e : j = k
            · subst e; rw [HS.out]; omega
            · exact HA.out j hj (by omega), hb2⟩
          case measure => simp only [intOf]; omega
      · obtain rfl : k = ws.length := by omega
        go_wp2
        go_ret
        refine ⟨⟨r, rfl, by omega, hr1, fun _ => ⟨by omega, fun x hx => ?_⟩⟩, hb⟩
        obtain ⟨j, hj, rfl⟩ := List.getElem_of_mem hx
        exact hall j hj hj

set_option maxHeartbeats 1000000 in
theorem eqWordS_any (A : Option Addr) (ws : List (Int × ByteArray)) (cap : Nat) (A' : Option Addr) (ws' : List (Int × ByteArray)) (cap' : Nat) (w : World) (hW : Words w w.heap.size A ws) (hW' : Words w w.heap.size A' ws') (hn : ws.length ≤ 140737488351232) (hn' : ws'.length ≤ 140737488351232) :
    Calls Tryd.prog 34 #[.slice A ws.length cap, .slice A' ws'.length cap'] w fun e w' => e = .returned (.bool (decide (ws = ws'))) ∧ Below w.heap.size w w' := by
  by_cases hl : ws.length = ws'.length
  · have e1 : ((ws.length : Int) == (ws'.length : Int)) = true := by rw [beq_iff_eq]; omega
    have e2 : ((ws.length : Int) != (ws'.length : Int)) = false := by rw [bne, e1]; rfl
    have HL := Lib.hid hl; clear hl
    go_enter Tryd.func34, Tryd.ntmps34
    go_wp2
    clear e1 e2
    go_loopw [5] (fun i wr => ∃ (k : Nat), k ≤ ws.length ∧ i = .int .i64 k ∧ (∀ j, (h : j < ws.length) → (h' : j < ws'.length) → j < k → ws[j] = ws'[j]) ∧ Below w.heap.size w wr) (fun i _ => ws.length - (intOf i).toNat)
    case atStart => exact ⟨0, Nat.zero_le _, rfl, fun j _ _ hj => absurd hj (by omega), Below.refl _ _⟩
    case round =>
      obtain ⟨k, hk, rfl, hall, hb⟩ := hrel
      by_cases hlt : k < ws.length
      · have hlt' : k < ws'.length := by have := HL.out; omega
        obtain ⟨b, o, rfl, hB, hc1, hc2⟩ := (hW.below hb).at_ hlt
        obtain ⟨b', o', rfl, hB', hc1', hc2'⟩ := (hW'.below hb).at_ hlt'
        have HA := Lib.hid hall; clear hall
        generalize hs0 : ws[k] = x at *
        generalize hs1 : ws'[k] = x' at *
        have HS := Lib.hid hs0; clear hs0
        have HS' := Lib.hid hs1; clear hs1
        go_wp2_with fail
        have hsz := hb.size
        have hBr : b < wr.heap.size := by omega
        have hBr' : b' < wr.heap.size := by omega
        have C0 : ∀ u, _ := fun u => eqWord_any x.1 x.2 x'.1 x'.2 u
        cases hd : decide (x.1 = x'.1 ∧ x.2 = x'.2)
        · rw [hd] at C0
          have C0 := Lib.hid C0
          have hne : ws ≠ ws' := by
            rintro rfl
            rw [decide_eq_false_iff_not] at hd
            exact hd ⟨by rw [← HS.out, ← HS'.out], by rw [← HS.out, ← HS'.out]⟩
          have HN := Lib.hid hne
          clear hne hd
          go_region_held3 (fun u => u.cell? ⟨b, o + k * 2, none⟩ = some (.int .i64 x.1) ∧ u.cell? ⟨b, o + k * 2 + 1, none⟩ = some (.string x.2) ∧ u.cell? ⟨b', o' + k * 2, none⟩ = some (.int .i64 x'.1) ∧ u.cell? ⟨b', o' + k * 2 + 1, none⟩ = some (.string x'.2)) (go_keep)
            (first | (go_at_call 57; refine (C0.out _).mono ?_; rintro e w' ⟨rfl, hb1⟩; have g1 := (hb1.cell (p := ⟨b, o + k * 2, none⟩) hBr).trans hc1; have g2 := (hb1.cell (p := ⟨b, o + k * 2 + 1, none⟩) hBr).trans hc2; have g3 := (hb1.cell (p := ⟨b', o' + k * 2, none⟩) hBr').trans hc1'; have g4 := (hb1.cell (p := ⟨b', o' + k * 2 + 1, none⟩) hBr').trans hc2'))
          have hb2 := hb.drew.trans (hb1.mono (show w.heap.size ≤ wr.heap.size by omega))
          clear hb hb1
          go_wp2
          go_ret
          exact ⟨ret_bool (by simp [HN.out]), hb2⟩
        · rw [hd] at C0
          have C0 := Lib.hid C0
          rw [decide_eq_true_eq] at hd
          have HD := Lib.hid (show x = x' from Prod.ext hd.1 hd.2)
          clear hd
          go_region_held3 (fun u => u.cell? ⟨b, o + k * 2, none⟩ = some (.int .i64 x.1) ∧ u.cell? ⟨b, o + k * 2 + 1, none⟩ = some (.string x.2) ∧ u.cell? ⟨b', o' + k * 2, none⟩ = some (.int .i64 x'.1) ∧ u.cell? ⟨b', o' + k * 2 + 1, none⟩ = some (.string x'.2)) (go_keep)
            (first | (go_at_call 57; refine (C0.out _).mono ?_; rintro e w' ⟨rfl, hb1⟩; have g1 := (hb1.cell (p := ⟨b, o + k * 2, none⟩) hBr).trans hc1; have g2 := (hb1.cell (p := ⟨b, o + k * 2 + 1, none⟩) hBr).trans hc2; have g3 := (hb1.cell (p := ⟨b', o' + k * 2, none⟩) hBr').trans hc1'; have g4 := (hb1.cell (p := ⟨b', o' + k * 2 + 1, none⟩) hBr').trans hc2'))
          have hb2 := hb.drew.trans (hb1.mono (show w.heap.size ≤ wr.heap.size by omega))
          clear hb hb1
          go_wp2
          go_roundw
          case rel => exact ⟨k + 1, by omega, by go_num, fun j h1 h2 hjk => by
            by_cases e : j = k
            · subst e; exact (HS.out.trans HD.out).trans HS'.out.symm
            · exact HA.out j h1 h2 (by omega), hb2⟩
          case measure => simp only [intOf]; omega
      · obtain rfl : k = ws.length := by omega
        go_wp2
        go_ret
        refine ⟨ret_bool ?_, hb⟩
        rw [eq_comm, decide_eq_true_eq]
        exact List.ext_getElem HL.out (fun j h1 h2 => hall j h1 h2 h1)
  · have e1 : ((ws.length : Int) == (ws'.length : Int)) = false := by rw [beq_eq_false_iff_ne]; omega
    have e2 : ((ws.length : Int) != (ws'.length : Int)) = true := by rw [bne, e1]; rfl
    have HL := Lib.hid hl; clear hl
    go_enter Tryd.func34, Tryd.ntmps34
    go_wp2
    go_ret
    refine ⟨ret_bool ?_, Below.refl _ _⟩
    rw [eq_comm, decide_eq_false_iff_not]
    rintro rfl
    exact HL.out rfl

/-- The cells of words. -/
def wordCells : List (Int × ByteArray) → List Value
  | [] => []
  | x :: l => .int .i64 x.1 :: .string x.2 :: wordCells l
theorem wordCells_length (l : List (Int × ByteArray)) : (wordCells l).length = l.length * 2 := by
  induction l with
  | nil => rfl
  | cons x l ih => simp only [wordCells, List.length_cons, ih]; omega
theorem wordCells_at : ∀ (l : List (Int × ByteArray)) (k : Nat) (h : k < l.length), (wordCells l)[k * 2]? = some (.int .i64 l[k].1) ∧ (wordCells l)[k * 2 + 1]? = some (.string l[k].2)
  | [], k, h => absurd h (by simp)
  | x :: l, 0, _ => ⟨rfl, rfl⟩
  | x :: l, k + 1, h => by
    have ih := wordCells_at l k (by simpa using h)
    have e1 : (k + 1) * 2 = k * 2 + 1 + 1 := by omega
    have e2 : (k + 1) * 2 + 1 = k * 2 + 1 + 1 + 1 := by omega
    refine ⟨?_, ?_⟩
    · rw [e1]; simpa [wordCells] using ih.1
    · rw [e2]; simpa [wordCells] using ih.2
theorem Words.of_own {w : World} {base : Nat} {e : TypeId} {g cap : Nat} {ws : List (Int × ByteArray)} (h : w.ownsRow base e 2 (.slice (some ⟨g, 0, none⟩) ws.length cap) ws.length (wordCells ws)) : Words w w.heap.size (some ⟨g, 0, none⟩) ws := by
  intro hne
  refine ⟨g, 0, rfl, (h.lt g rfl).2, fun k hk => ?_⟩
  have c := wordCells_at ws k hk
  exact ⟨by rw [Nat.zero_add, h.cellAt _ (by omega), c.1], by rw [Nat.zero_add, h.cellAt _ (by omega), c.2]⟩
/-- The cells behind k rounds: k words are there. -/
def partCells (ws : List (Int × ByteArray)) (k : Nat) (xs : List Value) : Prop := xs.length = ws.length * 2 ∧ ∀ j, j < k * 2 → xs[j]? = (wordCells ws)[j]?
theorem partCells_succ {ws : List (Int × ByteArray)} {k : Nat} {xs : List Value} (h : partCells ws k xs) (hk : k < ws.length) : partCells ws (k + 1) ((xs.set (k * 2) (.int .i64 ws[k].1)).set (k * 2 + 1) (.string ws[k].2)) := by
  refine ⟨by simpa using h.1, fun j hj => ?_⟩
  have hl := h.1
  have c := wordCells_at ws k hk
  rw [List.getElem?_set, List.getElem?_set]
  by_cases e1 : k * 2 + 1 = j
  · subst e1; rw [if_pos rfl, if_pos (by simp; omega)]; exact c.2.symm
  · rw [if_neg e1]
    by_cases e2 : k * 2 = j
    · subst e2; rw [if_pos rfl, if_pos (by omega)]; exact c.1.symm
    · rw [if_neg e2]; exact h.2 j (by omega)
theorem partCells_end {ws : List (Int × ByteArray)} {xs : List Value} (h : partCells ws ws.length xs) : xs = wordCells ws := by
  apply List.ext_getElem?
  intro j
  by_cases hj : j < ws.length * 2
  · exact h.2 j hj
  · rw [List.getElem?_eq_none (by have := h.1; omega), List.getElem?_eq_none (by rw [wordCells_length]; omega)]
theorem wordInfo : (Tryd.prog.info? 37).map (fun i => (i.zero, i.size, i.bytes)) = some (some (.agg #[.int .i64 0, .string ⟨#[]⟩]), 2, 24) := by kernel_rfl

set_option maxHeartbeats 1000000 in
theorem toWordS_any (A : Option Addr) (ws : List (Int × ByteArray)) (cap : Nat) (w : World) (hW : Words w w.heap.size A ws) (hn : ws.length ≤ 1048576) :
    Calls Tryd.prog 39 #[.slice A ws.length cap] w fun e w' => (∃ A', e = .returned (.slice A' ws.length ws.length) ∧ Words w' w'.heap.size A' ws) ∧ Below w.heap.size w w' := by
  obtain ⟨i0, hi, hz0, hz1, hz2⟩ := info_parts wordInfo
  go_enter Tryd.func39, Tryd.ntmps39
  go_wp2_with (first
    | (with_reducible refine wpList_make_full _ rfl _ _ 26 rfl w.heap.size 37 i0 (.agg #[.int .i64 0, .string ⟨#[]⟩]) 2 Tryd.underlying26 hi hz0 hz1 _ _ _ _ ws.length rfl rfl rfl rfl ?c1 ?c2 ?c3 ?_)
    | fail)
  case c1 => rw [hz2]; omega
  case c2 => unfold maxLen; omega
  case c3 => exact Nat.le_refl _
  intro w1 hown hgrow
  have hb0 : Below w.heap.size w w1 := (Below.refl _ _).grown hgrow (Nat.le_refl _) (fun k e => by cases e)
  obtain ⟨xs0, hown0, hp0⟩ : ∃ xs0, w1.ownsRow w.heap.size 37 2 (.slice (some ⟨w.heap.size, 0, none⟩) ws.length ws.length) ws.length xs0 ∧ partCells ws 0 xs0 := ⟨_, hown, hown.1, fun j hj => absurd hj (by omega)⟩
  clear hown
  have HO0 := Lib.hid hown0
  clear hown0
  clear hgrow
  go_wp2
  go_loopw [4] (fun i wr => ∃ (k : Nat) (xs : List Value), k ≤ ws.length ∧ i = .int .i64 k ∧ wr.ownsRow w.heap.size 37 2 (.slice (some ⟨w.heap.size, 0, none⟩) ws.length ws.length) ws.length xs ∧ partCells ws k xs ∧ Below w.heap.size w wr) (fun i _ => ws.length - (intOf i).toNat)
  case atStart => exact ⟨0, xs0, Nat.zero_le _, rfl, HO0.out, hp0, hb0⟩
  case round =>
    clear HO0 hb0 hp0
    obtain ⟨k, xs, hk, rfl, hown, hp, hb⟩ := hrel
    by_cases hlt : k < ws.length
    · obtain ⟨b, o, rfl, hB, hc1, hc2⟩ := (hW.below hb).at_ hlt
      have HP := Lib.hid (partCells_succ hp hlt)
      have HX := Lib.hid hp.1
      clear hp
      generalize ws[k].1 = n1 at *
      generalize ws[k].2 = s1 at *
      go_wp2_with fail
      refine (toWord_any n1 s1 _).mono ?_
      rintro e w2 ⟨rfl, hb1⟩
      have hown2 := hown.kept (w' := w2) (row := none) ⟨hb1.os, hb1.tape, hb1.output, hb1.size, fun i hi _ => hb1.block i hi⟩ (by simp [Value.ownBlock])
      have hb2 := hb.trans (hb1.mono hb.size)
      clear hown hb hb1 hc1 hc2
      have hxl : xs.length = ws.length * 2 := HX.out
      have d1 := hown2.cellAt (k * 2) (by omega)
      have d2 := hown2.cellAt (k * 2 + 1) (by omega)
      have f1 := hown2.frozenAt (k * 2)
      have f2 := hown2.frozenAt (k * 2 + 1)
      rw [List.getElem?_eq_getElem (by omega)] at d1 d2
      generalize xs[k * 2] = y1 at *
      generalize xs[k * 2 + 1] = y2 at *
      have HO := Lib.hid hown2
      clear hown2 hxl
      go_wp2
      go_roundw
      case rel =>
        have hs1 := HO.out.stored (k * 2) (.int .i64 n1)
        have hs2 := hs1.1.stored (k * 2 + 1) (.string s1)
        exact ⟨k + 1, _, by omega, by go_num, hs2.1, HP.out, (hb2.setCell (Nat.le_refl _) _).setCell (Nat.le_refl _) _⟩
      case measure => simp only [intOf]; omega
    · obtain rfl : k = ws.length := by omega
      rw [partCells_end hp] at hown
      have HO := Lib.hid hown
      clear hown hp
      go_wp2
      go_ret
      exact ⟨⟨_, rfl, Words.of_own HO.out⟩, hb⟩
end Go.Proofs.YtkgjdmojlpkeeaaDoor
